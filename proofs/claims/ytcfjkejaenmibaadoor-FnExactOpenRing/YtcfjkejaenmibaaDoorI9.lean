import Derived.Test.YtcfjkejaenmibaaDoorOP
import Derived.Test.YtcfjkejaenmibaaDoorE3
/- The program: the last record, the first of its run. -/
namespace Go.Proofs.YtcfjkejaenmibaaDoor
open Go.ChangeShapes Go.WideShapes Go.ChangeAt Go.RowKit
set_option linter.unusedVariables false
open Lg

attribute [local go_sem] Oper.semAt_some

/-- A number that there may be none of, as the program keeps it. -/
def nz (p : Int) : Int := if 0 ≤ p then p else 0
set_option maxRecDepth 20000 in
set_option maxHeartbeats 4000000 in
theorem lastRecord_any (a : Option Addr) (c : Nat) (l : List Sl) (w : World) (hn : 2 ≤ l.length ∧ l.length ≤ 24) (hf : ∀ i, i < l.length → Few (gs l i)) (ha : Sls w a l) (hT : Tb w) :
    Calls Tryd.prog 61 #[.slice a l.length c] w fun e w' => e = .returned (.tuple #[.int .i64 (nz (tp l)), .bool (decide (0 ≤ tp l))]) ∧ Below w.heap.size w w' := by
  have HE : Hid (∀ i, l.length ≤ i → i ≤ l.length → tpN l i = tp l) := fun i h1 h2 => by rw [Nat.le_antisymm h2 h1]; rfl
  have H0 : Hid (tpN l 0 = -1) := rfl
  have Hst : Hid (∀ i, tpN l (i + 1) = if whB (gs l i) = true ∧ 0 < (gs l i).c ∧ tpN l i < ((gs l i).c - 1) * l.length + i then ((gs l i).c - 1) * l.length + i else tpN l i) := fun i => rfl
  have Hin : Hid (∀ i, i ≤ l.length → -1 ≤ tpN l i ∧ tpN l i ≤ 24000024) := tpN_in hn.2
  generalize tp l = TP at *
  generalize tpN l = t at *
  have HC : Hid (∀ i, i < l.length → ∀ W, Below w.heap.size w W → Calls Tryd.prog 69 #[sv (gs l i)] W fun e w' => e = .returned (.bool (whB (gs l i))) ∧ Below W.heap.size W w') := fun i hi W q => isWhole_any (gs l i) W (hf i hi) (hT.on q)
  have HS : Hid (RowS w a l.length (gs l)) := ha
  clear ha hf hT
  generalize gs l = g at *
  generalize l.length = n at *
  have Hn : Hid _ := hn
  clear hn
  go_enter Tryd.func61, Tryd.ntmps61
  go_wp2
  go_loopw [4, 5, 11] (fun la is k wr => ∃ (i : Nat), i ≤ n ∧ k = .int .i64 (i : Int) ∧ la = .int .i64 (nz (t i)) ∧ is = .bool (decide (0 ≤ t i)) ∧ Below w.heap.size w wr) (fun _ _ k _ => n - (intOf k).toNat)
  case atStart => exact ⟨0, Nat.zero_le _, rfl, by rw [H0.out]; rfl, by rw [H0.out]; rfl, Below.refl _ _⟩
  case round =>
    obtain ⟨i, hi, rfl, rfl, rfl, hb⟩ := hrel
    have hn24 := Hn.out.2
    by_cases hlt : i < n
    · have hst := Hst.out i
      have hin := Hin.out i hi
      have cW := HC.out i hlt
      obtain ⟨bb, off, rfl, hcell⟩ := (RowS.below HS.out hb) (by omega)
      obtain ⟨c0, c1, c2, c3⟩ := hcell i hlt
      generalize g i = x at *
      have hwc := fun q => wh_c (x := x) q
      obtain ⟨wh, hwh⟩ : ∃ wh, whB x = wh := ⟨_, rfl⟩
      rw [hwh] at hst cW hwc
      clear hwh hcell
      obtain ⟨xc, xt, xd, xs⟩ := x
      simp only at c0 c1 c2 c3 cW hst hwc
      obtain ⟨p, hp⟩ : ∃ p, t i = p := ⟨_, rfl⟩
      rw [hp] at hst hin ⊢
      have hlt' : (i : Int) < (n : Int) := by omega
      have Hi : Hid (t (i + 1) = _) := hst
      have Hp : Hid (-1 ≤ p ∧ p ≤ 24000024) := hin
      obtain ⟨E, hE⟩ : ∃ E, wr.heap.size = E := ⟨_, rfl⟩
      obtain ⟨Wz, hWz⟩ : ∃ Wz, wr.alloc (.cells #[.int .i64 0, .int .i64 0, .string ⟨#[]⟩, .int .i64 0] 41) = Wz := ⟨_, rfl⟩
      have qz : Below wr.heap.size wr Wz := by subst hWz; exact below_alloc _ _
      have HB : Hid (Wz.heap[E]? = some (.cells #[.int .i64 0, .int .i64 0, .string ⟨#[]⟩, .int .i64 0] 41 (0, 0))) := by subst hWz hE; exact al1 _ _
      obtain ⟨x0, x1, x2, x3⟩ := box4_cells HB.out
      obtain ⟨f0, f1, f2, f3⟩ := box4_free HB.out
      obtain ⟨W1, hW1⟩ : ∃ W1, (((Wz.setCell ⟨E, 0, none⟩ (.int .i64 xc)).setCell ⟨E, 1, none⟩ (.int .i64 xt)).setCell ⟨E, 2, none⟩ (.string xd)).setCell ⟨E, 3, none⟩ (.int .i64 xs) = W1 := ⟨_, rfl⟩
      have HW : Hid (W1.heap[E]? = some (.cells #[.int .i64 xc, .int .i64 xt, .string xd, .int .i64 xs] 41 (0, 0))) := by subst hW1; exact box4_set HB.out
      have q1 : Below wr.heap.size wr W1 := by subst hW1; exact set4_below qz (by omega) _ _ _ _
      have g1 : Below w.heap.size w W1 := Below.comp hb q1
      obtain ⟨z0, z1, z2, z3⟩ := box4_cells HW.out
      clear hst hin hp
      by_cases h0 : xc = 0
      · have h0' : (xc == 0) = true := by simp [h0]
        have h0'' : decide (xc = 0) = true := decide_eq_true h0
        have Hs : Hid (t (i + 1) = p) := Hi.out.trans (if_neg (by omega))
        clear Hi h0
        go_wp2_with fail
        go_roundw
        case rel => exact ⟨i + 1, by omega, by go_num, by rw [Hs.out], by rw [Hs.out], g1⟩
        case measure => simp [intOf]; omega
      · have h0' : (xc == 0) = false := by simp [h0]
        have h0'' : decide (xc = 0) = false := decide_eq_false h0
        have H0c : Hid (¬ xc = 0) := h0
        clear h0
        go_wp2_with fail
        refine (cW _ g1).mono ?_
        rintro e w2 ⟨rfl, b2⟩
        have g2 := Below.comp g1 b2
        obtain ⟨y0, y1, y2, y3⟩ := box4_cells (box_on HW.out b2)
        clear z0 z1 z2 z3 x0 x1 x2 x3 f0 f1 f2 f3 hWz hW1
        cases wh with
        | false =>
          have Hs : Hid (t (i + 1) = p) := Hi.out.trans (if_neg (by simp))
          clear Hi
          go_wp2_with fail
          go_roundw
          case rel => exact ⟨i + 1, by omega, by go_num, by rw [Hs.out], by rw [Hs.out], g2⟩
          case measure => simp [intOf]; omega
        | true =>
          have hw := hwc rfl
          have h0 := H0c.out
          have hm := mul_le24 (c := xc - 1) (n := n) (by omega) (by omega) Hn.out.2
          obtain ⟨y, hy⟩ : ∃ y, (xc - 1) * (n : Int) = y := ⟨_, rfl⟩
          rw [hy] at Hi hm
          have e1 : IntKind.i64.wrap (xc - 1) = xc - 1 := wrapI (by omega) (by omega)
          have e2 : IntKind.i64.wrap ((xc - 1) * (n : Int)) = y := by rw [hy]; exact wrapI (by omega) (by omega)
          have e3 : IntKind.i64.wrap (y + (i : Int)) = y + (i : Int) := wrapI (by omega) (by omega)
          have Hm : Hid _ := hm
          have Hw : Hid _ := hw
          clear hy hm hw hwc
          by_cases hp0 : 0 ≤ p
          · have hn1 : nz p = p := by unfold nz; rw [if_pos hp0]
            have hd1 : decide (0 ≤ p) = true := decide_eq_true hp0
            rw [hn1, hd1]
            by_cases hg : p < y + (i : Int)
            · have hg' : decide (p < y + (i : Int)) = true := decide_eq_true hg
              have Hs : Hid (t (i + 1) = y + i) := Hi.out.trans (if_pos ⟨rfl, by have := Hw.out; omega, hg⟩)
              clear Hi hg
              go_wp2_with fail
              go_roundw
              case rel => exact ⟨i + 1, by omega, by go_num, by rw [Hs.out]; unfold nz; rw [if_pos (by have := Hm.out; omega)], by rw [Hs.out, decide_eq_true (by have := Hm.out; omega)], g2⟩
              case measure => simp [intOf]; omega
            · have hg' : decide (p < y + (i : Int)) = false := decide_eq_false hg
              have Hs : Hid (t (i + 1) = p) := Hi.out.trans (if_neg (fun q => hg q.2.2))
              clear Hi hg
              go_wp2_with fail
              go_roundw
              case rel => exact ⟨i + 1, by omega, by go_num, by rw [Hs.out, hn1], by rw [Hs.out, hd1], g2⟩
              case measure => simp [intOf]; omega
          · have hd1 : decide (0 ≤ p) = false := decide_eq_false hp0
            rw [hd1]
            have Hs : Hid (t (i + 1) = y + i) := Hi.out.trans (if_pos ⟨rfl, by have := Hw.out; omega, by have := Hm.out; omega⟩)
            clear Hi
            go_wp2_with fail
            go_roundw
            case rel => exact ⟨i + 1, by omega, by go_num, by rw [Hs.out]; unfold nz; rw [if_pos (by have := Hm.out; omega)], by rw [Hs.out, decide_eq_true (by have := Hm.out; omega)], g2⟩
            case measure => simp [intOf]; omega
    · have hlt' : ¬ ((i : Int) < (n : Int)) := by omega
      have he := HE.out i (by omega) hi
      rw [he]
      go_wp2_with fail
      go_ret2
      exact ⟨rfl, hb⟩
end Go.Proofs.YtcfjkejaenmibaaDoor

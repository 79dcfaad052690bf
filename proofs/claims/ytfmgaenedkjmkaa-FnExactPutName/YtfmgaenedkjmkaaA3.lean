import Derived.Test.YtfmgaenedkjmkaaA2
import Derived.Test.YtfmgaenedkjmkaaP2
import Derived.Shelf.Abstract
/- The program: names as said, places, rows of names that are all so. -/
namespace Go.Proofs.Ytfmgaenedkjmkaa
open Go.ChangeShapes Go.WideShapes Go.ChangeAt Go.RowKit
set_option linter.unusedVariables false
open Hd

attribute [local go_sem] Oper.semAt_some

set_option maxHeartbeats 1000000 in
theorem isName_any (s : ByteArray) (w : World) (hs : s.size ≤ 9223372036854775807) :
    Calls Try.prog 63 #[.string s] w fun e w' => e = .returned (.bool (isN s)) ∧ w' = w := by
  by_cases hz : 1 ≤ s.size ∧ s.size ≤ 12
  · obtain ⟨h1, h12⟩ := hz
    go_enter Try.func63, Try.ntmps63
    go_wp2
    go_loop [14] (fun i => ∃ k : Nat, k ≤ s.size ∧ i = .int .i64 k ∧ ((bt s).take k).all okB = true) (fun i => s.size - (intOf i).toNat)
    case atStart => exact ⟨0, Nat.zero_le _, rfl, rfl⟩
    case round =>
      obtain ⟨k, hk, rfl, ha⟩ := hrel
      have HA : Hid _ := ha
      clear ha
      by_cases hlt : k < s.size
      · have HT : Hid _ := all_take hlt
        have HF : Hid (okB s[k] = false → isN s = false) := fun h => isN_bad hlt h
        have e := okB_is s[k]
        have c := fun W => indexByte_any nbl (s[k].toNat : Int) W
        generalize Lib.indexByte (bt nbl) (Int.toNat (s[k].toNat : Int)).toUInt8 = r at e c
        generalize okB s[k] = o at *
        cases o with
        | true =>
          simp only [Bool.not_true] at e
          go_wp2_with (go_at_call 81; refine (c _).mono ?_; rintro e w' ⟨rfl, rfl⟩)
          go_round
          case rel => exact ⟨k + 1, by omega, by go_num, by rw [HT.out, HA.out]; rfl⟩
          case measure => simp [intOf]; omega
        | false =>
          simp only [Bool.not_false] at e
          have HR : Hid _ := HF.out rfl
          go_wp2_with (go_at_call 81; refine (c _).mono ?_; rintro e w' ⟨rfl, rfl⟩)
          go_ret
          exact ⟨ret_bool HR.out.symm, rfl⟩
      · have e : (bt s).take k = bt s := List.take_of_length_le (by simp; omega)
        have HA' := HA.out
        rw [e] at HA'
        have hN : isN s = true := by
          unfold isN
          rw [HA', Bool.true_and]
          simp
          omega
        have HN : Hid _ := hN
        clear hN HA HA' e
        go_wp2
        go_ret
        exact ⟨ret_bool HN.out.symm, rfl⟩
  · have hN : isN s = false := by
      unfold isN
      have : (decide (1 ≤ s.size) && decide (s.size ≤ 12)) = false := by
        rw [Bool.and_eq_false_iff, decide_eq_false_iff_not, decide_eq_false_iff_not]
        omega
      rw [this, Bool.and_false]
    have HN : Hid _ := hN
    clear hN
    by_cases h1 : s.size < 1
    · have h1' : (s.size : Int) < 1 := by omega
      go_enter Try.func63, Try.ntmps63
      go_wp2
      go_ret
      exact ⟨ret_bool HN.out.symm, rfl⟩
    · have h1' : ¬ (s.size : Int) < 1 := by omega
      have h2' : (12 : Int) < (s.size : Int) := by omega
      go_enter Try.func63, Try.ntmps63
      go_wp2
      go_ret
      exact ⟨ret_bool HN.out.symm, rfl⟩
/-- A name and its file are as said. -/
def isE (x : Nm) : Bool := isN x.nm && isF x.fl
theorem isEntry_any (x : Nm) (w : World) (hs : x.nm.size ≤ 9223372036854775807) :
    Calls Try.prog 40 #[nv x] w fun e w' => e = .returned (.bool (isE x)) ∧ Below w.heap.size w w' := by
  obtain ⟨s, f⟩ := x
  have c := fun W => isName_any s W hs
  unfold isE nv
  simp only at c ⊢
  cases hN : isN s with
  | false =>
    rw [hN] at c
    simp only [Bool.false_and]
    go_enter Try.func40, Try.ntmps40
    go_wp2_with (go_at_call 63; refine (c _).mono ?_; rintro e w' ⟨rfl, rfl⟩)
    go_ret
    exact ⟨rfl, below_alloc _ _⟩
  | true =>
    rw [hN] at c
    simp only [Bool.true_and, isF]
    by_cases h0 : 0 ≤ f
    · go_enter Try.func40, Try.ntmps40
      go_wp2_with (go_at_call 63; refine (c _).mono ?_; rintro e w' ⟨rfl, rfl⟩)
      all_goals
        go_ret
        refine ⟨ret_bool ?_, below_alloc _ _⟩
        simp [h0]
    · have h0' : decide (0 ≤ f) = false := by simpa using h0
      go_enter Try.func40, Try.ntmps40
      go_wp2_with (go_at_call 63; refine (c _).mono ?_; rintro e w' ⟨rfl, rfl⟩)
      go_ret
      exact ⟨ret_bool (by simp [h0']), below_alloc _ _⟩
abbrev pv (d f : Nat) : Value := .agg #[.int .i64 (d : Int), .int .i64 (f : Int)]
theorem hasSlot_any (d f n : Nat) (w : World) (hn : n < 9223372036854775808) (hd : d ≤ 62) :
    Calls Try.prog 77 #[pv d f, .int .i64 (n : Int)] w fun e w' => e = .returned (.bool (decide (low n d = f))) ∧ Below w.heap.size w w' := by
  have e0 : (((low n d : Nat) : Int) == (f : Int)) = decide (low n d = f) := by rw [Bool.eq_iff_iff, beq_iff_eq, decide_eq_true_eq]; exact Int.ofNat_inj
  have c := fun W => lowestBits_any n d W hn hd
  generalize low n d = r at *
  go_enter Try.func77, Try.ntmps77
  go_wp2
  go_quiet ((go_at_call 68; exact Calls.quiet_of_same (c _)))
  go_wp2
  go_ret
  exact ⟨ret_bool (by first | exact e0 | rfl), below_drewN (below_alloc _ _) _⟩
theorem hasName_any (d f : Nat) (x : Nm) (w : World) (hs : x.nm.size ≤ 9223372036854775807) (hd : d ≤ 62) :
    Calls Try.prog 79 #[pv d f, nv x] w fun e w' => e = .returned (.bool (decide (low (nh x.nm) d = f))) ∧ Below w.heap.size w w' := by
  obtain ⟨s, fl⟩ := x
  have h0 := nh_lt s
  have c1 := fun W => implHash_any s W hs
  have c2 := fun W => hasSlot_any d f (nh s) W (by omega) hd
  unfold nv pv at *
  simp only at c1 c2 ⊢
  generalize decide (low (nh s) d = f) = r at *
  generalize ((nh s : Nat) : Int) = N at *
  obtain ⟨W0, hW0⟩ : ∃ W0, (w.alloc (.cells #[.int .i64 (d : Int), .int .i64 (f : Int)] 92)).alloc (.cells #[.string s, .int .i64 fl] 36) = W0 := ⟨_, rfl⟩
  have q0 : Below w.heap.size w W0 := by subst hW0; exact ba2 _ _ _
  obtain ⟨B1, B2⟩ : W0.heap[w.heap.size]? = some (.cells #[.int .i64 (d : Int), .int .i64 (f : Int)] 92 (0, 0)) ∧ W0.heap[w.heap.size + 1]? = some (.cells #[.string s, .int .i64 fl] 36 (0, 0)) := by subst hW0; exact al2 _ _ _
  obtain ⟨x0, x1, -, -⟩ := box2_cells B1
  obtain ⟨y0, y1, -, -⟩ := box2_cells B2
  clear B1 B2
  have SB : Hid (∀ W, Below W0.heap.size W0 W → W.cell? ⟨w.heap.size, 0, none⟩ = some (.int .i64 (d : Int)) ∧ W.cell? ⟨w.heap.size, 1, none⟩ = some (.int .i64 (f : Int)) ∧ W.cell? ⟨w.heap.size + 1, 0, none⟩ = some (.string s) ∧ Below W0.heap.size W0 W) := fun W g => ⟨cell_on x0 g, cell_on x1 g, cell_on y0 g, g⟩
  go_enter Try.func79, Try.ntmps79
  go_wp2
  clear x0 x1 y0 y1
  go_region_held3 (fun W => W.cell? ⟨w.heap.size, 0, none⟩ = some (.int .i64 (d : Int)) ∧ W.cell? ⟨w.heap.size, 1, none⟩ = some (.int .i64 (f : Int)) ∧ W.cell? ⟨w.heap.size + 1, 0, none⟩ = some (.string s) ∧ Below W0.heap.size W0 W)
    ((refine SB.out _ ?_; first | assumption | exact Below.drew (Below.refl _ _)))
    (first
    | (go_at_call 69; obtain ⟨-, -, -, hw0⟩ := ‹_ ∧ _ ∧ _ ∧ Below W0.heap.size W0 _›; refine (c1 _).mono ?_; rintro e w1 ⟨rfl, rfl⟩; have hb6 := hw0)
    | (go_at_call 77; refine (c2 _).mono ?_; rintro e w7 ⟨rfl, b7⟩; have hb7 := Below.comp hb6 b7))
  all_goals go_wp2
  all_goals go_ret
  all_goals exact ⟨rfl, Below.comp q0 hb7⟩
/-- A bool is told, true just where this holds. -/
def Tel (e : Ending) (Q : Prop) : Prop := ∃ r : Bool, e = .returned (.bool r) ∧ (r = true ↔ Q)
theorem Tel.yes {e : Ending} {Q : Prop} (he : e = .returned (.bool true)) (h : Q) : Tel e Q := ⟨true, he, by simpa using h⟩
theorem Tel.no {e : Ending} {Q : Prop} (he : e = .returned (.bool false)) (h : ¬ Q) : Tel e Q := ⟨false, he, by simpa using h⟩
set_option maxHeartbeats 1000000 in
theorem allAre_any (a : Option Addr) (l : List Nm) (cap : Nat) (f : Nat) (pre : Array Value) (cap' : Array Value) (p : Nm → Bool) (w : World) (hn : l.length ≤ 9223372036854775807) (hc : Nms w a l)
    (hcf : ∀ (args : Array Value) (u : World), (callFunc f args).run Try.prog u = .ok (.enter f args) u)
    (hp : ∀ i W, i < l.length → Calls Try.prog f (pre.push (nv (gm l i)) ++ cap') W fun e W' => e = .returned (.bool (p (gm l i))) ∧ Below W.heap.size W W') :
    Calls Try.prog 78 #[.slice a l.length cap, .func (.func f) pre cap'] w fun e w' => Tel e (∀ i, i < l.length → p (gm l i) = true) ∧ Below w.heap.size w w' := by
  unfold Nms at hc
  have Hc : Hid _ := hc
  have Hp : Hid _ := hp
  clear hc hp
  obtain ⟨n, hln⟩ : ∃ n, l.length = n := ⟨_, rfl⟩
  rw [hln] at hn Hc Hp ⊢
  clear hln
  go_enter Try.func78, Try.ntmps78
  go_wp2
  go_loopw [9] (fun i wr => ∃ (k : Nat), k ≤ n ∧ i = .int .i64 k ∧ Hid (∀ i, i < k → p (gm l i) = true) ∧ Below w.heap.size w wr) (fun i _ => n - (intOf i).toNat)
  case atStart => exact ⟨0, Nat.zero_le _, rfl, fun i hi => absurd hi (by omega), Below.refl _ _⟩
  case round =>
    obtain ⟨k, hk, rfl, HI, hb⟩ := hrel
    by_cases hlt : k < n
    · obtain ⟨b, off, rfl, hcell⟩ := Hc.out (by omega)
      obtain ⟨k0, k1⟩ := (hcell k hlt).below hb
      clear hcell Hc
      have cp := fun W => Hp.out k W hlt
      obtain ⟨r, hr⟩ : ∃ r, p (gm l k) = r := ⟨_, rfl⟩
      have HR : Hid _ := hr
      rw [hr] at cp
      clear hr
      unfold nv at cp
      generalize (gm l k).nm = s at *
      generalize (gm l k).fl = fl at *
      go_wp2_with fail
      refine (cp _).mono ?_
      rintro e w1 ⟨rfl, b1⟩
      have g1 := Below.comp hb (Below.comp (below_alloc _ _) b1)
      clear k0 k1 cp
      cases r with
      | true =>
        go_wp2_with fail
        go_roundw
        case rel => exact ⟨k + 1, by omega, by go_num, fun i hi => by by_cases e : i = k; (· subst e; exact HR.out); (· exact HI.out i (by omega)), g1⟩
        case measure => simp [intOf]; omega
      | false =>
        go_wp2_with fail
        go_ret
        exact ⟨Tel.no rfl (fun h => by have := h k hlt; rw [HR.out] at this; cases this), g1⟩
    · go_wp2
      go_ret
      exact ⟨Tel.yes rfl (fun i hi => HI.out i (by omega)), hb⟩
end Go.Proofs.Ytfmgaenedkjmkaa

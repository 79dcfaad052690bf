/- The nearest place. -/
import Derived.Test.YtoodioaflaklmaaN1
namespace Go.Proofs.Ytoodioaflaklmaa
open Go.ChangeShapes Go.WideShapes Go.ChangeAt Go.RowKit
set_option linter.unusedVariables false
open Room
attribute [local go_sem] Oper.semAt_some
def nrV (B : Int) : Int := if 0 ≤ B then B else 0
def nrB (B : Int) : Bool := decide (0 ≤ B)
set_option maxHeartbeats 2000000 in
theorem nearest_any (a : Option Addr) (ca : Nat) (l : List Ex) (long near : Int) (w : World) (hn : l.length ≤ 60) (hl : 1 ≤ long ∧ long ≤ 9223372036854775807) (hne : 0 ≤ near ∧ near ≤ 400) (hx : ∀ x, x ∈ l → 0 ≤ x.1 ∧ 1 ≤ x.2 ∧ fin x ≤ 400) (ha : Exs w a l) :
    Calls Try.prog 63 #[.slice a l.length ca, .int .i64 long, .int .i64 near] w fun e w' => e = .returned (.tuple #[.int .i64 (nrV (nrL long near l)), .bool (nrB (nrL long near l))]) ∧ Below w.heap.size w w' := by
  obtain ⟨R, hR⟩ : ∃ R, nrL long near l = R := ⟨_, rfl⟩
  rw [hR]
  have HR : Hid (l.foldl (nrS long near) (-1) = R) := hR
  have Ha : Hid (Exs w a l) := ha
  have HX : Hid (∀ x, x ∈ l → 0 ≤ x.1 ∧ 1 ≤ x.2 ∧ fin x ≤ 400) := hx
  clear hR ha hx
  go_enter Try.func63, Try.ntmps63
  go_wp2
  go_loopw [8, 9, 15] (fun be fo i wr => ∃ (k : Nat) (B : Int), k ≤ l.length ∧ be = .int .i64 (nrV B) ∧ fo = .bool (nrB B) ∧ i = .int .i64 k ∧ Hid ((l.drop k).foldl (nrS long near) B = R) ∧ B ≤ 400 ∧ Below w.heap.size w wr) (fun _ _ i _ => l.length - (intOf i).toNat)
  case atStart => exact ⟨0, -1, Nat.zero_le _, rfl, rfl, rfl, HR, by omega, Below.refl _ _⟩
  case round =>
    obtain ⟨k, B, hk, rfl, rfl, rfl, HQ, hB4, hb⟩ := hrel
    by_cases hlt : k < l.length
    · obtain ⟨bb, off, rfl, hcell⟩ := (Ha.out.below hb) (by omega)
      obtain ⟨k0, k1⟩ := hcell k hlt
      have hxk := HX.out (gx l k) (by rw [gx_eq hlt]; exact List.getElem_mem hlt)
      have hdr : l.drop k = gx l k :: l.drop (k + 1) := by rw [gx_eq hlt]; exact List.drop_eq_getElem_cons hlt
      have hq := HQ.out
      rw [hdr, List.foldl_cons] at hq
      have hlt' : (k : Int) < (l.length : Int) := by omega
      obtain ⟨z, hz⟩ : ∃ z, gx l k = z := ⟨_, rfl⟩
      rw [hz] at k0 k1 hxk hq
      clear hz hdr HQ hcell HR
      obtain ⟨y1, y2⟩ := z
      unfold fin at hxk
      simp only at k0 k1 hxk
      obtain ⟨E, hE⟩ : ∃ E, wr.heap.size = E := ⟨_, rfl⟩
      obtain ⟨W2, hW2⟩ : ∃ W2, wr.alloc (.cells #[.int .i64 y1, .int .i64 y2] 41) = W2 := ⟨_, rfl⟩
      have b2 : Below wr.heap.size wr W2 := by subst hW2; exact below_alloc _ _
      have HE : Hid (W2.heap[E]? = some (.cells #[.int .i64 y1, .int .i64 y2] 41 (0, 0))) := by subst hW2 hE; exact al1 _ _
      obtain ⟨e0, e1, -, -⟩ := box2_cells HE.out
      by_cases hlo : y2 < long
      · have hs : Hid ((l.drop (k + 1)).foldl (nrS long near) B = R) := by
          show _ = _
          rw [show nrS long near B (y1, y2) = B from if_pos hlo] at hq
          exact hq
        clear hq
        go_wp2
        go_roundw
        case rel => exact ⟨k + 1, B, by omega, rfl, rfl, by go_num, hs, hB4, Below.comp hb b2⟩
        case measure => simp [intOf]; omega
      · obtain ⟨P, hP⟩ : ∃ P, clampN near y1 (y1 + y2 - long) = P := ⟨_, rfl⟩
        rw [show nrS long near B (y1, y2) = nrU near B (clampN near y1 (y1 + y2 - long)) from if_neg hlo, hP] at hq
        have HQ2 : Hid ((l.drop (k + 1)).foldl (nrS long near) (nrU near B P) = R) := hq
        have hPb : 0 ≤ P ∧ P ≤ 400 := by rw [← hP]; unfold clampN; omega
        have hws : IntKind.i64.wrap (y1 + y2 - long) = y1 + y2 - long := wrapI (by omega) (by omega)
        have hmm : min (max near y1) (y1 + y2 - long) = P := hP
        have cE := fun W => endOf_any (y1, y2) W (by unfold fin; simp only; omega) (by unfold fin; simp only; omega)
        unfold fin at cE
        simp only at cE
        clear hq hP
        have SB : Hid (∀ W, Below W2.heap.size W2 W → W.cell? ⟨E, 0, none⟩ = some (.int .i64 y1) ∧ W.cell? ⟨E, 1, none⟩ = some (.int .i64 y2) ∧ Below W2.heap.size W2 W) := fun W z => by
          obtain ⟨h0, h1, -⟩ := box2_cells (box_on HE.out z)
          exact ⟨h0, h1, z⟩
        by_cases hB0 : 0 ≤ B
        · rw [show nrV B = B from if_pos hB0, show nrB B = true from decide_eq_true hB0]
          have cP := fun W => apart_any P near W (by omega) (by omega)
          have cB := fun W => apart_any B near W (by omega) (by omega)
          have hU : nrU near B P = if gap P near < gap B near then P else B := by unfold nrU; simp only [show ¬ B < 0 by omega, false_or]
          rw [hU] at HQ2
          clear hU
          generalize gap P near = gP at *
          generalize gap B near = gB at *
          have HB0 : Hid (0 ≤ B) := hB0
          go_wp2
          clear e0 e1
          go_region_held3 (fun W => W.cell? ⟨E, 0, none⟩ = some (.int .i64 y1) ∧ W.cell? ⟨E, 1, none⟩ = some (.int .i64 y2) ∧ Below W2.heap.size W2 W)
            ((refine SB.out _ ?_; first | assumption | exact Below.drew (Below.refl _ _)))
            ((go_at_call 39; obtain ⟨-, -, hw0⟩ := ‹_ ∧ _ ∧ Below W2.heap.size W2 _›; refine (cE _).mono ?_; rintro e w3 ⟨rfl, b3'⟩; have b3 := Below.comp hw0 b3'; clear hw0 b3'))
          all_goals
            go_wp2_with fail
            refine (cP _).mono ?_
            rintro e w5 ⟨rfl, hw5⟩
            rw [hw5]
            clear hw5
            go_wp2_with fail
            refine (cB _).mono ?_
            rintro e w5 ⟨rfl, hw5⟩
            rw [hw5]
            clear hw5
            have bb3 := Below.comp hb (Below.comp b2 b3)
            by_cases hg : gP < gB
            · rw [if_pos hg] at HQ2
              go_wp2
              go_roundw
              case rel => exact ⟨k + 1, P, by omega, by rw [show nrV P = P from if_pos hPb.1], by rw [show nrB P = true from decide_eq_true hPb.1], by go_num, HQ2, hPb.2, bb3⟩
              case measure => simp [intOf]; omega
            · rw [if_neg hg] at HQ2
              go_wp2
              go_roundw
              case rel => exact ⟨k + 1, B, by omega, by rw [show nrV B = B from if_pos HB0.out], by rw [show nrB B = true from decide_eq_true HB0.out], by go_num, HQ2, hB4, bb3⟩
              case measure => simp [intOf]; omega
        · rw [show nrV B = 0 from if_neg hB0, show nrB B = false from decide_eq_false hB0]
          rw [show nrU near B P = P from if_pos (.inl (by omega))] at HQ2
          go_wp2
          clear e0 e1
          go_region_held3 (fun W => W.cell? ⟨E, 0, none⟩ = some (.int .i64 y1) ∧ W.cell? ⟨E, 1, none⟩ = some (.int .i64 y2) ∧ Below W2.heap.size W2 W)
            ((refine SB.out _ ?_; first | assumption | exact Below.drew (Below.refl _ _)))
            ((go_at_call 39; obtain ⟨-, -, hw0⟩ := ‹_ ∧ _ ∧ Below W2.heap.size W2 _›; refine (cE _).mono ?_; rintro e w3 ⟨rfl, b3'⟩; have b3 := Below.comp hw0 b3'; clear hw0 b3'))
          all_goals
            have bb3 := Below.comp hb (Below.comp b2 b3)
            go_wp2
            go_roundw
            case rel => exact ⟨k + 1, P, by omega, by rw [show nrV P = P from if_pos hPb.1], by rw [show nrB P = true from decide_eq_true hPb.1], by go_num, HQ2, hPb.2, bb3⟩
            case measure => simp [intOf]; omega
    · have hkn : k = l.length := by omega
      have hq := HQ.out
      rw [hkn, List.drop_length, List.foldl_nil] at hq
      subst hq
      have hlt' : ¬ (k : Int) < (l.length : Int) := by omega
      go_wp2
      exact bodyPost_ret (v := .tuple #[.int .i64 (nrV B), .bool (nrB B)]) (by simp [results, Try.results63, go_sem]) rfl ⟨rfl, hb⟩
end Go.Proofs.Ytoodioaflaklmaa

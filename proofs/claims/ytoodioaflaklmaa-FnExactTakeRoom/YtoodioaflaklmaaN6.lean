/- l5Pick. -/
import Derived.Test.YtoodioaflaklmaaN2
namespace Go.Proofs.Ytoodioaflaklmaa
open Go.ChangeShapes Go.WideShapes Go.ChangeAt Go.RowKit
set_option linter.unusedVariables false
open Room
attribute [local go_sem] Oper.semAt_some
set_option maxHeartbeats 2000000 in
theorem pick1 (b : Int) (a : Option Addr) (ca : Nat) (a' : Option Addr) (ca' : Nat) (l s : List Ex) (long near : Int) (w : World) (hn : l.length ≤ 60) (hn' : s.length ≤ 60) (hl : 1 ≤ long ∧ long ≤ 400) (hne : 0 ≤ near ∧ near ≤ 400) (hx : ∀ x, x ∈ l → 0 ≤ x.1 ∧ 1 ≤ x.2 ∧ fin x ≤ 400) (ha : Exs w a l) (ha' : Exs w a' s) :
    Calls Try.prog 43 #[fv b a l.length ca a' s.length ca', .int .i64 long, .int .i64 1, .int .i64 near] w fun e w' => e = .returned (.int .i64 (fstA long l)) ∧ Below w.heap.size w w' := by
  obtain ⟨D, hD⟩ : ∃ D, w.heap.size = D := ⟨_, rfl⟩
  obtain ⟨W0, hW0⟩ : ∃ W0, w.alloc (.cells #[.int .i64 b, .slice a l.length ca, .slice a' s.length ca'] 29) = W0 := ⟨_, rfl⟩
  have g0 : Below w.heap.size w W0 := by subst hW0; exact below_alloc _ _
  have HB : Hid (W0.heap[D]? = some (.cells #[.int .i64 b, .slice a l.length ca, .slice a' s.length ca'] 29 (0, 0))) := by subst hW0 hD; exact al1 _ _
  obtain ⟨i0, i1, i2, -, -, -⟩ := box3_cells HB.out
  have Ha : Hid (Exs w a l) := ha
  clear ha ha'
  obtain ⟨R, hR⟩ : ∃ R, fstA long l = R := ⟨_, rfl⟩
  rw [hR]
  have HR : Hid (fstA long l = R) := hR
  clear hR
  go_enter Try.func43, Try.ntmps43
  go_wp2
  clear hW0 i0 i1 i2
  go_loopw [57] (fun i wr => ∃ (k : Nat), k ≤ l.length ∧ i = .int .i64 k ∧ Hid (∀ j, j < k → ¬ long ≤ (gx l j).2) ∧ Below W0.heap.size W0 wr) (fun i _ => l.length - (intOf i).toNat)
  case atStart => exact ⟨0, Nat.zero_le _, rfl, (show Hid _ from fun j hj => by omega), Below.refl _ _⟩
  case round =>
    obtain ⟨k, hk, rfl, HP, hb⟩ := hrel
    by_cases hlt : k < l.length
    · obtain ⟨bb, off, rfl, hcell⟩ := (Ha.out.below (Below.comp g0 hb)) (by omega)
      obtain ⟨k0, k1⟩ := hcell k hlt
      have hlt' : (k : Int) < (l.length : Int) := by omega
      obtain ⟨z, hz⟩ : ∃ z, gx l k = z := ⟨_, rfl⟩
      rw [hz] at k0 k1
      have HZ : Hid (gx l k = z) := hz
      clear hz hcell
      obtain ⟨y1, y2⟩ := z
      simp only at k0 k1
      obtain ⟨E, hE⟩ : ∃ E, wr.heap.size = E := ⟨_, rfl⟩
      obtain ⟨W2, hW2⟩ : ∃ W2, wr.alloc (.cells #[.int .i64 y1, .int .i64 y2] 41) = W2 := ⟨_, rfl⟩
      have b2 : Below wr.heap.size wr W2 := by subst hW2; exact below_alloc _ _
      have HE : Hid (W2.heap[E]? = some (.cells #[.int .i64 y1, .int .i64 y2] 41 (0, 0))) := by subst hW2 hE; exact al1 _ _
      obtain ⟨e0, e1, -, -⟩ := box2_cells HE.out
      by_cases hlo : long ≤ y2
      · have hr : R = y1 := by
          rw [← HR.out, fstA_some hlt (by rw [HZ.out]; exact hlo) HP.out, HZ.out]
        have HRR : Hid (R = y1) := hr
        clear hr HR
        go_wp2
        go_ret
        exact ⟨by rw [HRR.out]; rfl, by first | exact Below.comp g0 (Below.comp hb b2) | exact (hD ▸ Below.comp g0 (Below.comp hb b2))⟩
      · have HP2 : Hid (∀ j, j < k + 1 → ¬ long ≤ (gx l j).2) := fun j hj => by
          by_cases e : j = k
          · subst e; rw [HZ.out]; exact hlo
          · exact HP.out j (by omega)
        go_wp2
        go_roundw
        case rel => exact ⟨k + 1, by omega, by go_num, HP2, Below.comp hb b2⟩
        case measure => simp [intOf]; omega
    · have hkn : k = l.length := by omega
      have hr : R = -1 := by rw [← HR.out]; exact fstA_none (fun j hj => HP.out j (by omega))
      have HRR : Hid (R = -1) := hr
      clear hr HR HP
      have hlt' : ¬ (k : Int) < (l.length : Int) := by omega
      go_wp2
      go_ret
      exact ⟨by rw [HRR.out]; rfl, by first | exact Below.comp g0 hb | exact (hD ▸ Below.comp g0 hb)⟩
set_option maxHeartbeats 2000000 in
theorem pick2 (b : Int) (a : Option Addr) (ca : Nat) (a' : Option Addr) (ca' : Nat) (l s : List Ex) (long near : Int) (w : World) (hn : l.length ≤ 60) (hn' : s.length ≤ 60) (hl : 1 ≤ long ∧ long ≤ 400) (hne : 0 ≤ near ∧ near ≤ 400) (hx : ∀ x, x ∈ l → 0 ≤ x.1 ∧ 1 ≤ x.2 ∧ fin x ≤ 400) (ha : Exs w a l) (ha' : Exs w a' s) :
    Calls Try.prog 43 #[fv b a l.length ca a' s.length ca', .int .i64 long, .int .i64 2, .int .i64 near] w fun e w' => e = .returned (.int .i64 (fstA long s)) ∧ Below w.heap.size w w' := by
  obtain ⟨D, hD⟩ : ∃ D, w.heap.size = D := ⟨_, rfl⟩
  obtain ⟨W0, hW0⟩ : ∃ W0, w.alloc (.cells #[.int .i64 b, .slice a l.length ca, .slice a' s.length ca'] 29) = W0 := ⟨_, rfl⟩
  have g0 : Below w.heap.size w W0 := by subst hW0; exact below_alloc _ _
  have HB : Hid (W0.heap[D]? = some (.cells #[.int .i64 b, .slice a l.length ca, .slice a' s.length ca'] 29 (0, 0))) := by subst hW0 hD; exact al1 _ _
  obtain ⟨i0, i1, i2, -, -, -⟩ := box3_cells HB.out
  have Ha : Hid (Exs w a' s) := ha'
  clear ha ha'
  obtain ⟨R, hR⟩ : ∃ R, fstA long s = R := ⟨_, rfl⟩
  rw [hR]
  have HR : Hid (fstA long s = R) := hR
  clear hR
  go_enter Try.func43, Try.ntmps43
  go_wp2
  clear hW0 i0 i1 i2
  go_loopw [73] (fun i wr => ∃ (k : Nat), k ≤ s.length ∧ i = .int .i64 k ∧ Hid (∀ j, j < k → ¬ long ≤ (gx s j).2) ∧ Below W0.heap.size W0 wr) (fun i _ => s.length - (intOf i).toNat)
  case atStart => exact ⟨0, Nat.zero_le _, rfl, (show Hid _ from fun j hj => by omega), Below.refl _ _⟩
  case round =>
    obtain ⟨k, hk, rfl, HP, hb⟩ := hrel
    by_cases hlt : k < s.length
    · obtain ⟨bb, off, rfl, hcell⟩ := (Ha.out.below (Below.comp g0 hb)) (by omega)
      obtain ⟨k0, k1⟩ := hcell k hlt
      have hlt' : (k : Int) < (s.length : Int) := by omega
      obtain ⟨z, hz⟩ : ∃ z, gx s k = z := ⟨_, rfl⟩
      rw [hz] at k0 k1
      have HZ : Hid (gx s k = z) := hz
      clear hz hcell
      obtain ⟨y1, y2⟩ := z
      simp only at k0 k1
      obtain ⟨E, hE⟩ : ∃ E, wr.heap.size = E := ⟨_, rfl⟩
      obtain ⟨W2, hW2⟩ : ∃ W2, wr.alloc (.cells #[.int .i64 y1, .int .i64 y2] 41) = W2 := ⟨_, rfl⟩
      have b2 : Below wr.heap.size wr W2 := by subst hW2; exact below_alloc _ _
      have HE : Hid (W2.heap[E]? = some (.cells #[.int .i64 y1, .int .i64 y2] 41 (0, 0))) := by subst hW2 hE; exact al1 _ _
      obtain ⟨e0, e1, -, -⟩ := box2_cells HE.out
      by_cases hlo : long ≤ y2
      · have hr : R = y1 := by
          rw [← HR.out, fstA_some hlt (by rw [HZ.out]; exact hlo) HP.out, HZ.out]
        have HRR : Hid (R = y1) := hr
        clear hr HR
        go_wp2
        go_ret
        exact ⟨by rw [HRR.out]; rfl, by first | exact Below.comp g0 (Below.comp hb b2) | exact (hD ▸ Below.comp g0 (Below.comp hb b2))⟩
      · have HP2 : Hid (∀ j, j < k + 1 → ¬ long ≤ (gx s j).2) := fun j hj => by
          by_cases e : j = k
          · subst e; rw [HZ.out]; exact hlo
          · exact HP.out j (by omega)
        go_wp2
        go_roundw
        case rel => exact ⟨k + 1, by omega, by go_num, HP2, Below.comp hb b2⟩
        case measure => simp [intOf]; omega
    · have hkn : k = s.length := by omega
      have hr : R = -1 := by rw [← HR.out]; exact fstA_none (fun j hj => HP.out j (by omega))
      have HRR : Hid (R = -1) := hr
      clear hr HR HP
      have hlt' : ¬ (k : Int) < (s.length : Int) := by omega
      go_wp2
      go_ret
      exact ⟨by rw [HRR.out]; rfl, by first | exact Below.comp g0 hb | exact (hD ▸ Below.comp g0 hb)⟩
end Go.Proofs.Ytoodioaflaklmaa

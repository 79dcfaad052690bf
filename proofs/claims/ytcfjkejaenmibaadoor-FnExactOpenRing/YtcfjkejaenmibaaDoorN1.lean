import Derived.Test.YtcfjkejaenmibaaDoorS1
import Derived.Test.YtcfjkejaenmibaaDoorZ0
import Derived.Lib.AppendIntMem
import Derived.Lib.ItoaLen
import Derived.Deep.Strs
/- Numbers in digits: both sides write the same text. -/
namespace Go.Proofs.YtcfjkejaenmibaaDoor
open Go.ChangeShapes Go.WideShapes Go.ChangeAt Go.RowKit
set_option linter.unusedVariables false
open Lg

attribute [local go_sem] Oper.semAt_some

/-- The digits of a number as a text. -/
def dgs (u : Nat) : ByteArray := ⟨(Lib.decDigits u).toArray⟩
theorem dgs_small {u : Nat} (h : u < 10) : dgs u = ⟨#[UInt8.ofNat (48 + u)]⟩ := by unfold dgs; rw [Lib.decDigits_one h]
theorem dgs_big {u : Nat} (h : ¬ u < 10) : dgs u = dgs (u / 10) ++ ⟨#[UInt8.ofNat (48 + u % 10)]⟩ := by
  unfold dgs
  rw [Lib.decDigits, dif_neg h]
  apply ByteArray.ext
  simp
theorem dgs_size (u : Nat) (h : u ≤ 9223372036854775000) : (dgs u).size ≤ 21 := by
  have := Lib.itoa_length_le u (by omega) (by omega)
  rw [Lib.itoa_nonneg] at this
  exact this
theorem conv1 (b : Nat) (x : Nat) (hx : x < 256) (W : World) (h : W.cell? ⟨b, 0, none⟩ = some (.int .u8 (x : Int))) : (convert 80 9 (.slice (some ⟨b, 0, none⟩) 1 1)).run Tryd.prog W = .ok (.string ⟨#[UInt8.ofNat x]⟩) W := by
  have := run_convert_bytes_back (P := Tryd.prog) W 80 9 5 ⟨b, 0, none⟩ 1 [UInt8.ofNat x] Tryd.underlying80 Tryd.underlying5 Tryd.underlying9 (fun j hj => by
      have hj' : j = 0 := by simpa using hj
      subst hj'
      have e : (⟨b, 0, none⟩ : Addr).add 0 = ⟨b, 0, none⟩ := by unfold Addr.add; split <;> simp_all
      rw [e, h]
      simp [Nat.mod_eq_of_lt hx])
  exact this
set_option maxHeartbeats 2000000 in
theorem l1Num_any (u : Nat) : ∀ (w : World), u ≤ 9223372036854775000 → Calls Tryd.prog 53 #[.int .i64 (u : Int)] w fun e w' => e = .returned (.string (dgs u)) ∧ Below w.heap.size w w' := by
  induction u using Nat.strongRecOn with
  | _ u ih =>
    intro w hu
    by_cases h : u < 10
    · have hs := dgs_small h
      rw [hs]
      clear hs ih
      have hw1 : IntKind.i64.wrap (48 + (u : Int)) = ((48 + u : Nat) : Int) := by rw [wrapI (by omega) (by omega)]; omega
      have hw2 : IntKind.u8.wrap ((48 + u : Nat) : Int) = ((48 + u : Nat) : Int) := by simp only [IntKind.wrap, IntKind.bits, IntKind.signed]; simp; omega
      have cv := fun W h => conv1 w.heap.size (48 + u) (by omega) W h
      go_enter Tryd.func53, Tryd.ntmps53
      go_wp2
      go_ret
      exact ⟨by simp, below_alloc _ _⟩
    · rw [dgs_big h]
      obtain ⟨q, hq⟩ : ∃ q, u / 10 = q := ⟨_, rfl⟩
      obtain ⟨x, hx⟩ : ∃ x, 48 + u % 10 = x := ⟨_, rfl⟩
      rw [hq, hx]
      have h1 : Int.tdiv (u : Int) 10 = (q : Int) := by rw [← hq]; rfl
      have h2 : (u : Int) / 10 = (q : Int) := by rw [← hq]; rfl
      have h3 : IntKind.i64.wrap (q : Int) = (q : Int) := wrapI (by omega) (by omega)
      have h4 : IntKind.i64.wrap (48 + Int.tmod (u : Int) 10) = (x : Int) := by rw [← hx, show Int.tmod (u : Int) 10 = ((u % 10 : Nat) : Int) from rfl, wrapI (by omega) (by omega)]; omega
      have h5 : IntKind.u8.wrap (x : Int) = (x : Int) := by simp only [IntKind.wrap, IntKind.bits, IntKind.signed]; simp; omega
      have cv := fun b W h => conv1 b x (by omega) W h
      have cI := fun W => ih q (by omega) W (by omega)
      have hsz : 9 < u := by omega
      have hys : (dgs q).size ≤ 21 := dgs_size q (by omega)
      clear ih hq hx hu h
      generalize dgs q = y at *
      have hcat : ¬ (9223372036854775807 < y.size + 1) := by omega
      go_enter Tryd.func53, Tryd.ntmps53
      go_wp2
      go_region_law (go_simp; go_at_call 53; refine (cI _).mono ?_; rintro e w1 ⟨rfl, b1⟩; (try (have cc : w1.cell? ⟨w.heap.size, 0, none⟩ = some (.int .u8 (x : Int)) := cell_on (box1_cells (al1 w.drew (.cells #[.int .u8 (x : Int)] 5))).1 b1)))
      all_goals go_wp2
      all_goals go_ret
      all_goals
        refine ⟨rfl, ?_⟩
        have d0 : Below w.heap.size w w.drew := Below.drew (Below.refl _ w)
        first
        | exact Below.comp d0 b1
        | exact Below.comp (Below.comp d0 b1) (below_alloc _ _)
        | exact Below.comp (Below.comp d0 (below_alloc w.drew _)) b1
end Go.Proofs.YtcfjkejaenmibaaDoor

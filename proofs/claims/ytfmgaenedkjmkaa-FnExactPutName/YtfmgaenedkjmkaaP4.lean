import Derived.Test.YtfmgaenedkjmkaaP3
/- What a good directory has in the bucket of a name, of no program. -/
namespace Go.Proofs.Ytfmgaenedkjmkaa.Hd
set_option linter.unusedVariables false

theorem good_slot {d : Dr} (h : GS d) {i : Nat} (hi : i < d.sl.length) : ∃ j : Nat, gi d.sl i = (j : Int) ∧ j < d.bs.length := by
  obtain ⟨h1, h2, -⟩ := h.2.2.1 i hi
  exact ⟨(gi d.sl i).toNat, by omega, by omega⟩
theorem good_names {d : Dr} (h : GS d) {j : Nat} (hj : j < d.bs.length) : (gb d.bs j).ns.length ≤ 4 ∧ Ris (gb d.bs j).ns :=
  ⟨(h.2.2.2.1 j hj).2, fun i hi h0 => ((h.2.2.2.1 j hj).1 i hi).2.2.1 h0⟩
theorem good_low {d : Dr} (h : GS d) (s : ByteArray) : low (nh s) d.dp.toNat < d.sl.length := by rw [h.1.2.2]; exact low_lt _ _
/-- The number of the bucket of a name. -/
def bkN (d : Dr) (s : ByteArray) : Nat := (gi d.sl (low (nh s) d.dp.toNat)).toNat
theorem good_bk {d : Dr} (h : GS d) (s : ByteArray) : gi d.sl (low (nh s) d.dp.toNat) = (bkN d s : Int) ∧ bkN d s < d.bs.length := by
  obtain ⟨j, h1, h2⟩ := good_slot h (good_low h s)
  unfold bkN
  rw [h1]
  exact ⟨rfl, h2⟩
/-- The names of the bucket of a name. -/
def bkL (d : Dr) (s : ByteArray) : List Nm := (gb d.bs (bkN d s)).ns
/-- What LookName answers. -/
def LoOk (d : Dr) (s : ByteArray) (N : Int) (B : Bool) : Prop :=
  (¬ (GS d ∧ isN s = true) → N = 0 ∧ B = false) ∧ (GS d → isN s = true → ∃ k, AtN (bkL d s) s k ∧ B = hasN (bkL d s) s k ∧ N = bif hasN (bkL d s) s k then (gm (bkL d s) k).fl else 0)
theorem lo_ex (d : Dr) (s : ByteArray) : ∃ N B, LoOk d s N B := by
  by_cases h : GS d ∧ isN s = true
  · obtain ⟨k, hk⟩ := at_ex (bkL d s) s
    exact ⟨_, _, ⟨fun h' => absurd h h', fun _ _ => ⟨k, hk, rfl, rfl⟩⟩⟩
  · exact ⟨0, false, ⟨fun _ => ⟨rfl, rfl⟩, fun h1 h2 => absurd ⟨h1, h2⟩ h⟩⟩
end Go.Proofs.Ytfmgaenedkjmkaa.Hd

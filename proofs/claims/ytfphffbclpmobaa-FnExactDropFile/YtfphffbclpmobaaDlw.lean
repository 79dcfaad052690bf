import Derived.Test.YtfphffbclpmobaaOf
import Derived.Test.YtfphffbclpmobaaId
import Derived.Test.YtfphffbclpmobaaKD
/- The law of DropFile. -/
namespace Go.Proofs.Ytfphffbclpmobaa
open Go.ChangeShapes Go.WideShapes Go.ChangeAt Go.RowKit
set_option linter.unusedVariables false
open Hd

theorem drR_few {u D : Va} {x : Int} {O : Bool} (h : drR u x D O) : FewV D ∧ FewFs D ∧ kV 1 D ≤ 100000000 := by
  rcases h with ⟨⟨hg, hx0, hx1⟩, rfl, -⟩ | ⟨-, rfl, -⟩
  · obtain ⟨f, rfl⟩ : ∃ f : Nat, x = (f : Int) := ⟨x.toNat, by omega⟩
    have hf : f < u.fs.length := by omega
    simp only [Int.toNat_natCast]
    have hp : (drV u f).pc.length ≤ 100 := by
      have h1 := kp_le (dsL u.pc (gf u.fs f))
      rw [dsL_len] at h1
      have := hg.1.1
      show (kp (dsL u.pc (gf u.fs f))).length ≤ 100
      omega
    have hfl : (drV u f).fs.length ≤ 20 := by
      show ((u.fs.eraseIdx f).map _).length ≤ 20
      rw [List.length_map, List.length_eraseIdx, if_pos hf]
      have := hg.1.2
      omega
    have hfs : ∀ i, i < (drV u f).fs.length → (gf (drV u f).fs i).length ≤ 200 := fun i hi => by
      have hi' : i < u.fs.length - 1 := by
        have h : i < ((u.fs.eraseIdx f).map _).length := hi
        rwa [List.length_map, List.length_eraseIdx, if_pos hf] at h
      show (gf ((u.fs.eraseIdx f).map (tT (dsL u.pc (gf u.fs f)))) i).length ≤ 200
      rw [gf_map, tT_len, gf_erase]
      exact (hg.2.1 _ (by split <;> omega)).2
    have hk := kk_few (M := 200) (drV u f).fs.length (Nat.le_refl _) hfs
    have hk2 : (drV u f).fs.length * 200 ≤ 20 * 200 := Nat.mul_le_mul hfl (Nat.le_refl _)
    refine ⟨⟨⟨by omega, fun i hi => ?_⟩, ⟨by omega, fun i hi => by have := hfs i hi; omega⟩⟩, by unfold FewFs; omega, by unfold kV kP; omega⟩
    have hm : gm (drV u f).pc i ∈ dsL u.pc (gf u.fs f) := by
      rw [gm_eq' hi]
      exact (List.mem_filter.1 (List.getElem_mem hi)).1
    obtain ⟨k, hk, e⟩ := List.getElem_of_mem hm
    have hk' : k < u.pc.length := by rwa [dsL_len] at hk
    rw [← e, ← gm_eq' hk, (dsL_at _ u.pc hk' (gv_pos hg hf)).1]
    have := (hg.2.2 k hk').1.2
    omega
  · exact ⟨⟨⟨by simp [vz], fun i hi => absurd hi (by simp [vz])⟩, ⟨by simp [vz], fun i hi => absurd hi (by simp [vz])⟩⟩, by simp [FewFs, vz], by simp [kV, kP, vz, kk]⟩
theorem lawDrop_all (v : Value) (u : Va) (x : Int) (w : World) (hf : FewV u) (hD : VAt w v u) :
    Calls Try.prog 3 #[v, .int .i64 x] w fun e w' => e = .returned (.bool true) ∧ Below w.heap.size w w' := by
  obtain ⟨D, O, hR⟩ := drR_ex u x
  obtain ⟨h1, h2, h3⟩ := drR_few hR
  exact lawDropFile v u D O x w hf hD (fun hsm => ⟨fun W v0 h => (specDrop_any v0 u D O x W h hf hsm hR).mono fun e w' ⟨h1, v', e1, h2⟩ => ⟨h1, v', e1, h2.at_⟩, fun W v0 h => implDrop_any v0 u D O x W h hf hsm hR, h1, h2, h3⟩)
end Go.Proofs.Ytfphffbclpmobaa

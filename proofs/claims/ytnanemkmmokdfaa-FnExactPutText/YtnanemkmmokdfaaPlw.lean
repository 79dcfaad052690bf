import Derived.Test.YtnanemkmmokdfaaO4
import Derived.Test.YtnanemkmmokdfaaKP
/- The law of PutText. -/
namespace Go.Proofs.Ytnanemkmmokdfaa
open Go.ChangeShapes Go.WideShapes Go.ChangeAt Go.RowKit
set_option linter.unusedVariables false
open Hd

theorem ptR_few {u D : Va} {s : ByteArray} {O : Bool} (h : ptR u s D O) : FewV D ∧ FewFs D ∧ kV 1 D ≤ 100000000 := by
  obtain ⟨p1, p2⟩ := paR_fits s
  rcases h with ⟨h, rfl, -⟩ | ⟨-, rfl, -⟩
  · obtain ⟨h1, h2, h3, h4, h5⟩ := pt_small h.1 (l := paR s) (by omega) (fun t ht => by obtain ⟨i, hi, e⟩ := mem_gs ht; rw [← e]; exact p2 i hi)
    exact ⟨h1, by unfold FewFs; omega, by unfold kV kP; omega⟩
  · exact ⟨⟨⟨by simp [vz], fun i hi => absurd hi (by simp [vz])⟩, ⟨by simp [vz], fun i hi => absurd hi (by simp [vz])⟩⟩, by simp [FewFs, vz], by simp [kV, kP, vz, kk]⟩
theorem lawPut_all (v : Value) (u : Va) (s : ByteArray) (w : World) (hf : FewV u) (hD : VAt w v u) (hs : s.size ≤ 9223372036854775807) :
    Calls Try.prog 9 #[v, .string s] w fun e w' => e = .returned (.bool true) ∧ Below w.heap.size w w' := by
  obtain ⟨D, O, hR⟩ := ptR_ex u s
  obtain ⟨h1, h2, h3⟩ := ptR_few hR
  exact lawPutText v u D O s w hf hD hs (fun hsm => ⟨fun W x h => (specPut_any x u D O s W h hf hsm hs hR).mono fun e w' ⟨h1, v', e1, h2⟩ => ⟨h1, v', e1, h2.at_⟩, fun W x h => implPut_any x u D O s W h hf hsm hs hR, h1, h2, h3⟩)
end Go.Proofs.Ytnanemkmmokdfaa

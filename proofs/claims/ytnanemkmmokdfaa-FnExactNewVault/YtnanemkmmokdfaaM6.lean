import Derived.Test.YtnanemkmmokdfaaM5
/- impl.GoodVault. -/
namespace Go.Proofs.Ytnanemkmmokdfaa
open Go.ChangeShapes Go.WideShapes Go.ChangeAt Go.RowKit Go.Maps
set_option linter.unusedVariables false
open Hd

attribute [local go_sem] Oper.semAt_some

theorem implGood_any (v : Value) (u : Va) (B : Bool) (w : World) (hc : VAt w v u) (hf : FewV u) (hs : Sml u) (hB : B = true ↔ GV u) :
    Calls Try.prog 38 #[v] w fun e w' => e = .returned (.bool B) ∧ Below w.heap.size w w' := by
  have cO := fun W h => opened_any v u W (hc.below h) hf hs
  obtain ⟨a, ca, a', ca', rfl, -, -, -, -⟩ := hc
  obtain ⟨W0, hW0⟩ : ∃ W0, w.alloc (.cells #[.slice a u.pc.length ca, .slice a' u.fs.length ca'] 40) = W0 := ⟨_, rfl⟩
  have q0 : Below w.heap.size w W0 := by subst hW0; exact below_alloc _ _
  obtain ⟨i0, i1, -, -⟩ := box2_cells (show W0.heap[w.heap.size]? = some (.cells #[.slice a u.pc.length ca, .slice a' u.fs.length ca'] 40 (0, 0)) by subst hW0; exact al1 _ _)
  have HB : Hid (B = true ↔ GV u) := hB
  clear hf hs hB
  have c := cO W0 q0
  clear cO
  go_enter Try.func38, Try.ntmps38
  go_wp2_with fail
  refine c.mono ?_
  rintro e w1 ⟨hR, b1⟩
  clear i0 i1 hW0 c
  rcases hR with ⟨hg, M, y, n, rfl, -, -, -, -, hF⟩ | ⟨hg, rfl⟩
  · obtain ⟨yx, yc, rfl⟩ := hF.form
    have hb : B = true := HB.out.2 hg
    subst hb
    go_wp2_with fail
    go_ret
    exact ⟨rfl, (Below.comp q0 b1).trans ((below_alloc _ _).mono (Below.comp q0 b1).size)⟩
  · have hb : B = false := by
      by_cases h : B = true
      · exact absurd (HB.out.1 h) hg
      · simpa using h
    subst hb
    go_wp2_with fail
    go_ret
    exact ⟨rfl, (Below.comp q0 b1).trans ((below_alloc _ _).mono (Below.comp q0 b1).size)⟩
end Go.Proofs.Ytnanemkmmokdfaa

import Derived.Test.YtdbmdblghlfjfaaP4
import Derived.Test.YtdbmdblghlfjfaaB1
/- A piece cut in two. -/
namespace Go.Proofs.Ytdbmdblghlfjfaa
open Go.ChangeShapes Go.WideShapes Go.ChangeAt Go.RowKit
set_option linter.unusedVariables false
open Mp

attribute [local go_sem] Oper.semAt_some

set_option maxHeartbeats 4000000 in
theorem halvesOf_any (p : Pc) (t : Int) (w : World) (hp : pok p) (ht : 0 ≤ t ∧ t ≤ 200) : Calls Try.prog 78 #[pv p, .int .i64 t] w fun e w' => e = .returned (.tuple #[pv (lft t p), pv (rgt t p)]) ∧ Below w.heap.size w w' := by
  obtain ⟨f, n, a, z⟩ := p
  unfold pok at hp
  unfold lft rgt
  simp only at hp ⊢
  have e1 : IntKind.i64.wrap (t - f) = t - f := wrapI (by omega) (by omega)
  have e2 : IntKind.i64.wrap (a + (t - f)) = a + (t - f) := wrapI (by omega) (by omega)
  have e3 : IntKind.i64.wrap (n - (t - f)) = n - (t - f) := wrapI (by omega) (by omega)
  go_enter Try.func78, Try.ntmps78
  go_wp2_with fail
  go_region
  all_goals go_wp2_with fail
  all_goals go_region
  all_goals go_wp2_with fail
  all_goals go_region
  all_goals go_wp2_with fail
  all_goals exact bodyPost_ret (v := .tuple #[pv ⟨f, t - f, a, z⟩, pv ⟨t, n - (t - f), a + (t - f), z⟩]) (by simp [results, Try.results78, go_sem]) rfl ⟨rfl, Below.drew (Below.drew (Below.drew (Below.comp (ba4 _ _ _ _ _) (below_alloc _ _))))⟩
end Go.Proofs.Ytdbmdblghlfjfaa

import Derived.Test.YtfmgaenedkjmkaaL7
/- NewDir on both sides, and its law. -/
namespace Go.Proofs.Ytfmgaenedkjmkaa
open Go.ChangeShapes Go.WideShapes Go.ChangeAt Go.RowKit
set_option linter.unusedVariables false
open Hd

attribute [local go_sem] Oper.semAt_some

theorem DOwn.form {w : World} {B C : Nat} {v : Value} {d : Dr} (h : DOwn w B C v d) : ∃ a c a' c', v = .agg #[.int .i64 d.dp, .slice a d.sl.length c, .slice a' d.bs.length c'] := by
  obtain ⟨a, c, a', c', e, -⟩ := h.at_
  exact ⟨a, c, a', c', e⟩
/-- The directory without names. -/
def newD : Dr := ⟨0, [0], [⟨0, []⟩]⟩
theorem newD_own (w : World) (o : Obj) : DOwn (((w.alloc o).alloc (.cells #[.int .i64 0] 3)).alloc (.cells #[.int .i64 0, .slice none 0 0] 63)) w.heap.size (w.heap.size + 3) (.agg #[.int .i64 0, .slice (some ⟨w.heap.size + 1, 0, none⟩) 1 1, .slice (some ⟨w.heap.size + 1 + 1, 0, none⟩) 1 1]) newD := by
  obtain ⟨h1, h2, h3⟩ := al3 w o (.cells #[.int .i64 0] 3) (.cells #[.int .i64 0, .slice none 0 0] 63)
  refine ⟨_, some ⟨w.heap.size + 1 + 1, 0, none⟩, 1, w.heap.size + 1, rfl, Nat.le_refl _, ⟨_, 1, rfl, Nat.le_refl _, fun _ => ⟨rfl, by omega, by omega, _, h2, fun i hi => ?_⟩⟩, fun _ => ⟨w.heap.size + 1 + 1, _, fun _ => 0, by omega, by omega, rfl, h3, Nat.le_refl _, fun i hi => ?_, by omega, fun r hr hne => ?_⟩⟩
  · have : i = 0 := by simp [newD] at hi; omega
    subst this
    rfl
  · have : i = 0 := by simp [newD] at hi; omega
    subst this
    exact ⟨rfl, _, rfl, NB.nil⟩
  · have : r = 0 := by simp [newD] at hr; omega
    subst this
    exact absurd rfl hne
theorem specNew_any (w : World) : Calls Try.prog 50 #[] w fun e w' => Below w.heap.size w w' ∧ ∃ v, e = .returned v ∧ DOwn w' w.heap.size w'.heap.size v newD := by
  go_enter Try.func50, Try.ntmps50
  go_wp2
  exact bodyPost_ret (v := .agg #[.int .i64 0, .slice (some ⟨w.heap.size + 1, 0, none⟩) 1 1, .slice (some ⟨w.heap.size + 1 + 1, 0, none⟩) 1 1]) (by simp [results, Try.results50, go_sem]) rfl ⟨ba3 _ _ _ _, _, rfl, (newD_own w _).mono (Nat.le_refl _) (by simp)⟩
theorem implNew_any (w : World) : Calls Try.prog 52 #[] w fun e w' => Below w.heap.size w w' ∧ ∃ v, e = .returned v ∧ DOwn w' w.heap.size w'.heap.size v newD := by
  go_enter Try.func52, Try.ntmps52
  go_wp2
  exact bodyPost_ret (v := .agg #[.int .i64 0, .slice (some ⟨w.heap.size + 1, 0, none⟩) 1 1, .slice (some ⟨w.heap.size + 1 + 1, 0, none⟩) 1 1]) (by simp [results, Try.results52, go_sem]) rfl ⟨ba3 _ _ _ _, _, rfl, (newD_own w _).mono (Nat.le_refl _) (by simp)⟩
end Go.Proofs.Ytfmgaenedkjmkaa

import Derived.Test.YtienhdlhlddemaaV6
/- The program: the leaf at a place of a picture. -/
namespace Go.Proofs.Ytienhdlhlddemaa
open Go.ChangeShapes Go.WideShapes Go.ChangeAt Go.RowKit
set_option linter.unusedVariables false
open Hd

attribute [local go_sem] Oper.semAt_some

theorem lvL_len {c : Co} {x : Int} (h : lvB c x = true) : (lvL c x).length = 4 ^ lv1 c ∧ ∀ t, t < 4 ^ lv1 c → gs (lvL c x) t = la c.cs (lv1 c) (gi c.rs x.toNat) t := by
  obtain ⟨hg, hx⟩ := lvB_parts h
  obtain ⟨h1, h2⟩ : 0 ≤ x ∧ x < c.rs.length := by unfold inB at hx; simpa using hx
  obtain ⟨hn, hm1, hm8, hl1, hl3⟩ := gI_few' hg
  obtain ⟨-, hok, hro, -⟩ := gI_parts hg
  have hpo := hro (gi c.rs x.toNat) (by rw [gi_eq (by omega)]; exact List.getElem_mem _)
  rw [show c.lv.toNat = lv1 c + 1 by unfold lv1; omega] at hpo
  unfold lvL
  rw [if_pos h]
  exact ⟨lvf_len hok _ _ hpo, fun t ht => la_lvf hok _ _ t hpo ht⟩
theorem lfB_lv (c : Co) (x t : Int) : lfB c x t = (lvB c x && inB (4 ^ lv1 c) t) := by
  unfold lfB lvB
  rw [Bool.and_assoc]
end Go.Proofs.Ytienhdlhlddemaa

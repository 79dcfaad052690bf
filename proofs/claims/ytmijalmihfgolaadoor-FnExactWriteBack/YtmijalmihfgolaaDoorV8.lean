import Derived.Test.YtmijalmihfgolaaDoorV7
/- What catches a fault: the deferred function of withOpenStore. -/
namespace Go.Proofs.YtmijalmihfgolaaDoor
open Go.ChangeShapes Go.WideShapes Go.ChangeAt Go.RowKit
set_option linter.unusedVariables false
open Tx

attribute [local go_sem] Oper.semAt_some

theorem catch_panicking (d1 d2 : Nat) (v0 v1 v2 v3 vb : Value) (u : TypeId) (pv : Value) (older : List PanicEntry) (w : World) (h1 : w.heap[d1]? = some (.cells #[v0, v1, v2, v3] 34 (0, 0))) (h2 : w.heap[d2]? = some (.cells #[vb] 4 (0, 0))) (hne : d1 ≠ d2) :
    CallsD Tryd.prog 84 #[.pointer (some ⟨d1, 0, none⟩), .pointer (some ⟨d2, 0, none⟩)] (.panicking ({ v := .iface u pv, recovered := false } :: older)) w fun e u' w' =>
      e = .returned (.tuple #[]) ∧ u' = .panicking ({ v := .iface u pv, recovered := true } :: older) ∧ w'.heap[d1]? = some (.cells #[.slice none 0 0, .slice none 0 0, .slice none 0 0, .int .i64 0] 34 (0, 0)) ∧ w'.heap[d2]? = some (.cells #[.bool false] 4 (0, 0)) ∧ (∀ B, B ≤ d1 → B ≤ d2 → B ≤ w.heap.size → Below B w w') := by
  obtain ⟨c0, c1, c2, c3⟩ := box4_cells h1
  obtain ⟨f0, f1, f2, f3⟩ := box4_free h1
  obtain ⟨b0, g0⟩ := box1_cells h2
  refine callsD_of_wpS Tryd.func84 rfl fun c₀ cs hu => ?_
  apply wpS_seq
  apply wpS_region
  simp [wpOpsS, go_sem, recoverD, hu, Tryd.ntmps84, Exit.thenS]
  refine wpS_cond (t := true) (by simp [Act.eval, Array.replicate]) ?_
  simp only [if_true]
  have hset := box4_set h1 (x0 := .slice none 0 0) (x1 := .slice none 0 0) (x2 := .slice none 0 0) (x3 := .int .i64 0)
  have hout := set4_out w d1 (.slice none 0 0) (.slice none 0 0) (.slice none 0 0) (.int .i64 0)
  obtain ⟨W1, hW1⟩ : ∃ W1, (((w.setCell ⟨d1, 0, none⟩ (.slice none 0 0)).setCell ⟨d1, 1, none⟩ (.slice none 0 0)).setCell ⟨d1, 2, none⟩ (.slice none 0 0)).setCell ⟨d1, 3, none⟩ (.int .i64 0) = W1 := ⟨_, rfl⟩
  rw [hW1] at hset hout
  have h2' := box_out h2 hout (by omega)
  obtain ⟨b0', g0'⟩ := box1_cells h2'
  apply wpS_region
  simp [wpOpsS, go_sem, c0, c1, c2, c3, f0, f1, f2, f3, hW1, b0', g0', bodyPostS, results, Tryd.results84]
  refine ⟨box_out hset (out_setCell W1 d2 0 _) (by omega), ?_, fun B q1 q2 q3 => ?_⟩
  · rw [block_setz h2']
    rfl
  · exact ((Out.below hout (by have := box_lt h1; omega)).mono q1).trans ((Below.refl _ _).setCell (by simpa using q2) _)
theorem catch_idle (d1 d2 : Nat) (w : World) :
    CallsD Tryd.prog 84 #[.pointer (some ⟨d1, 0, none⟩), .pointer (some ⟨d2, 0, none⟩)] .returning w fun e u' w' => e = .returned (.tuple #[]) ∧ u' = .returning ∧ w' = w := by
  refine callsD_of_wpS Tryd.func84 rfl fun c₀ cs hu => ?_
  apply wpS_seq
  apply wpS_region
  simp [wpOpsS, go_sem, recoverD, hu, Tryd.ntmps84, Exit.thenS]
  refine wpS_cond (t := false) (by simp [Act.eval, Array.replicate]) ?_
  simp only [Bool.false_eq_true, if_false]
  refine wpS_of_wp (wp_skip ?_)
  cases c₀
  simp_all [bodyPostS, results, Tryd.results84]
end Go.Proofs.YtmijalmihfgolaaDoor

import Derived.Test.YtkkakidhdnfilaaE9
/- The program: a good cow. -/
namespace Go.Proofs.Ytkkakidhdnfilaa
open Go.ChangeShapes Go.WideShapes Go.ChangeAt Go.RowKit
set_option linter.unusedVariables false
open Hd

attribute [local go_sem] Oper.semAt_some

theorem opened_any (v : Value) (c : Co) (rq : List Int) (b : Option Addr) (cap : Nat) (w : World) (hc : CowAt w v c) (hf : FewW c) (hrq : Ints w b rq) (hrn : rq.length ≤ 8) :
    Calls Try.prog 48 #[v, .slice b rq.length cap] w (OpenR c rq w) := by
  cases h : few c with
  | true => exact opened_yes v c rq b cap w hc hf h hrq hrn
  | false => exact opened_no v c rq b cap w hc hf h
theorem openR_below {c : Co} {rq : List Int} {w w' : World} {e : Ending} (h : OpenR c rq w e w') : Below w.heap.size w w' := h.1
set_option maxHeartbeats 1000000 in
theorem implGood_any (v : Value) (c : Co) (w : World) (hc : CowAt w v c) (hf : FewW c) :
    Calls Try.prog 19 #[v] w fun e w' => e = .returned (.bool (gI c)) ∧ Below w.heap.size w w' := by
  have cO := fun W h => opened_any v c [] none 0 W (hc.below h) hf Ints.nil (by simp)
  obtain ⟨a, ca, a', ca', rfl, -, -, -, -⟩ := hc
  obtain ⟨W0, hW0⟩ : ∃ W0, w.alloc (.cells #[.slice a c.cs.length ca, .slice a' c.rs.length ca', .int .i64 c.lv] 25) = W0 := ⟨_, rfl⟩
  have q0 : Below w.heap.size w W0 := by subst hW0; exact below_alloc _ _
  have H1 : Hid (W0.heap[w.heap.size]? = some (.cells #[.slice a c.cs.length ca, .slice a' c.rs.length ca', .int .i64 c.lv] 25 (0, 0))) := by subst hW0; exact al1 _ _
  obtain ⟨i0, i1, i2⟩ := box3_one H1.out
  have HcO := cO W0 q0
  simp only [List.length_nil] at HcO
  clear cO
  unfold kv at *
  go_enter Try.func19, Try.ntmps19
  go_wp2_with fail
  refine HcO.mono ?_
  rintro e w1 ⟨b1, v1, rfl, ⟨p, n, k, p', n', k', p'', n'', k'', lv, rfl⟩, -, hv1⟩
  have e0 : (gI c && ([] : List Int).all (inB c.rs.length)) = gI c := by simp
  rw [e0]
  clear hv1 e0 i0 i1 i2 hW0
  unfold ov
  go_wp2_with fail
  go_ret
  exact ⟨rfl, Below.comp (Below.comp q0 b1) (below_alloc _ _)⟩
end Go.Proofs.Ytkkakidhdnfilaa

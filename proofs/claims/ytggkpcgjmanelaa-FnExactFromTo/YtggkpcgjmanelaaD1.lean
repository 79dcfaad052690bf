import Derived.Test.YtggkpcgjmanelaaG1
/- DepthOf, both sides. -/
namespace Go.Proofs.Ytggkpcgjmanelaa
open Go.ChangeShapes Go.WideShapes Go.ChangeAt Go.RowKit
set_option linter.unusedVariables false
open Bt

attribute [local go_sem] Oper.semAt_some

/-- What DepthOf answers. -/
def dOf (o : Option Tr) : Nat := match o with | none => 0 | some t => dp t true
theorem is_small {N : List Nd} {root : Int} {t : Tr} (h : Is N root t) : Wf t ∧ (flat t).length ≤ 200 := by
  obtain ⟨-, -, ⟨hh, hok⟩, -, h5⟩ := h
  exact ⟨hok.wf, h5⟩
theorem dI_dp {t : Tr} (h : Gd t) : (dI t).1 = dp t true := by
  obtain ⟨⟨hh, hok⟩, -, -⟩ := h
  rw [(dI_ok t true hh hok.cn).2 hok, hok.dp]
set_option maxHeartbeats 1000000 in
theorem specDepth_any (N : List Nd) (a : Option Addr) (cap : Nat) (root : Int) (o : Option Tr) (w : World) (hN : Nodes w a N) (hn : N.length ≤ 1048576) (hbk : bk N N.length ≤ 1048576) (ho : ∀ t, o = some t ↔ Is N root t) :
    Calls Try.prog 42 #[tv a N.length cap root] w fun e w' => e = .returned (.tuple #[.int .i64 (dOf o), .bool o.isSome]) ∧ Below w.heap.size w w' := by
  have cR := fun W h => l7Of_any N a cap root o W h hn hbk ho
  have q0 := below_alloc w (.cells #[.slice a N.length cap, .int .i64 root] 27)
  go_enter Try.func42, Try.ntmps42
  go_wp2_with fail
  refine (cR _ (hN.below q0)).mono ?_
  rintro e w1 ⟨b1, x, n, c, x', n', c', rfl, hv⟩
  have g1 := Below.comp q0 b1
  have q1 := below_alloc w1 (.cells #[.slice x n c, .slice x' n' c'] 67)
  cases o with
  | none =>
    simp only [Option.isSome_none]
    go_wp2_with fail
    go_ret2
    exact ⟨rfl, Below.comp g1 q1⟩
  | some t =>
    have hs := (ho t).1 rfl
    obtain ⟨hwf, hfl⟩ := is_small hs
    have cD := l7Deep_any 20 _ t true _ ((hv t rfl).below q1) hwf (by omega) (by omega)
    simp only [Option.isSome_some]
    go_wp2_with fail
    refine cD.mono ?_
    rintro e w2 ⟨rfl, b2⟩
    go_wp2_with fail
    go_ret2
    exact ⟨rfl, Below.comp (Below.comp g1 q1) b2⟩
set_option maxHeartbeats 1000000 in
theorem implDepth_any (N : List Nd) (a : Option Addr) (cap : Nat) (root : Int) (o : Option Tr) (w : World) (hN : Nodes w a N) (hn : N.length ≤ 1048576) (hbk : bk N N.length ≤ 1048576) (ho : ∀ t, o = some t ↔ Is N root t) :
    Calls Try.prog 17 #[tv a N.length cap root] w fun e w' => e = .returned (.tuple #[.int .i64 (dOf o), .bool o.isSome]) ∧ Below w.heap.size w w' := by
  have cR := fun W h => rootOf_any N a cap root o W h hn hbk ho
  have q0 := below_alloc w (.cells #[.slice a N.length cap, .int .i64 root] 27)
  go_enter Try.func17, Try.ntmps17
  go_wp2_with fail
  refine (cR _ (hN.below q0)).mono ?_
  rintro e w1 ⟨b1, v, rfl, hv⟩
  have g1 := Below.comp q0 b1
  cases o with
  | none =>
    simp only [Option.isSome_none]
    go_wp2_with fail
    go_ret2
    exact ⟨rfl, g1⟩
  | some t =>
    have hs := (ho t).1 rfl
    obtain ⟨hwf, hfl⟩ := is_small hs
    have cD := depthBelow_any 101 _ t _ (hv t rfl) hwf (by omega) (by omega)
    rw [dI_dp hs.2.2] at cD
    simp only [Option.isSome_some]
    obtain ⟨T, u, rfl⟩ := (hv t rfl).form
    generalize (dI t).2 = E at *
    go_wp2_with fail
    refine cD.mono ?_
    rintro e w2 ⟨rfl, b2⟩
    go_wp2_with fail
    go_ret2
    exact ⟨rfl, Below.comp g1 b2⟩
end Go.Proofs.Ytggkpcgjmanelaa

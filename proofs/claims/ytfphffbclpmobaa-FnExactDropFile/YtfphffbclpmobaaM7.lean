import Derived.Test.YtfphffbclpmobaaP9
import Derived.Test.YtfphffbclpmobaaM4
import Derived.Test.YtfphffbclpmobaaX2
import Derived.Test.YtfphffbclpmobaaOL
/- impl.dropFile's loop: the uses of a file's texts. -/
namespace Go.Proofs.Ytfphffbclpmobaa
open Go.ChangeShapes Go.WideShapes Go.ChangeAt Go.RowKit Go.Maps
set_option linter.unusedVariables false
open Hd

attribute [local go_sem] Oper.semAt_some

def drL (s : SG × Nat) (l : List ByteArray) : SG × Nat := l.foldl dr1 s
theorem drL_snoc (s : SG × Nat) (l : List ByteArray) (t : ByteArray) : drL s (l ++ [t]) = dr1 (drL s l) t := by simp [drL, List.foldl_append]
theorem wpList_gdel (w : World) {ops : Array Oper} {rest : List Oper} {o : Oper} {a : Act} {Q : Exit → Act → World → Prop} (hg : o.guard = none) (m x : Operand) (hop : o.op = Op.call { callee := Callee.builtin Builtin.delete, args := #[m, x], argTypes := #[49, 9] }) (b n N : Nat) (g : SG) (y : ByteArray)
    (hm : a.eval m = .map (some b)) (h : GM w b n g N) (hy : y.size ≤ maxLen) (hx : a.eval x = .string y)
    (hK : ∀ w', GM w' b n (upG g y none) (if (g y).isSome then N - 1 else N) → w.mapTurned w' b → wpList Try.prog ops Q rest (a.put o.dst (.tuple #[])) w') : wpList Try.prog ops Q (o :: rest) a w := by
  obtain ⟨w', hrun, h1, h2⟩ := h.drop y hy o.type
  refine wpList_plain hg fun K hK' => ?_
  unfold Oper.wp
  simp [execOp, hop, resolve, invoke, builtin, hm, hx, hrun, Result.andThen]
  exact hK' _ _ (hK w' h1 h2)
end Go.Proofs.Ytfphffbclpmobaa

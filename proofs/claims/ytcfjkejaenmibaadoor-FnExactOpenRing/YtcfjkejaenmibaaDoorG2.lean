import Derived.Test.YtcfjkejaenmibaaDoorG1
import Derived.Laws.StructEq
/- Two slots compared. -/
namespace Go.Proofs.YtcfjkejaenmibaaDoor
open Go.ChangeShapes Go.WideShapes Go.ChangeAt Go.RowKit
set_option linter.unusedVariables false
open Lg

/-- Whether two slots are the same. -/
def sameB (x y : Sl) : Bool := decide (x.c = y.c) && (decide (x.t = y.t) && (decide (x.d = y.d) && decide (x.s = y.s)))
theorem sameB_iff {x y : Sl} : sameB x y = true ↔ x = y := by
  obtain ⟨c, t, d, s⟩ := x
  obtain ⟨c', t', d', s'⟩ := y
  unfold sameB
  simp
theorem tl_iff (a b : ByteArray) : a.toList = b.toList ↔ a = b := by
  constructor
  · intro h
    rw [ByteArray.toList_eq, ByteArray.toList_eq] at h
    obtain ⟨⟨x⟩⟩ := a
    obtain ⟨⟨y⟩⟩ := b
    simp_all
  · intro h; rw [h]
theorem eqlS (x y : Sl) (w : World) : (binOp .eql 41 (sv x) (sv y)).run Tryd.prog w = .ok (.bool (sameB x y)) w := by
  have u3 := Tryd.underlying3
  have a3 := Tryd.isAgg3
  have z3 := Tryd.sizeOf3
  have u9 := Tryd.underlying9
  have a9 := Tryd.isAgg9
  have z9 := Tryd.sizeOf9
  have hS : Tryd.prog.underlying 41 = some (.struct (Tryd.prog.fieldsOf 41)) := by kernel_rfl
  have hp : Tryd.prog.stoodInHeld 41 = false := by kernel_rfl
  obtain ⟨c, t, d, s⟩ := x
  obtain ⟨c', t', d', s'⟩ := y
  rw [run_eql_struct, show (10000 : Nat) = 9999 + 1 from rfl, run_equalIn_agg w 9999 41 _ _ hS hp]
  simp only [Program.fieldsOf, Tryd.underlying41]
  go_simp
  simp only [tl_iff]
  unfold sameB
  by_cases h1 : c = c' <;> by_cases h2 : t = t' <;> by_cases h3 : d = d' <;> by_cases h4 : s = s' <;> simp [h1, h2, h3, h4]
theorem neqS (x y : Sl) (w : World) : (binOp .neq 41 (sv x) (sv y)).run Tryd.prog w = .ok (.bool (!(sameB x y))) w := by
  have h := eqlS x y w
  rw [run_eql_struct] at h
  rw [run_neq_struct]
  cases hq : (Op.equalIn 10000 41 (sv x) (sv y)).run Tryd.prog w with
  | ok b w' =>
    rw [hq] at h
    simp only [Result.andThen] at h ⊢
    simp only [Result.ok.injEq, Value.bool.injEq] at h
    obtain ⟨rfl, rfl⟩ := h
    rfl
  | halt x w' => rw [hq] at h; simp [Result.andThen] at h
theorem guardS (op : BinOp) (x y : Operand) (xs ys : Array Value) (w : World) : (eqGuard op 41 x y (.agg xs) (.agg ys)).run Tryd.prog w = .ok () w := run_eqGuard_agg w op _ x y xs ys (by kernel_rfl)
end Go.Proofs.YtcfjkejaenmibaaDoor

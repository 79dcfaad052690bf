import Derived.Test.YtmijalmihfgolaaQK2c
namespace Go.Proofs.Ytmijalmihfgolaa
open Go.ChangeShapes Go.WideShapes Go.ChangeAt Go.RowKit
set_option linter.unusedVariables false
open Tx

attribute [local go_sem] Oper.semAt_some


theorem run_part_int {P : Program} {e : TypeId} {k : IntKind} (he : P.underlying e = some (.int k)) {cs : Array Value} {off : Nat} {v : Value} (h : cs[off]? = some v) (w : World) : (part e cs off).run P w = .ok v w := by
  simp [part, isAgg, run_underlying he, h]

def sameIn (X Y : Nat → Int) (j n : Nat) : Bool := (List.range' j n).all fun i => X i == Y i

theorem run_loop_eq {P : Program} {e : TypeId} {k : IntKind} (he : P.underlying e = some (.int k)) (d : Nat) (cs ds : Array Value) (X Y : Nat → Int) (w : World) : ∀ (n j : Nat), (∀ i, i < j + n → cs[i]? = some (.int k (X i)) ∧ ds[i]? = some (.int k (Y i))) →
    Sem.run P (forIn (List.range' j n) ((none, ()) : Option Bool × Unit) fun i __s => do
            let a ← part e cs i
            let b ← part e ds i
            let r ← Op.equalIn (d + 1) e a b
            if r = false then pure (ForInStep.done (some false, ())) else pure (ForInStep.yield (none, ()))) w = .ok (bif sameIn X Y j n then (none, ()) else (some false, ())) w
  | 0, j, h => by simp [sameIn]
  | n + 1, j, h => by
    have ih := run_loop_eq he d cs ds X Y w n (j + 1) (fun i hi => h i (by omega))
    obtain ⟨h1, h2⟩ := h j (by omega)
    have es : sameIn X Y j (n + 1) = ((X j == Y j) && sameIn X Y (j + 1) n) := by simp [sameIn, List.range'_succ]
    rw [List.range'_succ, List.forIn_cons, es]
    simp only [Sem.run_bind, run_part_int he h1, run_part_int he h2, Result.andThen_ok, run_equalIn_int w d e k k (X j) (Y j) he]
    cases e1 : (X j == Y j)
    · simp
    · simp only [Bool.true_eq_false, if_false, Sem.run_pure, Result.andThen_ok, ih, Bool.true_and]

/-- Two arrays of integers, held against each other. -/
theorem run_arr_neq {P : Program} {t e : TypeId} {k : IntKind} {n : Nat} (ht : P.underlying t = some (.array n e)) (he : P.underlying e = some (.int k)) (hs : (P.info? e).map (·.size) = some 1) (cs ds : Array Value) (X Y : Nat → Int)
    (h : ∀ i, i < n → cs[i]? = some (.int k (X i)) ∧ ds[i]? = some (.int k (Y i))) (w : World) :
    (binOp .neq t (.agg cs) (.agg ds)).run P w = .ok (.bool (!sameIn X Y 0 n)) w := by
  have hl := run_loop_eq he 9998 cs ds X Y w n 0 (fun i hi => h i (by omega))
  rw [run_neq_struct]
  obtain ⟨i0, hi, hz⟩ := Option.map_eq_some_iff.1 hs
  unfold Op.equalIn
  simp only [Nat.reduceAdd] at hl
  cases hall : sameIn X Y 0 n
  · rw [hall] at hl
    simp [run_underlying ht, sizeOf, typeInfo, hi, hz, hl]
  · rw [hall] at hl
    simp [run_underlying ht, sizeOf, typeInfo, hi, hz, hl]
end Go.Proofs.Ytmijalmihfgolaa

import Derived.Test.YtfphffbclpmobaaH1
/- Both sides: a hash that rolls on. -/
namespace Go.Proofs.Ytfphffbclpmobaa
open Go.ChangeShapes Go.WideShapes Go.ChangeAt Go.RowKit
set_option linter.unusedVariables false
open Hd

attribute [local go_sem] Oper.semAt_some

/-- A hash rolled on by a byte. -/
def ro (h o i : Nat) : Nat := ((31 * h + i) % 4093 + 4093 - o * 923521 % 4093) % 4093
theorem ro_lt (h o i : Nat) : ro h o i < 4093 := Nat.mod_lt _ (by omega)
theorem tmod_pos {n : Int} (h : 0 ≤ n) : n.tmod 4093 = n % 4093 := Int.tmod_eq_emod_of_nonneg h
theorem tmod_neg {n : Int} (h : n < 0) : n.tmod 4093 = -((-n) % 4093) := by
  have e : n = -(-n) := by omega
  rw [e, Int.neg_tmod, tmod_pos (by omega)]
  simp
end Go.Proofs.Ytfphffbclpmobaa

import Derived.Test.YtmijalmihfgolaaQA2c
namespace Go.Proofs.Ytmijalmihfgolaa
open Go.ChangeShapes Go.WideShapes Go.ChangeAt Go.RowKit
set_option linter.unusedVariables false
open Tx

attribute [local go_sem] Oper.semAt_some

def strs (n : Nat) (S : Nat → ByteArray) (c : Array Value) : Prop := ∀ i, i < n → c[i]? = some (.string (S i))
def wrts (n : Nat) (T : Nat → Int) (U : Nat → ByteArray) (c : Array Value) : Prop := ∀ i, i < n → c[i * 2]? = some (.int .i64 (T i)) ∧ c[i * 2 + 1]? = some (.string (U i))

theorem Mine.strs {w : World} {B C : Nat} {e : TypeId} {n : Nat} {a : Option Addr} {S : Nat → ByteArray} (h : Mine w B C e n a (strs n S)) : At w a n fun i => .string (S i) := by
  intro hn
  rcases h with h | ⟨b, c, g1, g2, h3, h4, h5⟩
  · exact absurd h hn
  · exact ⟨b, 0, h3, fun i hi => by simp [World.cell?, h4, h5 i hi]⟩
theorem Mine.wrts {w : World} {B C : Nat} {e : TypeId} {n : Nat} {a : Option Addr} {T : Nat → Int} {U : Nat → ByteArray} (h : Mine w B C e n a (wrts n T U)) : At2 w a n T U := by
  intro hn
  rcases h with h | ⟨b, c, g1, g2, h3, h4, h5⟩
  · exact absurd h hn
  · exact ⟨b, 0, h3, fun i hi => by have := h5 i hi; simp [World.cell?, h4, this]⟩

theorem info9 : (Try.prog.info? 9).map (fun i => (i.zero, i.size, i.bytes)) = some (some (.string ⟨#[]⟩), 1, 16) := by kernel_rfl
theorem info42 : (Try.prog.info? 55).map (fun i => (i.zero, i.size, i.bytes)) = some (some (.agg #[.int .i64 0, .string ⟨#[]⟩]), 2, 24) := by kernel_rfl
end Go.Proofs.Ytmijalmihfgolaa

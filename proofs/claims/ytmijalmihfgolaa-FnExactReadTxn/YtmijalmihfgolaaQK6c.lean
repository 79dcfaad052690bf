import Derived.Test.YtmijalmihfgolaaQK5c
namespace Go.Proofs.Ytmijalmihfgolaa
open Go.ChangeShapes Go.WideShapes Go.ChangeAt Go.RowKit
set_option linter.unusedVariables false
open Tx

attribute [local go_sem] Oper.semAt_some


theorem mine_none (w : World) (B C : Nat) (e : TypeId) (a : Option Addr) (p : Array Value → Prop) : Mine w B C e 0 a p := .inl rfl

/-- A device of one's own: both its slices in rows of their own. -/
def MineD (w : World) (B C : Nat) (x y : Option Addr) (N M : Nat) (S : Nat → ByteArray) (T : Nat → Int) (U : Nat → ByteArray) : Prop :=
  Mine w B C 9 N x (strs N S) ∧ Mine w B C 55 M y (wrts M T U)
theorem MineD.below {w w' : World} {B C : Nat} {x y : Option Addr} {N M : Nat} {S : Nat → ByteArray} {T : Nat → Int} {U : Nat → ByteArray} (h : MineD w B C x y N M S T U) (hb : Below w.heap.size w w') : MineD w' B C x y N M S T U := ⟨h.1.below hb, h.2.below hb⟩
theorem MineD.mono {w : World} {B C B' C' : Nat} {x y : Option Addr} {N M : Nat} {S : Nat → ByteArray} {T : Nat → Int} {U : Nat → ByteArray} (h : MineD w B C x y N M S T U) (h1 : B' ≤ B) (h2 : C ≤ C') : MineD w B' C' x y N M S T U := ⟨h.1.mono h1 h2, h.2.mono h1 h2⟩
theorem MineD.out {w w' : World} {B C B' C' : Nat} {x y : Option Addr} {N M : Nat} {S : Nat → ByteArray} {T : Nat → Int} {U : Nat → ByteArray} (h : MineD w B C x y N M S T U) (ho : Out B' C' w w') (hd : C ≤ B' ∨ C' ≤ B) : MineD w' B C x y N M S T U := ⟨h.1.out ho hd, h.2.out ho hd⟩

def flushN (n m : Nat) (S : Nat → ByteArray) (T : Nat → Int) (U : Nat → ByteArray) : Nat := bif goodB n m S T U then n else 0
end Go.Proofs.Ytmijalmihfgolaa

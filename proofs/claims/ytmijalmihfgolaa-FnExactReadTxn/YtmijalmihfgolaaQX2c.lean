import Derived.Test.YtmijalmihfgolaaQX1c
import Derived.Deep.RegionHeld3
namespace Go.Proofs.Ytmijalmihfgolaa
open Go.ChangeShapes Go.WideShapes Go.ChangeAt Go.RowKit
set_option linter.unusedVariables false
open Tx

attribute [local go_sem] Oper.semAt_some


def crOK (n m nk : Nat) (S : Nat → ByteArray) (T : Nat → Int) (U : Nat → ByteArray) : Bool := decide (goodB n m S T U = true ∧ nk = m)
def crN (n m nk : Nat) (S : Nat → ByteArray) (T : Nat → Int) (U : Nat → ByteArray) : Nat := bif crOK n m nk S T U then n else 0
def crS (m : Nat) (S : Nat → ByteArray) (T : Nat → Int) (U : Nat → ByteArray) (K : Nat → Bool) : Nat → ByteArray := doneS S (kT K m T) (kU K m U) (kidx K m).length
end Go.Proofs.Ytmijalmihfgolaa

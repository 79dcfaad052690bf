import Derived.Test.YtmijalmihfgolaaDoorKEo
import Derived.Test.YtmijalmihfgolaaDoorX7
/- The law of RecoverStore. -/
namespace Go.Proofs.YtmijalmihfgolaaDoor
open Go.ChangeShapes Go.WideShapes Go.ChangeAt Go.RowKit
set_option linter.unusedVariables false
open Tx

theorem bifE {α : Type} (b : Bool) (l : List α) : (bif b then l else []).length ≤ l.length := by cases b <;> simp

theorem lawRecover (a a' az : Option Addr) (ca ca' cz : Nat) (L : List ByteArray) (P : List Wr) (G : List ByteArray) (q : Int) (w : World) (sa : Addr) (hi : SIn L P G q) (ha : StAt w a a' az L P G) (hS : Sn w sa) :
    Calls Tryd.prog 9 #[stv a L.length ca a' P.length ca' az G.length cz q] w fun e w' => e = .returned (.bool true) ∧ Below w.heap.size w w' :=
  lawRecover_of a a' az ca ca' cz L P G q w sa hi ha hS (gdS L P G q && decide (q = (G.length : Nat))) _ _ _ _
    (fun h1 h2 h3 => ⟨by have := bifE (gdS L P G q && decide (q = (G.length : Nat))) (dn (dn L P) (wrs G)); rw [dn_len, dn_len] at this; omega, by have := bifE (gdS L P G q && decide (q = (G.length : Nat))) ([] : List Wr); rw [List.length_nil] at this; omega, by have := bifE (gdS L P G q && decide (q = (G.length : Nat))) ([] : List ByteArray); rw [List.length_nil] at this; omega⟩)
    (fun ok x y z cx cy W h => specRecover_any x y z cx cy _ L P G q W ok h)
    (fun ok x y z cx cy W h hs => implRecover_any x y z cx cy _ L P G q W sa ok h hs)
end Go.Proofs.YtmijalmihfgolaaDoor

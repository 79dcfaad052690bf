import Derived.Test.YtmijalmihfgolaaDoorKYo
import Derived.Test.YtmijalmihfgolaaDoorX2
import Derived.Test.YtmijalmihfgolaaDoorX4
/- The law of SyncLog. -/
namespace Go.Proofs.YtmijalmihfgolaaDoor
open Go.ChangeShapes Go.WideShapes Go.ChangeAt Go.RowKit
set_option linter.unusedVariables false
open Tx

theorem bifL {α : Type} (b : Bool) (l : List α) : (bif b then l else []).length ≤ l.length := by cases b <;> simp

theorem lawSync (a a' az : Option Addr) (ca ca' cz : Nat) (L : List ByteArray) (P : List Wr) (G : List ByteArray) (q : Int) (w : World) (sa : Addr) (hi : SIn L P G q) (ha : StAt w a a' az L P G) (hS : Sn w sa) :
    Calls Tryd.prog 5 #[stv a L.length ca a' P.length ca' az G.length cz q] w fun e w' => e = .returned (.bool true) ∧ Below w.heap.size w w' :=
  lawSync_of a a' az ca ca' cz L P G q w sa hi ha hS (gdS L P G q) _ _ _ _
    (fun h1 h2 h3 => ⟨by have := bifL (gdS L P G q) L; omega, by have := bifL (gdS L P G q) P; omega, by have := bifL (gdS L P G q) G; omega⟩)
    (fun ok x y z cx cy W h => specSync_any x y z cx cy _ L P G q W ok h)
    (fun ok x y z cx cy W h hs => implSync_any x y z cx cy _ L P G q W sa ok h hs)
end Go.Proofs.YtmijalmihfgolaaDoor

import Derived.Test.YtmijalmihfgolaaDoorKBo
import Derived.Test.YtmijalmihfgolaaDoorXB
import Derived.Test.YtmijalmihfgolaaDoorXC
/- The law of WriteBack. -/
namespace Go.Proofs.YtmijalmihfgolaaDoor
open Go.ChangeShapes Go.WideShapes Go.ChangeAt Go.RowKit
set_option linter.unusedVariables false
open Tx

theorem bifB {α : Type} (b : Bool) (l : List α) : (bif b then l else []).length ≤ l.length := by cases b <;> simp
theorem backLen (L : List ByteArray) (P : List Wr) (G : List ByteArray) (q : Int) : (bif gdS L P G q && decide (P.length + (wrs (G.take q.toNat)).length ≤ 60) then P ++ wrs (G.take q.toNat) else []).length ≤ 60 := by
  by_cases h : P.length + (wrs (G.take q.toNat)).length ≤ 60
  · have := bifB (gdS L P G q && decide (P.length + (wrs (G.take q.toNat)).length ≤ 60)) (P ++ wrs (G.take q.toNat))
    rw [List.length_append] at this
    omega
  · rw [decide_eq_false h, Bool.and_false]
    simp

theorem lawBack (a a' az : Option Addr) (ca ca' cz : Nat) (L : List ByteArray) (P : List Wr) (G : List ByteArray) (q : Int) (w : World) (sa : Addr) (hi : SIn L P G q) (ha : StAt w a a' az L P G) (hS : Sn w sa) :
    Calls Tryd.prog 6 #[stv a L.length ca a' P.length ca' az G.length cz q] w fun e w' => e = .returned (.bool true) ∧ Below w.heap.size w w' :=
  lawBack_of a a' az ca ca' cz L P G q w sa hi ha hS (gdS L P G q && decide (P.length + (wrs (G.take q.toNat)).length ≤ 60)) _ _ _ _
    (fun h1 h2 h3 => ⟨by have := bifB (gdS L P G q && decide (P.length + (wrs (G.take q.toNat)).length ≤ 60)) L; omega, by have := backLen L P G q; omega, by have := bifB (gdS L P G q && decide (P.length + (wrs (G.take q.toNat)).length ≤ 60)) G; omega⟩)
    (fun ok x y z cx cy W h => specBack_any x y z cx cy _ L P G q W ok h)
    (fun ok x y z cx cy W h hs => implBack_any x y z cx cy _ L P G q W sa ok h hs)
end Go.Proofs.YtmijalmihfgolaaDoor

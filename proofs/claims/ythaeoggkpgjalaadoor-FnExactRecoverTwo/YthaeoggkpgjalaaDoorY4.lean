import Derived.Test.YthaeoggkpgjalaaDoorY3
import Derived.Test.YthaeoggkpgjalaaDoorQ2
namespace Go.Proofs.YthaeoggkpgjalaaDoor
open Go.ChangeShapes Go.WideShapes Go.ChangeAt Go.RowKit
set_option linter.unusedVariables false
open GF

theorem lawTwo (a : Option Addr) (n ca : Nat) (D : Nat → ByteArray) (P Q : ByteArray) (s t : Int) (w : World) (hn : n ≤ 9223372036854775807) (hP : P.size ≤ 9223372036854775807) (hQ : Q.size ≤ 9223372036854775807)
    (ha : At w a n fun i => .string (D i)) (hs : ∀ i, i < n → (D i).size ≤ 9223372036854775807) (ht : Tab w) (hz0 : 0 < w.heap.size) :
    Calls Tryd.prog 6 #[.agg #[.slice a n ca, .string P, .string Q], .int .i64 s, .int .i64 t] w fun e w' => e = .returned (.bool true) ∧ Below w.heap.size w w' :=
  lawTwo0 s t a n ca D P Q w hn hP hQ ha hs ht hz0 _ _ _ _ _ (fun h => by unfold oneN; split; exact h; omega)
    (fun x cx W hn' hx => specTwo_any x n cx D P Q s t W hn' hx) (fun x cx W hn' hx hT hz => implTwo_any x n cx D P Q s t W hn' hP hQ hs hx hT hz)
end Go.Proofs.YthaeoggkpgjalaaDoor

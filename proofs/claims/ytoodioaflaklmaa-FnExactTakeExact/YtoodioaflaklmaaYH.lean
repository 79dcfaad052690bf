import Derived.Test.YtoodioaflaklmaaX8
import Derived.Test.YtoodioaflaklmaaA1
/- Room that is given back: the program. -/
namespace Go.Proofs.Ytoodioaflaklmaa
open Go.ChangeShapes Go.WideShapes Go.ChangeAt Go.RowKit
set_option linter.unusedVariables false
open Room

attribute [local go_sem] Oper.semAt_some

/-- What is answered: the blocks, the extents, whether. -/
def ansB (b : Int) (r : Option (List Ex)) : Int := match r with | some _ => b | none => 0
def ansL (r : Option (List Ex)) : List Ex := match r with | some m => m | none => []
def ansO (r : Option (List Ex)) : Bool := match r with | some _ => true | none => false
theorem gvI_cons {x y : Ex} {f t : Int} {g l : List Ex} : gvI x f t g (y :: l) = if fin y = x.1 then gvI x y.1 t (g ++ [y]) l else if y.1 = fin x then gvI x f (fin y) (g ++ [y]) l else if y.1 < fin x ∧ x.1 < fin y then none else gvI x f t g l := rfl
/-- At most so many extents. -/
def few (r : Option (List Ex)) : Option (List Ex) := match r with | some m => if m.length ≤ 60 then some m else none | none => none
def giveR (b : Int) (l s : List Ex) (x : Ex) : Option (List Ex) := bif good b l s && inB b x then few (gv x l) else none

end Go.Proofs.Ytoodioaflaklmaa

/-
  The laws' closure isDead: which membranes it calls dead.
  Conditions: as each theorem says.
-/
import Derived.Test.YtebcojkeblpbjaaSwBase
namespace Go.Proofs.Ytebcojkeblpbjaa
open Go.ChangeShapes Go.WideShapes Go.ChangeAt Go.RowKit Go.Maps Go.Sort Go.Lib
set_option linter.unusedVariables false
/-- Which membranes are dead, as isDead says. -/
def ddOf (d x : Int) : Bool := bits .and .u8 (d / 2 ^ x.toNat) 1 == 1
end Go.Proofs.Ytebcojkeblpbjaa

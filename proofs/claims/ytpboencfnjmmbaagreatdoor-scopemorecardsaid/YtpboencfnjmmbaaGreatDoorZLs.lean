/-
 The library's contracts of strconv.Itoa and the calls within, laid at this seat's numbers. Conditions: as each theorem says.
-/
import Derived.Shelf.Strconv.Itoa3
import Derived.Test.YtpboencfnjmmbaaGreatDoorProg
namespace Go.Proofs
open Go.Shelf
end Go.Proofs

/-
 TrRow, TrQuote, joined.
 Conditions: as each theorem says.
-/
import Derived.Test.YtpboencfnjmmbaaGreatDoorZTrA
import Derived.Test.YtpboencfnjmmbaaGreatDoorZLaw
import Derived.Lib.BufferKept
import Derived.Lib.BufferRead
import Derived.Test.YtpboencfnjmmbaaGreatDoorZLx1
set_option linter.unusedVariables false
namespace Go.Proofs.YtpboencfnjmmbaaGreatDoor
open Go.RowKit TM
section
variable {B : Nat} {w w' w2 : World} {v v' v2 : Value}
end
end Go.Proofs.YtpboencfnjmmbaaGreatDoor
namespace Go.Proofs.YtpboencfnjmmbaaGreatDoor
open Go.RowKit TM
theorem quo_len (c : UInt8) : 1 ≤ (quo c).length ∧ (quo c).length ≤ 2 := by
 unfold quo
 split
 ·simp
 ·split <;> simp
theorem quoF_len : ∀ (l : Bs), l.length ≤ (l.flatMap quo).length ∧ (l.flatMap quo).length ≤ 2 * l.length
 | [] => by simp
 | c :: l => by have := quo_len c; have := quoF_len l; simp only [List.flatMap_cons, List.length_append, List.length_cons]; omega
end Go.Proofs.YtpboencfnjmmbaaGreatDoor

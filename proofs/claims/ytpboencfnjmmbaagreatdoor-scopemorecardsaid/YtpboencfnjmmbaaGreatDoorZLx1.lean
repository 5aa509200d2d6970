/-
 Package lex's small functions: digit, inWord, inNote, run, between: what each returns; memory is as it was.
 Conditions: as each theorem says.
-/
import Derived.Test.YtpboencfnjmmbaaGreatDoorProg
import Derived.ProofKit
import Derived.Lib.Strings
import Derived.Test.YtpboencfnjmmbaaGreatDoorZLexMath
set_option linter.unusedVariables false
namespace Go.Proofs.YtpboencfnjmmbaaGreatDoor
open Go.RowKit LM
end Go.Proofs.YtpboencfnjmmbaaGreatDoor

/-
 Package lex's small functions: digit, inWord, inNote, run, between: what each returns; memory is as it was.
 Conditions: as each theorem says.
-/
import Derived.Test.YtpboencfnjmmbaaGreatDoorProg
import Derived.ProofKit
import Derived.Lib.Strings
import Derived.Test.YtpboencfnjmmbaaGreatDoorZLexMath
set_option linter.unusedVariables false
namespace Go.Proofs.YtpboencfnjmmbaaGreatDoor
open Go.RowKit LM
theorem byte_at (s : ByteArray) (k : Nat) (h : k < s.size) : s.data.toList[k]? = some (s[k]'h) := by
 cases s with
 | mk d =>
  have h' : k < d.size := h
  rw [Array.getElem?_toList, Array.getElem?_eq_getElem h']
  rfl
theorem len_eq (s : ByteArray) : s.data.toList.length = s.size := by cases s; rfl
end Go.Proofs.YtpboencfnjmmbaaGreatDoor

/-
 What a text's tokens are, as plain lists; two texts with a line feed between; the tokens with blanks between.
 Conditions: as each theorem says. (No program is named here.)
-/
import Derived.WalkKit
set_option linter.unusedVariables false
namespace Go.Proofs.YtpboencfnjmmbaaGreatDoor.LM
def isDig (c : UInt8) : Bool := decide (48 ≤ c.toNat) && decide (c.toNat ≤ 57)
def isWrd (c : UInt8) : Bool := decide (97 ≤ c.toNat) && decide (c.toNat ≤ 122) || (decide (65 ≤ c.toNat) && decide (c.toNat ≤ 90) || (decide (c.toNat = 95) || isDig c))
def runOf (p : UInt8 → Bool) : List UInt8 → Nat
 | [] => 0
 | c :: t => if p c then runOf p t + 1 else 0
def numOf (l : List UInt8) : Nat := l.foldl (fun x c => 10 * x + (c.toNat - 48)) 0
def txt : List UInt8 → Option (List UInt8 × Nat)
 | [] => none
 | c :: t => if c.toNat = 34 then some ([], 1)
  else if c.toNat = 92 then
   match t with
   | [] => none
   | d :: u => if d.toNat = 34 ∨ d.toNat = 92 then (txt u).map fun p => (d :: p.1, p.2 + 2) else if d.toNat = 110 then (txt u).map fun p => (10 :: p.1, p.2 + 2) else none
  else if c.toNat < 32 ∨ 126 < c.toNat then none
  else (txt t).map fun p => (c :: p.1, p.2 + 1)
def signs1 : List Nat := [40, 41, 123, 125, 91, 93, 59, 44, 58, 46, 61, 60, 43, 45, 42, 33]
def sgn : List UInt8 → Nat
 | [] => 0
 | [c] => if signs1.contains c.toNat then 1 else 0
 | c :: d :: _ => if (c.toNat = 61 ∨ c.toNat = 33) ∧ d.toNat = 61 then 2 else if signs1.contains c.toNat then 1 else 0
inductive One where
 | ok (kind : Nat) (text : List UInt8) (num : Int) (n : Nat)
 | bad (range : Bool)
def one1 (c : UInt8) (t : List UInt8) : One :=
 if isDig c then
  let n := runOf isDig (c :: t)
  if 1 < n ∧ c.toNat = 48 then .bad true
  else if numOf ((c :: t).take n) ≤ 9223372036854775807 then .ok 2 ((c :: t).take n) (numOf ((c :: t).take n)) n
  else .bad true
 else if isWrd c then .ok 1 ((c :: t).take (runOf isWrd (c :: t))) 0 (runOf isWrd (c :: t))
 else if c.toNat = 34 then
  match txt t with
  | some (m, n) => .ok 3 m 0 (n + 1)
  | none => .bad false
 else
  match sgn (c :: t) with
  | 0 => .bad false
  | n + 1 => .ok 4 ((c :: t).take (n + 1)) 0 (n + 1)
def one : List UInt8 → One
 | [] => .bad false
 | c :: t => one1 c t
end Go.Proofs.YtpboencfnjmmbaaGreatDoor.LM

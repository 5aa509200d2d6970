/-
  Texts with commas between, told from the front: for the loops of package tree's addCall, addRecord, addFn and the laws' join.
  Conditions: none. (No program is named here.)
-/
import Derived.Test.YtpgbfkdknggceaaGreatDoorTrMath
namespace Go.Proofs.YtpgbfkdknggceaaGreatDoor.TM
set_option linter.unusedVariables false
/-- A comma, but ahead of the first. -/
def com (j : Nat) : Bs := if j = 0 then [] else [44, 32]
theorem commas_snoc : ∀ (L : List Bs) (y : Bs), commas (L ++ [y]) = commas L ++ com L.length ++ y
  | [], y => by simp [commas, com]
  | x :: L, y => by simp [commas, com, List.flatMap_append]
theorem commas_app_len : ∀ (L M : List Bs), (commas L).length ≤ (commas (L ++ M)).length
  | L, [] => by simp
  | L, y :: M => by
    have h := commas_app_len (L ++ [y]) M
    rw [List.append_assoc] at h
    rw [commas_snoc] at h
    simp at h ⊢
    omega
theorem commas_take_len (L : List Bs) (j : Nat) : (commas (L.take j)).length ≤ (commas L).length := by
  have := commas_app_len (L.take j) (L.drop j)
  rwa [List.take_append_drop] at this
/-- Told from the front. -/
theorem front (L : List Bs) : ∃ C : Nat → Bs, C 0 = [] ∧ (∀ j y, L[j]? = some y → C (j + 1) = C j ++ com j ++ y) ∧ (∀ j, (C j).length ≤ (commas L).length) ∧ ∀ j, L.length ≤ j → C j = commas L := by
  refine ⟨fun j => commas (L.take j), rfl, fun j y h => ?_, fun j => commas_take_len L j, fun j h => by simp [List.take_of_length_le h]⟩
  have hlt : j < L.length := by obtain ⟨h1, _⟩ := List.getElem?_eq_some_iff.1 h; exact h1
  show commas (L.take (j + 1)) = _
  rw [List.take_add_one, h]
  show commas (L.take j ++ [y]) = _
  rw [commas_snoc, List.length_take, Nat.min_eq_left (by omega)]
theorem pairs_get : ∀ {ls : List Bs} {j : Nat} {k : Bs}, ls[2 * j]? = some k → (pairs ls)[j]? = some ([91] ++ k ++ [93, 58, 32] ++ pt ls (2 * j + 1))
  | [x], 0, k, h => by simp at h; subst h; rfl
  | [x], j + 1, k, h => by simp at h
  | x :: y :: ls, 0, k, h => by simp at h; subst h; rfl
  | x :: y :: ls, j + 1, k, h => by
    have := pairs_get (ls := ls) (j := j) (k := k) (by rw [show 2 * (j + 1) = 2 * j + 1 + 1 from by omega] at h; simpa using h)
    rw [pairs, List.getElem?_cons_succ, this]
    congr 2
theorem pairs_len : ∀ (ls : List Bs) (j : Nat), ls.length ≤ 2 * j → (pairs ls).length ≤ j
  | [], j, h => by simp [pairs]
  | [x], j, h => by simp [pairs] at h ⊢; omega
  | x :: y :: ls, j, h => by
    have := pairs_len ls (j - 1) (by simp at h; omega)
    simp [pairs] at h ⊢
    omega
end Go.Proofs.YtpgbfkdknggceaaGreatDoor.TM

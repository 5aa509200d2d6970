/-
 The last statement of the laws' Awake of layer 4, whatever the order: true.
 Conditions: as the theorem says.
-/
import Derived.Test.YtenfphbhofibjaaGreatDoorZJRgn
import Derived.Test.YtenfphbhofibjaaGreatDoorZJMk
set_option linter.unusedVariables false
namespace Go.Proofs.YtenfphbhofibjaaGreatDoor
open Go.ChangeShapes Go.WideShapes Go.ChangeAt Go.RowKit Go.Maps Go.Sort Go.Lib
def valA (ab cb rg cr : Nat) : Nat → Option Value
 | 0 => some (.slice (some ⟨rg, 0, none⟩) 2 cr)
 | 1 => some (.int .i64 2)
 | 2 => some (.bool true)
 | 3 => some (.bool true)
 | 4 => some (.pointer (some ⟨ab, 0, none⟩))
 | 5 => some (.slice (some ⟨rg, 0, none⟩) 2 cr)
 | 6 => some (.slice (some ⟨rg, 1, none⟩) 1 (cr - 1))
 | 7 => some (.func (.func 95) #[] #[])
 | 9 => some (.slice (some ⟨rg, 0, none⟩) 2 cr)
 | 10 => some (.pointer (some ⟨rg, 0, none⟩))
 | 11 => some (.int .u64 (refI 0))
 | 12 => some (.bool true)
 | 13 => some (.bool true)
 | 14 => some (.bool true)
 | 15 => some (.pointer (some ⟨ab, 0, none⟩))
 | 16 => some (.map (some cb))
 | 17 => some (.func (.func 95) #[] #[])
 | 18 => some (.int .i64 2)
 | 19 => some (.bool true)
 | 20 => some (.bool true)
 | 21 => some (.bool true)
 | _ => none
def JA (w2 w3 : World) (l : Nat → Bool) (a : Act) (w : World) : Prop :=
 (l 8 = false → w = w3.drew) ∧ (l 8 = true → l 12 = false → ∃ sb S, a.eval (.tmp 24) = .map (some sb) ∧ RSet w sb S ∧ S.contains (refI 0) = true ∧ Below w3.heap.size w3 w) ∧ (l 12 = true → l 18 = false → Below w3.heap.size w3 w) ∧ (l 18 = true → Below w2.heap.size w2 w)
theorem JA.pure {w2 w3 w : World} {l : Nat → Bool} {a : Act} {i d : Nat} {v : Value} (h : JA w2 w3 l a w) (h8 : 8 ≠ i) (h12 : 12 ≠ i) (h18 : 18 ≠ i) (hd : 24 ≠ d) : JA w2 w3 (more l i) (a.put (some d) v) w := by
 unfold JA at h ⊢
 rw [more_ne _ h8, more_ne _ h12, more_ne _ h18, eval_other hd]
 exact h
end Go.Proofs.YtenfphbhofibjaaGreatDoor

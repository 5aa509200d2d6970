/-
 What an arena is in memory, said of a plain state: accounts, slots, unused slots, objects; what stays as it was while only the arena's own blocks are written; and the plain lemmas on its rows.
 Conditions: as each theorem says.
-/
import Derived.WalkKit
import Derived.BigQuiet
import Derived.Deep.RegionLaw
set_option linter.unusedVariables false
namespace Go.Proofs.YtpboencfnjmmbaaGreatDoor
open Go.RowKit
structure Ob where
 k : Int := 0
 ow : Int := 0
 fz : Bool := false
 fm : Option Nat := none
 mo : Int := 0
 fu : Int := 0
 hd : Value := .slice none 0 0
 br : Int := 0
 ck : Int := 0
 cn : Int := 0
 cs : ByteArray := ⟨#[]⟩
 me : Int := 0
 ta : Int := 0
 de : Int := 0
structure Sl where
 uses : Nat
 obj : Option (Nat × Ob)
structure St where
 accs : List (Int × Int)
 slots : List Sl
 unused : List Nat
section
variable {T : Nat → Bool} {base : Nat}
end
theorem block_alloc {w : World} {b : Nat} {o : Obj} (h : w.heap[b]? = some o) (p : Obj) : (w.alloc p).heap[b]? = some o :=
 (Below.heap_alloc _ _ _ (lt_of_block h)).trans h
theorem row_shape {w : World} {base : Nat} {e : TypeId} {size : Nat} {v : Value} {n : Nat} {xs : List Value} (h : w.ownsRow base e size v n xs) : ∃ ao cap, v = .slice ao n cap ∧ n ≤ cap ∧ cap ≤ maxLen := by
 rcases h.2 with ⟨rfl, rfl⟩ | ⟨g, cap, cur, rfl, hb, hg, h1, h2, _⟩
 ·exact ⟨none, 0, rfl, Nat.le_refl _, by simp [maxLen]⟩
 ·exact ⟨_, _, rfl, h1, h2⟩
theorem row_at {w : World} {base : Nat} {e : TypeId} {size : Nat} {v : Value} {n : Nat} {xs : List Value} (h : w.ownsRow base e size v n xs) (hn : 0 < n) : ∃ g cap cur, v = .slice (some ⟨g, 0, none⟩) n cap ∧ n ≤ cap ∧ cap ≤ maxLen ∧ base ≤ g ∧ w.heap[g]? = some (.cells cur e (0, 0)) := by
 rcases h.2 with ⟨rfl, rfl⟩ | ⟨g, cap, cur, rfl, hb, hg, h1, h2, _⟩
 ·omega
 ·exact ⟨_, _, _, rfl, h1, h2, hb, hg⟩
theorem three {w : World} {b : Nat} {x y z : Value} {t : TypeId} (h : w.heap[b]? = some (.cells #[x, y, z] t (0, 0))) : w.cell? ⟨b, 0, none⟩ = some x ∧ w.cell? ⟨b, 1, none⟩ = some y ∧ w.cell? ⟨b, 2, none⟩ = some z ∧ (∀ j, w.frozen? ⟨b, j, none⟩ = false) := by
 refine ⟨?_, ?_, ?_, fun j => frozen_of_row _ _ _ _ _ h⟩ <;> (rw [cell_of_row _ _ _ _ _ _ h]; rfl)
end Go.Proofs.YtpboencfnjmmbaaGreatDoor

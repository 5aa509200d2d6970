/-
  Six cells of one block, stored one by one.
  Conditions: as each theorem says. (No program is named here.)
-/
import Derived.Test.YthghjnkeofkoiaaGreatDoorJTk
namespace Go.Proofs.YthghjnkeofkoiaaGreatDoor
open Go.RowKit TM
set_option linter.unusedVariables false
/-- Six stores. -/
def six6 (w : World) (g : Nat) (a b c d e f : Value) : World := (((((w.setCell ⟨g, 0, none⟩ a).setCell ⟨g, 1, none⟩ b).setCell ⟨g, 2, none⟩ c).setCell ⟨g, 3, none⟩ d).setCell ⟨g, 4, none⟩ e).setCell ⟨g, 5, none⟩ f
section
variable {w : World} {g : Nat} {a b c d e f : Value}
theorem six6_other {k : Nat} (h : k ≠ g) : (six6 w g a b c d e f).heap[k]? = w.heap[k]? := by
  unfold six6
  rw [Below.heap_setCell _ _ _ _ h, Below.heap_setCell _ _ _ _ h, Below.heap_setCell _ _ _ _ h, Below.heap_setCell _ _ _ _ h, Below.heap_setCell _ _ _ _ h, Below.heap_setCell _ _ _ _ h]
theorem six6_block {x0 x1 x2 x3 x4 x5 : Value} {t : TypeId} (h : w.heap[g]? = some (.cells #[x0, x1, x2, x3, x4, x5] t (0, 0))) : (six6 w g a b c d e f).heap[g]? = some (.cells #[a, b, c, d, e, f] t (0, 0)) := by
  unfold six6
  exact setF (setF (setF (setF (setF (setF h)))))
theorem six6_cell {x0 x1 x2 x3 x4 x5 : Value} {t : TypeId} (h : w.heap[g]? = some (.cells #[x0, x1, x2, x3, x4, x5] t (0, 0))) : (six6 w g a b c d e f).cell? ⟨g, 0, none⟩ = some a ∧ (six6 w g a b c d e f).cell? ⟨g, 1, none⟩ = some b ∧ (six6 w g a b c d e f).cell? ⟨g, 2, none⟩ = some c ∧ (six6 w g a b c d e f).cell? ⟨g, 3, none⟩ = some d ∧ (six6 w g a b c d e f).cell? ⟨g, 4, none⟩ = some e ∧ (six6 w g a b c d e f).cell? ⟨g, 5, none⟩ = some f := by
  have hb := six6_block (a := a) (b := b) (c := c) (d := d) (e := e) (f := f) h
  simp [World.cell?, hb]
theorem sc_os (w : World) (p : Addr) (v : Value) : (w.setCell p v).os = w.os := rfl
theorem six6_os : (six6 w g a b c d e f).os = w.os := by unfold six6; rw [sc_os, sc_os, sc_os, sc_os, sc_os, sc_os]
theorem sc_tape (w : World) (p : Addr) (v : Value) : (w.setCell p v).tape = w.tape := rfl
theorem six6_tape : (six6 w g a b c d e f).tape = w.tape := by unfold six6; rw [sc_tape, sc_tape, sc_tape, sc_tape, sc_tape, sc_tape]
theorem sc_output (w : World) (p : Addr) (v : Value) : (w.setCell p v).output = w.output := rfl
theorem six6_output : (six6 w g a b c d e f).output = w.output := by unfold six6; rw [sc_output, sc_output, sc_output, sc_output, sc_output, sc_output]
theorem six6_size : (six6 w g a b c d e f).heap.size = w.heap.size := by simp [six6, World.setCell]
end
end Go.Proofs.YthghjnkeofkoiaaGreatDoor

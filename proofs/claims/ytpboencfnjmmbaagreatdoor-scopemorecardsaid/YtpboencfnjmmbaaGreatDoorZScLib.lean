/-
 The library's calls on rows of texts, as the laws of layer 8 make them.
 Conditions: as each theorem says.
-/
import Derived.Test.YtpboencfnjmmbaaGreatDoorZSh8
import Derived.Test.YtpboencfnjmmbaaGreatDoorZSw
import Derived.Test.YtpboencfnjmmbaaGreatDoorZScFn
import Derived.Lib.OwnBridge
set_option linter.unusedVariables false
namespace Go.Proofs.YtpboencfnjmmbaaGreatDoor
open Go.RowKit Go.Shelf Go.Lib Go.Sort TM
theorem bytes_beq (x y : ByteArray) : (x.toList == y.toList) = decide (x = y) := by
 rw [Bool.eq_iff_iff, beq_iff_eq, decide_eq_true_iff, ByteArray.toList_eq, ByteArray.toList_eq]
 exact ⟨fun h => ByteArray.ext (Array.toList_inj.1 h), fun h => by rw [h]⟩
theorem strAt_cell {w : World} {g : Nat} : ∀ {l : List ByteArray} {o : Nat}, StrAt w g o l → ∀ j, j < l.length → w.cell? ⟨g, o + j, none⟩ = some (.string l[j]!)
 | s :: l, o, h, 0, _ => by simpa using h.1
 | s :: l, o, h, j + 1, hj => by
  have := strAt_cell h.2 j (by simpa using hj)
  rw [show o + (j + 1) = o + 1 + j from by omega]
  simpa using this
theorem row_strs {w : World} {base : Nat} {v : Value} {l : List ByteArray} (h : w.ownsRow base 9 1 v l.length (l.map .string)) : SlAt (fun k => base ≤ k ∧ k < w.heap.size) v l.length (fun g o => StrAt w g o l) := by
 rcases h.2 with ⟨rfl, h0⟩ | ⟨g, cap, cur, rfl, hb, hg, h1, h2, h3, h4⟩
 ·exact ⟨none, 0, by rw [h0], by omega, by simp [maxLen], fun hn => by omega⟩
 ·exact ⟨_, cap, rfl, h1, h2, fun _ => ⟨g, 0, rfl, ⟨hb, lt_of_block hg⟩, strAt_row (n := l.length) hg (by rw [Nat.mul_one] at h4; exact h4)⟩⟩
theorem eqS_same {l : List ByteArray} {P Q : Nat → Prop} {v u : Value} {w : World} (hv : SlAt P v l.length (fun g o => StrAt w g o l)) (hu : SlAt Q u l.length (fun g o => StrAt w g o l)) :
 Calls Tryz.prog 29 #[v, u] w fun e w' => e = .returned (.bool true) ∧ ∃ q, w' = w.drewN q := by
 obtain ⟨a, cap, rfl, hc, hm, hg⟩ := hv
 obtain ⟨a2, cap2, rfl, hc2, hm2, hg2⟩ := hu
 by_cases h0 : l.length = 0
 ·obtain rfl := List.length_eq_zero_iff.1 h0
  refine (Any.slices_Equal_string_empty Tryz.eqSs a a2 cap 0 cap2 w (by omega)).mono ?_
  rintro e w' ⟨rfl, rfl⟩
  exact ⟨rfl, 0, rfl⟩
 ·obtain ⟨g, o, rfl, _, hA⟩ := hg (by omega)
  obtain ⟨g2, o2, rfl, _, hA2⟩ := hg2 (by omega)
  have key : ∀ (g o : Nat), StrAt w g o l → ∀ j, j < l.length → w.cell? ⟨g, o + j, none⟩ = some (.string (l.getD j ByteArray.empty)) := fun g o h j hj => by
   have := strAt_cell h j hj
   rwa [getElem!_pos l j hj, show l[j] = l.getD j ByteArray.empty from by simp [List.getD, hj]] at this
  refine (Any.slices_Equal_string Tryz.eqSs g o l.length cap g2 o2 l.length cap2 l l w (Nat.le_refl _) (Nat.le_refl _) (by unfold maxLen at hm; omega) (by unfold maxLen at hm; omega) (key g o hA) (key g2 o2 hA2)).mono ?_
  rintro e w' ⟨rfl, q, rfl⟩
  exact ⟨by simp, q, rfl⟩
theorem idxF_nil (f : Value) (w : World) : Calls Tryz.prog 60 #[.slice none 0 0, f] w fun e w' => e = .returned (.int .i64 (-1)) ∧ w' = w := by
 go_enter Tryz.func60, Tryz.ntmps60
 go_wp2_with fail
 go_loopw [8] (fun i wr => i = .int .i64 0 ∧ wr = w) (fun i _ => 0)
 case atStart => exact ⟨rfl, rfl⟩
 case round =>
  obtain ⟨rfl, rfl⟩ := hrel
  go_wp2
  go_ret
  exact ⟨rfl, rfl⟩
theorem delF_nil (f : Value) (w : World) : Calls Tryz.prog 34 #[.slice none 0 0, f] w fun e w' => e = .returned (.slice none 0 0) ∧ w' = w := by
 go_enter Tryz.func34, Tryz.ntmps34
 go_wp2_with (go_at_call 60; refine (idxF_nil _ _).mono ?_; rintro e w1 ⟨rfl, rfl⟩)
 go_ret
 exact ⟨rfl, rfl⟩
end Go.Proofs.YtpboencfnjmmbaaGreatDoor

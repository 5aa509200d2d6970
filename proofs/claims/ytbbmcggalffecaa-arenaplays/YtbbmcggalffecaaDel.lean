/-
  slices.Delete, Contains on a slice of numbers that the call itself made, at this seat's numbers: what each returns and what the slice holds behind it.
  Conditions: as each theorem says.
-/
import Derived.Test.YtbbmcggalffecaaShelf
import Derived.Test.YtbbmcggalffecaaArena
import Derived.Lib.OwnBridge
namespace Go.Proofs.Ytbbmcggalffecaa
open Go.ChangeShapes Go.WideShapes Go.ChangeAt Go.RowKit Go.Sort Go.Lib
set_option linter.unusedVariables false
theorem Try.info3 : (Try.prog.info? 3).map (fun i => (i.zero, i.size, i.bytes)) = some (some (.int .i64 0), 1, 8) := by kernel_rfl
theorem Try.info2 : (Try.prog.info? 2).map (fun i => (i.zero, i.size, i.bytes)) = some (some (.int .i64 0), 1, 8) := by kernel_rfl
theorem grown_putRow {α : Type} [Inhabited α] {enc : α → Value} {w : World} {g q : Nat} {d : Array α} : w.grownBy (putRow enc (Sort.ahead w q) g 0 d) (some g) :=
  ⟨rfl, rfl, rfl, by simp [putRow, mapBlock, Sort.ahead], fun k hk hne => by
    simp [putRow, mapBlock, Sort.ahead, Array.getElem?_modify, show g ≠ k from fun e => hne (by rw [e])]⟩
theorem erase_eq (zs : List Int) (i : Nat) (h : i < zs.length) : (zs.take i ++ zs.drop (i + 1) ++ List.replicate (i + 1 - i) 0).take (zs.length - 1) = zs.eraseIdx i := by
  rw [show i + 1 - i = 1 from by omega, List.eraseIdx_eq_take_drop_succ, List.take_append_of_le_length (by simp; omega), List.take_of_length_le (by simp; omega)]
section
variable {base : Nat} {w : World} {v : Value} {zs : List Int} {i : Nat}
theorem del26 (h : w.ownsRow base 51 1 v zs.length (zs.map (Value.int .u64))) (hi : i < zs.length) (a b : Int) (ha : (i : Int) = a) (hb : (i : Int) + 1 = b) :
    Calls Try.prog 26 #[v, .int .i64 a, .int .i64 b] w fun e w' => ∃ v', e = .returned v' ∧ w'.ownsRow base 51 1 v' (zs.eraseIdx i).length ((zs.eraseIdx i).map (Value.int .u64)) ∧ w.grownBy w' v.ownBlock ∧ v'.ownBlock = v.ownBlock := by
  subst ha hb
  obtain ⟨g, cap, rfl, hb, hlt, hn, hm, _, hH⟩ := holds_of_ownsRow h (by rintro rfl; rcases h.2 with ⟨_, h0⟩ | ⟨g, cap, cur, h0, _⟩; omega; simp at h0)
  obtain ⟨i0, hi0, hz0, hz1, hz2⟩ := info_parts Try.info51
  have hc := AnyE.slices_Delete Try.laysSlE45_f26 (Value.int .u64) (fun _ => rfl) 0 Try.zeroValue51 i0 hi0 hz1 g 0 cap i (i + 1) zs.toArray w hH (by simpa using hn) (by unfold maxLen at hm; omega) (by omega) (by simp; omega)
  change Calls Try.prog 26 _ _ _ at hc
  simp only [List.size_toArray] at hc
  refine hc.mono ?_
  rintro e w' ⟨rfl, q, rfl⟩
  have ho := ownsRow_putRow (q := q) (k := zs.length - 1) (ys := zs.take i ++ zs.drop (i + 1) ++ List.replicate (i + 1 - i) 0) h (by simp; omega) (by omega)
  rw [erase_eq zs i hi] at ho
  refine ⟨_, rfl, ?_, grown_putRow, rfl⟩
  rw [show i + 1 - i = 1 from by omega] at ho ⊢
  rw [show (zs.eraseIdx i).length = zs.length - 1 from by simp [List.length_eraseIdx, hi]]
  exact ho
theorem del32 (h : w.ownsRow base 3 1 v zs.length (zs.map (Value.int .i64))) (hi : i < zs.length) (a b : Int) (ha : (i : Int) = a) (hb : (i : Int) + 1 = b) :
    Calls Try.prog 32 #[v, .int .i64 a, .int .i64 b] w fun e w' => ∃ v', e = .returned v' ∧ w'.ownsRow base 3 1 v' (zs.eraseIdx i).length ((zs.eraseIdx i).map (Value.int .i64)) ∧ w.grownBy w' v.ownBlock ∧ v'.ownBlock = v.ownBlock := by
  subst ha hb
  obtain ⟨g, cap, rfl, hb, hlt, hn, hm, _, hH⟩ := holds_of_ownsRow h (by rintro rfl; rcases h.2 with ⟨_, h0⟩ | ⟨g, cap, cur, h0, _⟩; omega; simp at h0)
  obtain ⟨i0, hi0, hz0, hz1, hz2⟩ := info_parts Try.info3
  have hc := AnyE.slices_Delete Try.laysSlE45_f32 (Value.int .i64) (fun _ => rfl) 0 Try.zeroValue3 i0 hi0 hz1 g 0 cap i (i + 1) zs.toArray w hH (by simpa using hn) (by unfold maxLen at hm; omega) (by omega) (by simp; omega)
  change Calls Try.prog 32 _ _ _ at hc
  simp only [List.size_toArray] at hc
  refine hc.mono ?_
  rintro e w' ⟨rfl, q, rfl⟩
  have ho := ownsRow_putRow (q := q) (k := zs.length - 1) (ys := zs.take i ++ zs.drop (i + 1) ++ List.replicate (i + 1 - i) 0) h (by simp; omega) (by omega)
  rw [erase_eq zs i hi] at ho
  refine ⟨_, rfl, ?_, grown_putRow, rfl⟩
  rw [show i + 1 - i = 1 from by omega] at ho ⊢
  rw [show (zs.eraseIdx i).length = zs.length - 1 from by simp [List.length_eraseIdx, hi]]
  exact ho
theorem del33 (h : w.ownsRow base 2 1 v zs.length (zs.map (Value.int .i64))) (hi : i < zs.length) (a b : Int) (ha : (i : Int) = a) (hb : (i : Int) + 1 = b) :
    Calls Try.prog 33 #[v, .int .i64 a, .int .i64 b] w fun e w' => ∃ v', e = .returned v' ∧ w'.ownsRow base 2 1 v' (zs.eraseIdx i).length ((zs.eraseIdx i).map (Value.int .i64)) ∧ w.grownBy w' v.ownBlock ∧ v'.ownBlock = v.ownBlock := by
  subst ha hb
  obtain ⟨g, cap, rfl, hb, hlt, hn, hm, _, hH⟩ := holds_of_ownsRow h (by rintro rfl; rcases h.2 with ⟨_, h0⟩ | ⟨g, cap, cur, h0, _⟩; omega; simp at h0)
  obtain ⟨i0, hi0, hz0, hz1, hz2⟩ := info_parts Try.info2
  have hc := AnyE.slices_Delete Try.laysSlE45_f33 (Value.int .i64) (fun _ => rfl) 0 Try.zeroValue2 i0 hi0 hz1 g 0 cap i (i + 1) zs.toArray w hH (by simpa using hn) (by unfold maxLen at hm; omega) (by omega) (by simp; omega)
  change Calls Try.prog 33 _ _ _ at hc
  simp only [List.size_toArray] at hc
  refine hc.mono ?_
  rintro e w' ⟨rfl, q, rfl⟩
  have ho := ownsRow_putRow (q := q) (k := zs.length - 1) (ys := zs.take i ++ zs.drop (i + 1) ++ List.replicate (i + 1 - i) 0) h (by simp; omega) (by omega)
  rw [erase_eq zs i hi] at ho
  refine ⟨_, rfl, ?_, grown_putRow, rfl⟩
  rw [show i + 1 - i = 1 from by omega] at ho ⊢
  rw [show (zs.eraseIdx i).length = zs.length - 1 from by simp [List.length_eraseIdx, hi]]
  exact ho
end
end Go.Proofs.Ytbbmcggalffecaa

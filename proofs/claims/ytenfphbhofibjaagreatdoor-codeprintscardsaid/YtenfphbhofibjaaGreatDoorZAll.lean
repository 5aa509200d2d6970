/-
 arena.All over an arena of the call's own: the Refs of what is there, by slots.
 Conditions: as each theorem says.
-/
import Derived.Test.YtenfphbhofibjaaGreatDoorZArena
set_option maxRecDepth 100000
set_option maxHeartbeats 2000000
set_option linter.unusedVariables false
namespace Go.Proofs.YtenfphbhofibjaaGreatDoor
open Go.ChangeShapes Go.WideShapes Go.ChangeAt Go.RowKit
def refN (u n : Nat) : Int := (u : Int) * 4294967296 + n
theorem lt_of_get {α : Type} {l : List α} {i : Nat} {x : α} (h : l[i]? = some x) : i < l.length := by obtain ⟨hh, _⟩ := List.getElem?_eq_some_iff.1 h; exact hh
def allFrom : Nat → List Sl → List Int
 | _, [] => []
 | i, s :: l => (if s.obj.isSome then [refN s.uses i] else []) ++ allFrom (i + 1) l
theorem allFrom_append (i : Nat) (l m : List Sl) : allFrom i (l ++ m) = allFrom i l ++ allFrom (i + l.length) m := by
 induction l generalizing i with
 | nil => simp [allFrom]
 | cons s l ih => simp [allFrom, ih, Nat.add_assoc, Nat.add_comm 1]
def allTo (l : List Sl) (k : Nat) : List Int := allFrom 0 (l.take k)
theorem allTo_succ (l : List Sl) (k : Nat) (s : Sl) (h : l[k]? = some s) : allTo l (k + 1) = allTo l k ++ if s.obj.isSome then [refN s.uses k] else [] := by
 have hk := lt_of_get h
 unfold allTo
 rw [List.take_add_one, h, allFrom_append]
 simp [allFrom, Nat.min_eq_left (Nat.le_of_lt hk)]
theorem allTo_le (l : List Sl) (k : Nat) : (allTo l k).length ≤ k := by
 have key : ∀ (i : Nat) (m : List Sl), (allFrom i m).length ≤ m.length := by
  intro i m
  induction m generalizing i with
  | nil => simp [allFrom]
  | cons s m ih =>
   have := ih (i + 1)
   simp only [allFrom, List.length_append, List.length_cons]
   split <;> simp <;> omega
 exact Nat.le_trans (key 0 _) (List.length_take_le _ _)
theorem all_any {base ab : Nat} {w : World} {s : St} (h : Arn base ab w s) (hl : s.slots.length ≤ 1000000) (hu : ∀ (n : Nat) (sl : Sl), s.slots[n]? = some sl → sl.uses ≤ 1000000) :
 Calls Tryz.prog 129 #[.pointer (some ⟨ab, 0, none⟩)] w fun e w' => ∃ v, e = .returned v ∧ w'.ownsRow w.heap.size 157 1 v (allTo s.slots s.slots.length).length ((allTo s.slots s.slots.length).map (Value.int .u64)) ∧ Below w.heap.size w w' := by
 obtain ⟨vo, vs, vu, hP⟩ := h.parts
 have h2 := hP.2.2.2.1
 obtain ⟨c0, c1, c2, cf⟩ := three hP.2.1
 by_cases h0 : s.slots.length = 0
 ·obtain ⟨ao, cap, hv, _, _⟩ := row_shape h2
  rw [h0] at hv
  rw [hv] at c1
  have e : s.slots = [] := List.length_eq_zero_iff.1 h0
  rw [e]
  go_enter Tryz.func129, Tryz.ntmps129
  go_wp2
  refine wp_loop_rounds 1 ?_
  rw [rounds_succ]
  go_wp2
  go_ret
  exact ⟨_, rfl, World.ownsRow_nil _ _ _ _, Below.refl _ _⟩
 ·obtain ⟨g, cap, cur, rfl, hc1, hc2, _, hg⟩ := row_at h2 (by omega)
  have hgl := lt_of_block hg
  have hcell : ∀ (j : Nat) (sl : Sl), s.slots[j]? = some sl → w.cell? ⟨g, j * 2, none⟩ = some (.int .u32 sl.uses) ∧ w.cell? ⟨g, j * 2 + 1, none⟩ = some (ptrOf sl.obj) := fun j sl hy =>
   ⟨(h2.cellAt (j * 2) (by have := lt_of_get hy; omega)).trans (slotCells_get hy).1, (h2.cellAt (j * 2 + 1) (by have := lt_of_get hy; omega)).trans (slotCells_get hy).2⟩
  have HC : Hid (∀ (j : Nat) (sl : Sl), s.slots[j]? = some sl → w.cell? ⟨g, j * 2, none⟩ = some (.int .u32 sl.uses) ∧ w.cell? ⟨g, j * 2 + 1, none⟩ = some (ptrOf sl.obj)) := hcell
  have HU : Hid (∀ (n : Nat) (sl : Sl), s.slots[n]? = some sl → sl.uses ≤ 1000000) := hu
  unfold maxLen at hc2
  clear h2 hcell hP h hu hg
  go_enter Tryz.func129, Tryz.ntmps129
  go_wp2_with fail
  go_loopw [3, 11] (fun v i wr => ∃ k : Nat, k ≤ s.slots.length ∧ i = .int .i64 k ∧ wr.ownsRow w.heap.size 157 1 v (allTo s.slots k).length ((allTo s.slots k).map (Value.int .u64)) ∧ Below w.heap.size w wr) (fun _ i _ => s.slots.length - (intOf i).toNat)
  case atStart => exact ⟨0, by omega, rfl, by rw [show allTo s.slots 0 = [] from by simp [allTo, allFrom]]; exact World.ownsRow_nil _ _ _ _, Below.refl _ _⟩
  case round =>
   obtain ⟨k, hk, rfl, hown, hnx⟩ := hrel
   have hle := allTo_le s.slots k
   by_cases hlt : k < s.slots.length
   ·obtain ⟨sl, hsl⟩ : ∃ sl, s.slots[k]? = some sl := ⟨_, List.getElem?_eq_getElem hlt⟩
    obtain ⟨q0, q1⟩ := HC.out k sl hsl
    have e0 := (hnx.cell (p := ⟨g, k * 2, none⟩) hgl).trans q0
    have e1 := (hnx.cell (p := ⟨g, k * 2 + 1, none⟩) hgl).trans q1
    have husl := HU.out k sl hsl
    have HS : Hid (allTo s.slots (k + 1) = allTo s.slots k ++ if sl.obj.isSome then [refN sl.uses k] else []) := allTo_succ s.slots k sl hsl
    have hsz := hnx.size
    clear q0 q1 hsl
    obtain ⟨us, ob⟩ := sl
    simp only at e0 e1 husl HS
    obtain ⟨ti, hti, hz0, hz1, hz2⟩ := info_parts Tryz.info157
    cases ob with
    | none =>
     simp only [ptrOf] at e1
     have HS2 : Hid (allTo s.slots (k + 1) = allTo s.slots k) := by show allTo s.slots (k + 1) = allTo s.slots k; simpa using HS.out
     clear HS
     go_wp2
     go_roundw
     case rel => exact ⟨k + 1, by omega, by go_num, by rw [HS2.out]; exact hown.alloc _, hnx.alloc hsz _⟩
     case measure => simp [intOf]; omega
    | some x =>
     obtain ⟨bo, oo⟩ := x
     simp only [ptrOf] at e1
     have HS2 : Hid (allTo s.slots (k + 1) = allTo s.slots k ++ [refN us k]) := by show allTo s.slots (k + 1) = allTo s.slots k ++ [refN us k]; simpa using HS.out
     clear HS
     go_wp2_with fail
     refine (of_any _ _ (by omega) (by omega) (by omega) (by omega) _).mono ?_
     rintro e wx ⟨rfl, rfl⟩
     have hown1 := hown.alloc (.cells #[.int .u32 us, .pointer (some ⟨bo, 0, none⟩)] 225)
     have hnx1 := hnx.alloc hsz (.cells #[.int .u32 us, .pointer (some ⟨bo, 0, none⟩)] 225)
     have hr : ((us : Int) * 4294967296 + k) = refN us k := rfl
     rw [hr]
     generalize hrr : refN us k = R at *
     have HR : Hid (refN us k = R) := hrr
     clear hrr hr hown hnx e0 e1
     generalize wr.alloc (.cells #[.int .u32 us, .pointer (some ⟨bo, 0, none⟩)] 225) = W1 at *
     have hs1 := hnx1.size
     go_wp2_with (at_builtin; refine wpList_append_own _ rfl (.tmp 19) (.tmp 25) 143 rfl w.heap.size 157 ti _ 1 8 Tryz.underlying143 hti hz0 hz1 hz2 rfl (by decide) _ (allTo s.slots k).length _ rfl (hown1.alloc _) ⟨W1.heap.size, 0, none⟩ 1 1 [.int .u64 R] rfl rfl one_news (by intro u hu; simp at hu; subst hu; rfl) (by unfold maxLen; omega) (by omega) (by simp; omega) ?_)
     intro v7 w7 hown7 hgr7 _
     have hnx7 : Below w.heap.size w w7 := (hnx1.alloc hs1 _).grown hgr7 (by simp; omega) (fun j hj => (hown1.lt j hj).1)
     have hown8 : w7.ownsRow w.heap.size 157 1 v7 (allTo s.slots (k + 1)).length ((allTo s.slots (k + 1)).map (Value.int .u64)) := by
      rw [HS2.out]
      simpa using hown7
     clear hown7 hgr7 hown1 hnx1
     go_wp2
     go_roundw
     case rel => exact ⟨k + 1, by omega, by go_num, hown8, hnx7⟩
     case measure => simp [intOf]; omega
   ·have : k = s.slots.length := by omega
    subst this
    go_wp2
    go_ret
    exact ⟨_, rfl, hown, hnx⟩
end Go.Proofs.YtenfphbhofibjaaGreatDoor

/-
 Contracts of package arena's functions over an arena of the call's own (New, Owner, Owners, Many, Put, Get, Drop, All): what each returns, what the arena is behind it, and that nothing else was written.
 Conditions: as each theorem says (numbers far below the kinds' ends).
-/
import Derived.Test.YtenfphbhofibjaaGreatDoorZBase
import Derived.Test.YtenfphbhofibjaaGreatDoorZMem
import Derived.WalkSpells
import Derived.Shelf.SlMaps.Clone
set_option maxRecDepth 100000
set_option maxHeartbeats 1000000
set_option linter.unusedVariables false
namespace Go.Proofs.YtenfphbhofibjaaGreatDoor
open Go.ChangeShapes Go.WideShapes Go.ChangeAt Go.RowKit
theorem Tryz.info217 : (Tryz.prog.info? 217).map (fun i => (i.zero, i.size, i.bytes)) = some (some (.agg #[.int .i64 0, .int .i64 0]), 2, 16) := by kernel_rfl
theorem Tryz.info225 : (Tryz.prog.info? 225).map (fun i => (i.zero, i.size, i.bytes)) = some (some (.agg #[.int .u32 0, .pointer none]), 2, 16) := by kernel_rfl
theorem Tryz.info207 : (Tryz.prog.info? 207).map (fun i => (i.zero, i.size, i.bytes)) = some (some (.int .u32 0), 1, 4) := by kernel_rfl
theorem Tryz.info157 : (Tryz.prog.info? 157).map (fun i => (i.zero, i.size, i.bytes)) = some (some (.int .u64 0), 1, 8) := by kernel_rfl
theorem new_any (w : World) : Calls Tryz.prog 118 #[] w fun e w' => e = .returned (.pointer (some ⟨w.heap.size, 0, none⟩)) ∧ w' = w.alloc (.cells #[.slice none 0 0, .slice none 0 0, .slice none 0 0] 215) := by
 go_enter Tryz.func118, Tryz.ntmps118
 go_wp2
 go_ret
 exact ⟨rfl, rfl⟩
theorem Arn.made {base : Nat} (w : World) (h : base ≤ w.heap.size) : Arn base w.heap.size (w.alloc (.cells #[.slice none 0 0, .slice none 0 0, .slice none 0 0] 215)) ⟨[], [], []⟩ :=
 ⟨h, ⟨_, _, _, heap_alloc_new w _, World.ownsRow_nil _ _ _ _, World.ownsRow_nil _ _ _ _, World.ownsRow_nil _ _ _ _⟩, fun i sl b o e => by simp at e⟩
def ownB (n : Int) (l : Nat) : Bool := decide (0 ≤ n ∧ n < (l : Int))
theorem isOwner_any {base ab : Nat} {w : World} {s : St} (h : Arn base ab w s) (n : Int) :
 Calls Tryz.prog 152 #[.pointer (some ⟨ab, 0, none⟩), .int .i64 n] w fun e w' => e = .returned (.bool (ownB n s.accs.length)) ∧ w' = w := by
 obtain ⟨vo, vs, vu, h0, h1, h2, h3⟩ := h.rows
 obtain ⟨ao, cap, rfl, hc1, hc2⟩ := row_shape h1
 obtain ⟨c0, c1, c2, cf⟩ := three h0
 by_cases g0 : 0 ≤ n
 ·go_enter Tryz.func152, Tryz.ntmps152
  go_wp2
  go_ret
  exact ⟨ret_bool (by simp [ownB, g0]), rfl⟩
 ·have g1 : decide (0 ≤ n) = false := by simpa using g0
  go_enter Tryz.func152, Tryz.ntmps152
  go_wp2
  go_ret
  exact ⟨ret_bool (by simp [ownB]; omega), rfl⟩
theorem isOwner_is {base ab : Nat} {w : World} {s : St} (h : Arn base ab w s) (n : Int) (r : Bool) (hr : ownB n s.accs.length = r) :
 Calls Tryz.prog 152 #[.pointer (some ⟨ab, 0, none⟩), .int .i64 n] w fun e w' => e = .returned (.bool r) ∧ w' = w := by
 subst hr
 exact isOwner_any h n
theorem many_yes {base ab : Nat} {w : World} {s : St} (h : Arn base ab w s) (n : Nat) (p1 p2 : Int) (hp : s.accs[n]? = some (p1, p2)) (hd0 : -9223372036854775808 ≤ p2 - p1) (hd1 : p2 - p1 ≤ 9223372036854775807) :
 Calls Tryz.prog 153 #[.pointer (some ⟨ab, 0, none⟩), .int .i64 n] w fun e w' => e = .returned (.tuple #[.int .i64 p1, .int .i64 (p2 - p1)]) ∧ ∃ q, w' = (w.alloc (.cells #[.int .i64 p1, .int .i64 p2] 217)).drewN q := by
 obtain ⟨vo, vs, vu, h0, h1, h2, h3⟩ := h.rows
 have hlt : n < s.accs.length := by obtain ⟨hh, _⟩ := List.getElem?_eq_some_iff.1 hp; exact hh
 obtain ⟨g, cap, cur, rfl, hc1, hc2, _⟩ := row_at h1 (by omega)
 obtain ⟨c0, c1, c2, cf⟩ := three h0
 have e0 := (h1.cellAt (n * 2) (by omega)).trans (accCells_get hp).1
 have e1 := (h1.cellAt (n * 2 + 1) (by omega)).trans (accCells_get hp).2
 have HN : Hid (ownB n s.accs.length = true) := by show ownB n s.accs.length = true; simp [ownB]; omega
 simp only at e0 e1
 clear hp
 go_enter Tryz.func153, Tryz.ntmps153
 go_wp2_with (go_at_call 152; refine (isOwner_is h _ _ HN.out).mono ?_; rintro e w ⟨rfl, rfl⟩)
 go_quiet (fail)
 go_wp2
 go_ret2
 exact ⟨rfl, _, rfl⟩
theorem two_news {w : World} {x y : Value} {t : TypeId} (j : Nat) (u : Value) (hj : [x, y][j]? = some u) : (w.alloc (.cells #[x, y] t)).cell? ((⟨w.heap.size, 0, none⟩ : Addr).add j) = some u := by
 match j, hj with
 | 0, hj => simp at hj; subst hj; simp [Addr.add]
 | 1, hj => simp at hj; subst hj; simp [Addr.add]
theorem one_news {w : World} {x : Value} {t : TypeId} (j : Nat) (u : Value) (hj : [x][j]? = some u) : (w.alloc (.cells #[x] t)).cell? ((⟨w.heap.size, 0, none⟩ : Addr).add j) = some u := by
 match j, hj with
 | 0, hj => simp at hj; subst hj; simp [Addr.add]
def only (t u : Nat) : Bool := t == u
section
variable {base ab : Nat} {w w1 : World} {s : St} {vo vs vu v' : Value}
def Parts (base ab : Nat) (w : World) (s : St) (vo vs vu : Value) : Prop :=
 base ≤ ab ∧ w.heap[ab]? = some (.cells #[vo, vs, vu] 215 (0, 0)) ∧ w.ownsRow base 217 2 vo s.accs.length (accCells s.accs) ∧ w.ownsRow base 225 2 vs s.slots.length (slotCells s.slots) ∧ w.ownsRow base 207 1 vu s.unused.length (freeCells s.unused) ∧
  ∀ (i : Nat) (sl : Sl) (b : Nat) (o : Ob), s.slots[i]? = some sl → sl.obj = some (b, o) → base ≤ b ∧ w.heap[b]? = some (.cells o.cells 178 (0, 0))
theorem Arn.parts (h : Arn base ab w s) : ∃ vo vs vu, Parts base ab w s vo vs vu := by
 obtain ⟨hb, ⟨vo, vs, vu, h0, h1, h2, h3⟩, h4⟩ := h
 exact ⟨vo, vs, vu, hb, h0, h1, h2, h3, h4⟩
theorem Parts.arn (h : Parts base ab w s vo vs vu) : Arn base ab w s := ⟨h.1, ⟨vo, vs, vu, h.2.1, h.2.2.1, h.2.2.2.1, h.2.2.2.2.1⟩, h.2.2.2.2.2⟩
theorem Parts.accs_grown {l : List (Int × Int)} (h : Parts base ab w s vo vs vu) (F : Fr (only 217) base w w1) (hn : w1.ownsRow base 217 2 v' l.length (accCells l)) :
 Parts base ab (w1.setCell ⟨ab, 0, none⟩ v') ⟨l, s.slots, s.unused⟩ v' vs vu ∧ Fr isA base w (w1.setCell ⟨ab, 0, none⟩ v') ∧ w1.heap[ab]? = some (.cells #[vo, vs, vu] 215 (0, 0)) := by
 obtain ⟨hb, h0, h1, h2, h3, h4⟩ := h
 have b0 := F.block h0 rfl
 have r2 := F.row h2 rfl
 have r3 := F.row h3 rfl
 refine ⟨⟨hb, heap_setCell_same _ _ _ _ _ _ b0, ownsRow_setCell_other hn (own_ne hn b0 (by decide)) _, ownsRow_setCell_other r2 (own_ne r2 b0 (by decide)) _, ownsRow_setCell_other r3 (own_ne r3 b0 (by decide)) _, fun i sl b o e1 e2 => ⟨(h4 i sl b o e1 e2).1, ?_⟩⟩, (F.more (by intro t ht; simp [only] at ht; subst ht; rfl)).setCell ⟨hb, _, _, _, b0, rfl⟩ _, b0⟩
 have hb := F.block (h4 i sl b o e1 e2).2 rfl
 exact block_set hb (ne_of_types hb b0 (by decide)) _
theorem Parts.slots_grown {l : List Sl} (h : Parts base ab w s vo vs vu) (F : Fr (only 225) base w w1) (hn : w1.ownsRow base 225 2 v' l.length (slotCells l))
 (hl : ∀ (i : Nat) (sl : Sl) (b : Nat) (o : Ob), l[i]? = some sl → sl.obj = some (b, o) → ∃ (j : Nat) (sl : Sl), s.slots[j]? = some sl ∧ sl.obj = some (b, o)) :
 Parts base ab (w1.setCell ⟨ab, 1, none⟩ v') ⟨s.accs, l, s.unused⟩ vo v' vu ∧ Fr (fun t => only 215 t || only 225 t) base w (w1.setCell ⟨ab, 1, none⟩ v') ∧ w1.heap[ab]? = some (.cells #[vo, vs, vu] 215 (0, 0)) := by
 obtain ⟨hb, h0, h1, h2, h3, h4⟩ := h
 have b0 := F.block h0 rfl
 have r2 := F.row h1 rfl
 have r3 := F.row h3 rfl
 refine ⟨⟨hb, heap_setCell_same _ _ _ _ _ _ b0, ownsRow_setCell_other r2 (own_ne r2 b0 (by decide)) _, ownsRow_setCell_other hn (own_ne hn b0 (by decide)) _, ownsRow_setCell_other r3 (own_ne r3 b0 (by decide)) _, fun i sl b o e1 e2 => ?_⟩, (F.more (by intro t ht; simp [ht])).setCell ⟨hb, _, _, _, b0, rfl⟩ _, b0⟩
 obtain ⟨j, sl', e3, e4⟩ := hl i sl b o e1 e2
 have hb := F.block (h4 j sl' b o e3 e4).2 rfl
 exact ⟨(h4 j sl' b o e3 e4).1, block_set hb (ne_of_types hb b0 (by decide)) _⟩
theorem Parts.unused_grown {l : List Nat} (h : Parts base ab w s vo vs vu) (F : Fr (only 207) base w w1) (hn : w1.ownsRow base 207 1 v' l.length (freeCells l)) :
 Parts base ab (w1.setCell ⟨ab, 2, none⟩ v') ⟨s.accs, s.slots, l⟩ vo vs v' ∧ Fr (fun t => only 215 t || only 207 t) base w (w1.setCell ⟨ab, 2, none⟩ v') ∧ w1.heap[ab]? = some (.cells #[vo, vs, vu] 215 (0, 0)) := by
 obtain ⟨hb, h0, h1, h2, h3, h4⟩ := h
 have b0 := F.block h0 rfl
 have r2 := F.row h1 rfl
 have r3 := F.row h2 rfl
 refine ⟨⟨hb, heap_setCell_same _ _ _ _ _ _ b0, ownsRow_setCell_other r2 (own_ne r2 b0 (by decide)) _, ownsRow_setCell_other r3 (own_ne r3 b0 (by decide)) _, ownsRow_setCell_other hn (own_ne hn b0 (by decide)) _, fun i sl b o e1 e2 => ?_⟩, (F.more (by intro t ht; simp [ht])).setCell ⟨hb, _, _, _, b0, rfl⟩ _, b0⟩
 have hb := F.block (h4 i sl b o e1 e2).2 rfl
 exact ⟨(h4 i sl b o e1 e2).1, block_set hb (ne_of_types hb b0 (by decide)) _⟩
end
theorem owner_any {base ab : Nat} {w : World} {s : St} (h : Arn base ab w s) (q : Int) (hl : s.accs.length ≤ 1000000) :
 Calls Tryz.prog 119 #[.pointer (some ⟨ab, 0, none⟩), .int .i64 q] w fun e w' => e = .returned (.int .i64 s.accs.length) ∧ Arn base ab w' ⟨s.accs ++ [(0, max q 0)], s.slots, s.unused⟩ ∧ Fr isA base w w' := by
 have hab := h.lt
 obtain ⟨vo, vs, vu, hP⟩ := h.parts
 have h1 := hP.2.2.1
 obtain ⟨c0, c1, c2, cf⟩ := three hP.2.1
 obtain ⟨i, hi, hz0, hz1, hz2⟩ := info_parts Tryz.info217
 obtain ⟨m, hm⟩ : ∃ m, m = max q 0 := ⟨_, rfl⟩
 rw [← hm]
 by_cases hq : q < 0
 ·obtain rfl : m = 0 := by omega
  clear hm
  go_enter Tryz.func119, Tryz.ntmps119
  go_wp2_with (at_builtin; refine wpList_append_own _ rfl (.tmp 9) (.tmp 13) 211 rfl base 217 i _ 2 16 Tryz.underlying211 hi hz0 hz1 hz2 rfl (by decide) vo s.accs.length _ rfl (h1.alloc _) ⟨w.heap.size, 0, none⟩ 1 1 [.int .i64 0, .int .i64 0] rfl rfl two_news (by intro u hu; simp at hu; subst hu; rfl) (by unfold maxLen; omega) (by omega) (by simp; omega) ?_)
  intro v' w1 hown' hgrow _
  have A := hP.accs_grown (l := s.accs ++ [(0, 0)]) (((Fr.refl _ _ _).alloc _).grown hgrow (mine_row (h1.alloc _) rfl)) (by simpa [accCells_append, accCells] using hown')
  obtain ⟨ao, cap, hv, _, hcap⟩ := row_shape hown'
  rw [hv] at A ⊢
  obtain ⟨A1, A2, A3⟩ := A
  obtain ⟨d0, d1, d2, df⟩ := three A3
  clear hown' hgrow c0 c1 c2 cf
  go_wp2
  go_ret
  exact ⟨rfl, A1.arn, A2⟩
 ·obtain rfl : m = q := by omega
  clear hm
  go_enter Tryz.func119, Tryz.ntmps119
  go_wp2_with (at_builtin; refine wpList_append_own _ rfl (.tmp 9) (.tmp 13) 211 rfl base 217 i _ 2 16 Tryz.underlying211 hi hz0 hz1 hz2 rfl (by decide) vo s.accs.length _ rfl (h1.alloc _) ⟨w.heap.size, 0, none⟩ 1 1 [.int .i64 0, .int .i64 m] rfl rfl two_news (by intro u hu; simp at hu; rcases hu with hu | hu <;> (subst hu; rfl)) (by unfold maxLen; omega) (by omega) (by simp; omega) ?_)
  intro v' w1 hown' hgrow _
  have A := hP.accs_grown (l := s.accs ++ [(0, m)]) (((Fr.refl _ _ _).alloc _).grown hgrow (mine_row (h1.alloc _) rfl)) (by simpa [accCells_append, accCells] using hown')
  obtain ⟨ao, cap, hv, _, hcap⟩ := row_shape hown'
  rw [hv] at A ⊢
  obtain ⟨A1, A2, A3⟩ := A
  obtain ⟨d0, d1, d2, df⟩ := three A3
  clear hown' hgrow c0 c1 c2 cf
  go_wp2
  go_ret
  exact ⟨rfl, A1.arn, A2⟩
theorem Parts.unused_cut {base ab : Nat} {w : World} {s : St} {vo vs : Value} {l : List Nat} {n g cap : Nat} (h : Parts base ab w ⟨s.accs, s.slots, l ++ [n]⟩ vo vs (.slice (some ⟨g, 0, none⟩) (l.length + 1) cap)) :
 Parts base ab (w.setCell ⟨ab, 2, none⟩ (.slice (some ⟨g, 0, none⟩) l.length cap)) ⟨s.accs, s.slots, l⟩ vo vs (.slice (some ⟨g, 0, none⟩) l.length cap) ∧ Fr (only 215) base w (w.setCell ⟨ab, 2, none⟩ (.slice (some ⟨g, 0, none⟩) l.length cap)) := by
 obtain ⟨hb, h0, h1, h2, h3, h4⟩ := h
 have r3 : w.ownsRow base 207 1 (.slice (some ⟨g, 0, none⟩) l.length cap) l.length (freeCells l) := by
  obtain ⟨e1, e2⟩ := h3
  refine ⟨by simp [freeCells], ?_⟩
  rcases e2 with ⟨e2, _⟩ | ⟨g', cap', cur, e2, e3, e4, e5, e6, e7, e8⟩
  ·simp at e2
  ·simp at e2
   obtain ⟨rfl, rfl⟩ := e2
   refine .inr ⟨g, cap, cur, rfl, e3, e4, by simp at e5; omega, e6, e7, ?_⟩
   have := congrArg (List.take l.length) e8
   simp [List.take_take, freeCells] at this
   simpa [freeCells] using this
 refine ⟨⟨hb, heap_setCell_same _ _ _ _ _ _ h0, ownsRow_setCell_other h1 (own_ne h1 h0 (by decide)) _, ownsRow_setCell_other h2 (own_ne h2 h0 (by decide)) _, ownsRow_setCell_other r3 (own_ne r3 h0 (by decide)) _, fun i sl b o e1 e2 => ?_⟩, (Fr.refl _ _ _).setCell ⟨hb, _, _, _, h0, rfl⟩ _⟩
 have hb := (h4 i sl b o e1 e2).2
 exact ⟨(h4 i sl b o e1 e2).1, block_set hb (ne_of_types hb h0 (by decide)) _⟩
theorem free_old {base ab : Nat} {w : World} {s : St} {l : List Nat} {n : Nat} (h : Arn base ab w ⟨s.accs, s.slots, l ++ [n]⟩) (hl : l.length ≤ 1000000) :
 Calls Tryz.prog 156 #[.pointer (some ⟨ab, 0, none⟩)] w fun e w' => e = .returned (.int .u32 n) ∧ Arn base ab w' ⟨s.accs, s.slots, l⟩ ∧ Fr (only 215) base w w' := by
 obtain ⟨vo, vs, vu, hP⟩ := h.parts
 have h3 := hP.2.2.2.2.1
 obtain ⟨c0, c1, c2, cf⟩ := three hP.2.1
 obtain ⟨g, cap, cur, rfl, hc1, hc2, _⟩ := row_at h3 (by simp)
 have e0 : w.cell? ⟨g, l.length, none⟩ = some (.int .u32 n) := (h3.cellAt l.length (by simp)).trans (by simp [freeCells])
 simp only [List.length_append, List.length_cons, List.length_nil, Nat.zero_add] at hP c2 hc1
 have A := hP.unused_cut
 obtain ⟨A1, A2⟩ := A
 unfold maxLen at hc2
 clear h3 hP h
 go_enter Tryz.func156, Tryz.ntmps156
 go_wp2
 go_ret
 exact ⟨rfl, A1.arn, A2⟩
theorem free_new {base ab : Nat} {w : World} {s : St} (h : Arn base ab w ⟨s.accs, s.slots, []⟩) (hl : s.slots.length ≤ 1000000) :
 Calls Tryz.prog 156 #[.pointer (some ⟨ab, 0, none⟩)] w fun e w' => e = .returned (.int .u32 s.slots.length) ∧ Arn base ab w' ⟨s.accs, s.slots ++ [⟨0, none⟩], []⟩ ∧ Fr (fun t => only 215 t || only 225 t) base w w' := by
 have hab := h.lt
 obtain ⟨vo, vs, vu, hP⟩ := h.parts
 have h2 := hP.2.2.2.1
 obtain ⟨c0, c1, c2, cf⟩ := three hP.2.1
 obtain ⟨au, cu, rfl, hcu, hcv⟩ := row_shape hP.2.2.2.2.1
 obtain ⟨i, hi, hz0, hz1, hz2⟩ := info_parts Tryz.info225
 simp only [List.length_nil] at c2 hcu hP
 unfold maxLen at hcv
 go_enter Tryz.func156, Tryz.ntmps156
 go_wp2_with (at_builtin; refine wpList_append_own _ rfl (.tmp 34) (.tmp 36) 212 rfl base 225 i _ 2 16 Tryz.underlying212 hi hz0 hz1 hz2 rfl (by decide) vs s.slots.length _ rfl (h2.alloc _) ⟨w.heap.size, 0, none⟩ 1 1 [.int .u32 0, .pointer none] rfl rfl two_news (by intro u hu; simp at hu; rcases hu with hu | hu <;> (subst hu; rfl)) (by unfold maxLen; omega) (by omega) (by simp; omega) ?_)
 intro v' w1 hown' hgrow _
 have A := hP.slots_grown (l := s.slots ++ [⟨0, none⟩]) (((Fr.refl _ _ _).alloc _).grown hgrow (mine_row (h2.alloc _) rfl)) (by simpa [slotCells_append, slotCells, ptrOf] using hown') (by
  intro i sl b o e1 e2
  rw [List.getElem?_append] at e1
  split at e1
  ·exact ⟨i, sl, e1, e2⟩
  ·have := List.mem_of_getElem? e1
   simp at this
   subst this
   simp at e2)
 obtain ⟨ao, cap, hv, hc1, hcap⟩ := row_shape hown'
 rw [hv] at A ⊢
 obtain ⟨A1, A2, A3⟩ := A
 obtain ⟨d0, d1, d2, df⟩ := three A3
 unfold maxLen at hcap
 clear hown' hgrow c0 c1 c2 cf
 go_wp2
 go_ret
 exact ⟨rfl, A1.arn, A2⟩
theorem many_fr {base ab : Nat} {w : World} {s : St} (h : Arn base ab w s) (n : Nat) (p1 p2 : Int) (hp : s.accs[n]? = some (p1, p2)) (hd0 : -9223372036854775808 ≤ p2 - p1) (hd1 : p2 - p1 ≤ 9223372036854775807) (x : Int) (hx : (n : Int) = x) :
 Calls Tryz.prog 153 #[.pointer (some ⟨ab, 0, none⟩), .int .i64 x] w fun e w' => e = .returned (.tuple #[.int .i64 p1, .int .i64 (p2 - p1)]) ∧ Fr noT base w w' := by
 subst hx
 exact (many_yes h n p1 p2 hp hd0 hd1).mono fun e w' ⟨he, q, hw⟩ => ⟨he, by rw [hw]; exact ((Fr.refl _ _ _).alloc _).drewN _⟩
theorem clone_nil (w : World) : Calls Tryz.prog 154 #[.map none] w fun e w' => e = .returned (.map none) ∧ w' = w := by
 have hnn : ∀ (w : World) (r : Option Nat), (binOp .eql 173 (.map r) (.map none)).run Tryz.prog w = .ok (.bool r.isNone) w := fun w r => run_eql_map_nil w _ _ _ r Tryz.underlying173
 go_enter Tryz.func154, Tryz.ntmps154
 go_wp2
 go_ret
 exact ⟨rfl, rfl⟩
theorem clone_map (b : Nat) (es : Array MapEntry) (clock : Nat) (w : World) (hb : w.heap[b]? = some (.map es clock)) :
 Calls Tryz.prog 154 #[.map (some b)] w fun e w' => e = .returned (.map (some w.heap.size)) ∧ w' = w.alloc (.map es clock) := by
 have hq : ∀ (w : World) (r : Option Nat), (binOp .eql 173 (.map r) (.map none)).run Tryz.prog w = .ok (.bool r.isNone) w := fun w r => run_eql_map_nil w _ _ _ r Tryz.underlying173
 go_enter Tryz.func154, Tryz.ntmps154
 go_wp2
 rw [run_callFunc_extern Tryz.func181 (by kernel_rfl) (by kernel_rfl) (by kernel_rfl) (e := Extern.MapsClone.clone) (by kernel_rfl), run_maps_clone_sl w 173 hb]
 simp only [Result.andThen]
 rw [Oper.upon_value]
 go_wp2
 rw [run_typeAssert_map_sl _ 173 20 _ _ _ Tryz.underlying173]
 simp only [Result.andThen]
 rw [Oper.upon_value]
 go_wp2
 go_ret
 exact ⟨rfl, rfl⟩
theorem cloneS_nil (w : World) : Calls Tryz.prog 155 #[.slice none 0 0] w fun e w' => e = .returned (.slice none 0 0) ∧ w' = w := by
 have hnn : ∀ (w : World), (binOp .eql 70 (.slice none 0 0) (.slice none 0 0)).run Tryz.prog w = .ok (.bool true) w := fun w => by kernel_rfl
 go_enter Tryz.func155, Tryz.ntmps155
 go_wp2
 go_ret
 exact ⟨rfl, rfl⟩
theorem setCell_same {w : World} {b j : Nat} {cs : Array Value} {t : TypeId} {f : Nat × Nat} {v : Value} (h : w.heap[b]? = some (.cells cs t f)) (hc : cs[j]? = some v) : w.setCell ⟨b, j, none⟩ v = w := by
 have hlt := lt_of_block h
 have h' : w.heap[b] = .cells cs t f := by simpa [Array.getElem?_eq_getElem hlt] using h
 obtain ⟨hj, e⟩ := Array.getElem?_eq_some_iff.1 hc
 have es : cs.setIfInBounds j v = cs := by
  apply Array.ext
  ·simp
  ·intro i h1 h2
   rw [Array.getElem_setIfInBounds]
   split
   ·subst_vars; rfl
   ·rfl
 have eh : (w.setCell ⟨b, j, none⟩ v).heap = w.heap := by
  apply Array.ext
  ·simp [World.setCell]
  ·intro i h1 h2
   simp only [World.setCell, Array.getElem_modify]
   split
   ·subst_vars
    rw [h']
    simp [es]
   ·rfl
 cases w
 simp only [World.setCell] at eh ⊢
 simp only [World.mk.injEq, and_true]
 exact eh
section
variable {base ab : Nat} {w : World} {s : St} {vo vs vu : Value}
theorem Parts.acc_set {g n cap i : Nat} {p1 p2 : Int} (h : Parts base ab w s (.slice (some ⟨g, 0, none⟩) s.accs.length cap) vs vu) (hp : s.accs[i]? = some (p1, p2)) (m : Int) :
 Parts base ab (w.setCell ⟨g, i * 2, none⟩ (.int .i64 m)) ⟨s.accs.set i (m, p2), s.slots, s.unused⟩ (.slice (some ⟨g, 0, none⟩) s.accs.length cap) vs vu ∧ Fr (only 217) base w (w.setCell ⟨g, i * 2, none⟩ (.int .i64 m)) := by
 obtain ⟨hb, h0, h1, h2, h3, h4⟩ := h
 obtain ⟨cur, hg⟩ : ∃ cur, w.heap[g]? = some (.cells cur 217 (0, 0)) := by
  rcases h1.2 with ⟨e, _⟩ | ⟨g', cap', cur, e, _, hg, _⟩
  ·simp at e
  ·simp at e; obtain ⟨rfl, rfl⟩ := e; exact ⟨cur, hg⟩
 obtain ⟨st, gr⟩ := h1.stored (i * 2) (.int .i64 m)
 rw [accCells_set hp] at st
 refine ⟨⟨hb, block_set h0 (ne_of_types h0 hg (by decide)) _, by simpa using st, ownsRow_setCell_other h2 (own_ne h2 hg (by decide)) _, ownsRow_setCell_other h3 (own_ne h3 hg (by decide)) _, fun i sl b o e1 e2 => ?_⟩, (Fr.refl _ _ _).setCell (mine_row h1 rfl g rfl) _⟩
 have hb := (h4 i sl b o e1 e2).2
 exact ⟨(h4 i sl b o e1 e2).1, block_set hb (ne_of_types hb hg (by decide)) _⟩
theorem Parts.slot_set {g m cap j : Nat} {l : List Sl} {u : Value} (h : Parts base ab w s vo (.slice (some ⟨g, 0, none⟩) m cap) vu) (hm : m = s.slots.length) (hl : (slotCells s.slots).set j u = slotCells l) (hn : l.length = s.slots.length)
 (ho : ∀ (i : Nat) (sl : Sl) (b : Nat) (o : Ob), l[i]? = some sl → sl.obj = some (b, o) → (base ≤ b ∧ w.heap[b]? = some (.cells o.cells 178 (0, 0)))) :
 Parts base ab (w.setCell ⟨g, j, none⟩ u) ⟨s.accs, l, s.unused⟩ vo (.slice (some ⟨g, 0, none⟩) m cap) vu ∧ Fr (only 225) base w (w.setCell ⟨g, j, none⟩ u) := by
 subst hm
 obtain ⟨hb, h0, h1, h2, h3, h4⟩ := h
 obtain ⟨cur, hg⟩ : ∃ cur, w.heap[g]? = some (.cells cur 225 (0, 0)) := by
  rcases h2.2 with ⟨e, _⟩ | ⟨g', cap', cur, e, _, hg, _⟩
  ·simp at e
  ·simp at e; obtain ⟨rfl, rfl⟩ := e; exact ⟨cur, hg⟩
 obtain ⟨st, gr⟩ := h2.stored j u
 rw [hl] at st
 refine ⟨⟨hb, block_set h0 (ne_of_types h0 hg (by decide)) _, ownsRow_setCell_other h1 (own_ne h1 hg (by decide)) _, by simpa [hn] using st, ownsRow_setCell_other h3 (own_ne h3 hg (by decide)) _, fun i sl b o e1 e2 => ?_⟩, (Fr.refl _ _ _).setCell (mine_row h2 rfl g rfl) _⟩
 have hb := (ho i sl b o e1 e2).2
 exact ⟨(ho i sl b o e1 e2).1, block_set hb (ne_of_types hb hg (by decide)) _⟩
end
theorem Arn.slot_put {base ab n u b : Nat} {w : World} {ac : List (Int × Int)} {l : List Sl} {un : List Nat} {o : Ob} (h : Arn base ab w ⟨ac, l, un⟩) (hl : l[n]? = some ⟨u, none⟩) (hb : base ≤ b) (hB : w.heap[b]? = some (.cells o.cells 178 (0, 0))) :
 ∃ g cap, w.cell? ⟨ab, 1, none⟩ = some (.slice (some ⟨g, 0, none⟩) l.length cap) ∧ l.length ≤ cap ∧ cap ≤ maxLen ∧ w.cell? ⟨g, n * 2, none⟩ = some (.int .u32 u) ∧ w.cell? ⟨g, n * 2 + 1, none⟩ = some (.pointer none) ∧ (∀ j, w.frozen? ⟨g, j, none⟩ = false) ∧ n < l.length ∧
  Arn base ab ((w.setCell ⟨g, n * 2, none⟩ (.int .u32 ((u : Int) + 1))).setCell ⟨g, n * 2 + 1, none⟩ (.pointer (some ⟨b, 0, none⟩))) ⟨ac, l.set n ⟨u + 1, some (b, o)⟩, un⟩ ∧ Fr (only 225) base w ((w.setCell ⟨g, n * 2, none⟩ (.int .u32 ((u : Int) + 1))).setCell ⟨g, n * 2 + 1, none⟩ (.pointer (some ⟨b, 0, none⟩))) := by
 have hn : n < l.length := by obtain ⟨hh, _⟩ := List.getElem?_eq_some_iff.1 hl; exact hh
 obtain ⟨vo, vs, vu, hP⟩ := h.parts
 have h1 := hP.2.2.2.1
 obtain ⟨g, cap, cur, rfl, hc1, hc2, _, hg⟩ := row_at h1 (by simp only; omega)
 obtain ⟨c0, c1, c2, cf⟩ := three hP.2.1
 have e0 := (h1.cellAt (n * 2) (by simp only; omega)).trans (slotCells_get hl).1
 have e1 := (h1.cellAt (n * 2 + 1) (by simp only; omega)).trans (slotCells_get hl).2
 have keep : ∀ (x : Sl), x.obj = none → ∀ (i : Nat) (sl : Sl) (b : Nat) (o : Ob), (l.set n x)[i]? = some sl → sl.obj = some (b, o) → l[i]? = some sl := by
  intro x hx i sl b o q1 q2
  rw [List.getElem?_set] at q1
  split at q1
  ·simp at q1; subst q1; rw [hx] at q2; cases q2
  ·exact q1
 obtain ⟨P1, G1⟩ := hP.slot_set (l := l.set n ⟨u + 1, none⟩) rfl (slotCells_set0 hl (u + 1)) (by simp) (fun i sl b o q1 q2 => h.objs i sl b o (keep _ rfl i sl b o q1 q2) q2)
 have hl2 : (l.set n ⟨u + 1, none⟩)[n]? = some ⟨u + 1, none⟩ := by simp [hn]
 obtain ⟨P2, G2⟩ := P1.slot_set (l := l.set n ⟨u + 1, some (b, o)⟩) (by simp) (by have := slotCells_set1 hl2 (some (b, o)); simp only [List.set_set] at this; exact this) (by simp) (fun i sl b' o' q1 q2 => by
  by_cases hi : n = i
  ·subst hi
   simp [hn] at q1
   subst q1
   simp at q2
   obtain ⟨rfl, rfl⟩ := q2
   exact ⟨hb, G1.block hB rfl⟩
  ·rw [List.getElem?_set_ne hi] at q1
   have := h.objs i sl b' o' q1 q2
   exact ⟨this.1, G1.block this.2 rfl⟩)
 refine ⟨g, cap, c1, hc1, hc2, e0, e1, h1.frozenAt, hn, ?_, ?_⟩
 ·exact_mod_cast P2.arn
 ·exact_mod_cast G1.trans G2
def Frees (s : St) (n u : Nat) (l : List Sl) (un : List Nat) : Prop :=
 (s.unused = [] ∧ n = s.slots.length ∧ u = 0 ∧ l = s.slots ++ [⟨0, none⟩] ∧ un = []) ∨ (s.unused = un ++ [n] ∧ s.slots[n]? = some ⟨u, none⟩ ∧ l = s.slots)
theorem Frees.at_ {s : St} {n u : Nat} {l : List Sl} {un : List Nat} (h : Frees s n u l un) : l[n]? = some ⟨u, none⟩ := by
 rcases h with ⟨_, rfl, rfl, rfl, _⟩ | ⟨_, h, rfl⟩
 ·simp
 ·exact h
theorem free_any {base ab : Nat} {w : World} {s : St} {n u : Nat} {l : List Sl} {un : List Nat} (h : Arn base ab w s) (hf : Frees s n u l un) (hl1 : s.slots.length ≤ 1000000) (hl2 : s.unused.length ≤ 1000000) :
 Calls Tryz.prog 156 #[.pointer (some ⟨ab, 0, none⟩)] w fun e w' => e = .returned (.int .u32 n) ∧ Arn base ab w' ⟨s.accs, l, un⟩ ∧ Fr (fun t => only 215 t || only 225 t) base w w' := by
 obtain ⟨ac, sl, us⟩ := s
 rcases hf with ⟨h1, rfl, rfl, rfl, rfl⟩ | ⟨h1, h2, rfl⟩
 ·simp only at h1; subst h1
  exact free_new (s := ⟨ac, sl, []⟩) h hl1
 ·simp only at h1; subst h1
  simp only [List.length_append] at hl2
  exact (free_old (s := ⟨ac, l, []⟩) h (by omega)).mono fun e w' ⟨a, b, c⟩ => ⟨a, b, c.more (by intro t ht; simp [ht])⟩
def Cloned (w : World) (r : Option Nat) (w' : World) (r' : Option Nat) : Prop :=
 (r = none ∧ r' = none) ∨ ∃ b es clock m, r = some b ∧ w.heap[b]? = some (.map es clock) ∧ r' = some m ∧ w.heap.size ≤ m ∧ w'.heap[m]? = some (.map es clock)
theorem Cloned.later {w w' w'' : World} {r r' : Option Nat} (h : Cloned w r w' r') (hk : ∀ (m : Nat) (es : Array MapEntry) (clock : Nat), w'.heap[m]? = some (.map es clock) → w''.heap[m]? = some (.map es clock)) : Cloned w r w'' r' := by
 rcases h with h | ⟨b, es, clock, m, h1, h2, h3, h4, h5⟩
 ·exact .inl h
 ·exact .inr ⟨b, es, clock, m, h1, h2, h3, h4, hk _ _ _ h5⟩
theorem box_cells {w : World} {b : Nat} {o : Ob} (h : w.heap[b]? = some (.cells o.cells 178 (0, 0))) : w.cell? ⟨b, 1, none⟩ = some (.int .i64 o.ow) ∧ w.cell? ⟨b, 3, none⟩ = some (.map o.fm) ∧ w.cell? ⟨b, 4, none⟩ = some (.int .i64 o.mo) ∧ w.cell? ⟨b, 5, none⟩ = some (.int .i64 o.fu) ∧ w.cell? ⟨b, 6, none⟩ = some o.hd ∧ (∀ j, w.frozen? ⟨b, j, none⟩ = false) := by
 refine ⟨?_, ?_, ?_, ?_, ?_, fun j => frozen_of_row _ _ _ _ _ h⟩ <;> (rw [cell_of_row _ _ _ _ _ _ h]; rfl)
theorem clone_any (r : Option Nat) (w : World) (hr : ∀ b, r = some b → ∃ es clock, w.heap[b]? = some (.map es clock)) :
 Calls Tryz.prog 154 #[.map r] w fun e w' => ∃ r', e = .returned (.map r') ∧ ((r = none ∧ r' = none ∧ w' = w) ∨ ∃ b es clock, r = some b ∧ w.heap[b]? = some (.map es clock) ∧ r' = some w.heap.size ∧ w' = w.alloc (.map es clock)) := by
 cases r with
 | none => exact (clone_nil w).mono fun e w' ⟨he, hw⟩ => ⟨none, he, .inl ⟨rfl, rfl, hw⟩⟩
 | some b =>
  obtain ⟨es, clock, hb⟩ := hr b rfl
  exact (clone_map b es clock w hb).mono fun e w' ⟨he, hw⟩ => ⟨_, he, .inr ⟨b, es, clock, rfl, hb, rfl, hw⟩⟩
theorem put_ok {base ab : Nat} {w : World} {s : St} {n u : Nat} {l : List Sl} {un : List Nat} {p1 p2 : Int} (h : Arn base ab w s) (o : Ob) (hh : o.hd = .slice none 0 0) (hm : ∀ b, o.fm = some b → ∃ es clock, w.heap[b]? = some (.map es clock)) (hb : base ≤ w.heap.size) (i : Nat) (hi : (i : Int) = o.ow) (hp : s.accs[i]? = some (p1, p2)) (hp0 : 0 ≤ p1) (hp1 : p1 < p2) (hp2 : p2 ≤ 9223372036854775807)
 (hf : Frees s n u l un) (hl1 : s.slots.length ≤ 1000000) (hl2 : s.unused.length ≤ 1000000) (hu : u ≤ 1000000) :
 Calls Tryz.prog 120 #[.pointer (some ⟨ab, 0, none⟩), .agg o.cells] w
  fun e w' => e = .returned (.tuple #[.int .u64 ((u + 1) * 4294967296 + n), .int .i64 0]) ∧ ∃ r', Cloned w o.fm w' r' ∧ Arn base ab w' ⟨s.accs.set i (p1 + 1, p2), l.set n ⟨u + 1, some (w.heap.size, { o with fm := r' })⟩, un⟩ ∧ Fr isA base w w' ∧ w.heap.size < w'.heap.size := by
 obtain ⟨k, ow, fz, fm, mo, fu, hd, br, ck, cn, cs, me, ta, de⟩ := o
 simp only at hh hm hi
 subst hh
 subst hi
 have hlt : i < s.accs.length := by obtain ⟨hh, _⟩ := List.getElem?_eq_some_iff.1 hp; exact hh
 have HO : Hid (ownB i s.accs.length = true) := by show ownB i s.accs.length = true; simp [ownB]; omega
 have HP : Hid (s.accs[i]? = some (p1, p2)) := hp
 have HF : Hid (Frees s n u l un) := hf
 have HM : Hid (∀ b, fm = some b → ∃ es clock, w.heap[b]? = some (.map es clock)) := hm
 have hz : ((p2 - p1) == 0) = false := by rw [beq_eq_false_iff_ne]; omega
 clear hp hf hm
 simp only [Ob.cells]
 go_enter Tryz.func120, Tryz.ntmps120
 go_wp2_with fail
 refine (isOwner_is (h.alloc _) _ true HO.out).mono ?_
 rintro e wx ⟨rfl, rfl⟩
 go_wp2_with fail
 refine (many_fr (h.alloc _) i p1 p2 HP.out (by omega) (by omega) _ rfl).mono ?_
 rintro e w2 ⟨rfl, F2⟩
 have B2 : w2.heap[w.heap.size]? = some (.cells (Ob.cells ⟨k, i, fz, fm, mo, fu, .slice none 0 0, br, ck, cn, cs, me, ta, de⟩) 178 (0, 0)) := F2.block (heap_alloc_new w _) rfl
 have b2 : Below w.heap.size w w2 := (((Fr.refl isA w.heap.size w).alloc _).below (Nat.le_refl _)).trans (F2.keepNo (fun _ => rfl) (by simp))
 obtain ⟨x1, x3, x4, x5, x6, xf⟩ := box_cells B2
 simp only at x1 x3
 go_wp2_with fail
 refine (clone_any fm w2 (fun b hb => by obtain ⟨es, clock, h1⟩ := HM.out b hb; exact ⟨es, clock, (b2.block b (lt_of_block h1)).trans h1⟩)).mono ?_
 rintro e w3 ⟨r', rfl, hcl⟩
 have b3 : Below w.heap.size w w3 := by
  rcases hcl with ⟨_, _, rfl⟩ | ⟨_, _, _, _, _, _, rfl⟩
  ·exact b2
  ·exact b2.alloc b2.size _
 have B3 : w3.heap[w.heap.size]? = some (.cells (Ob.cells ⟨k, i, fz, fm, mo, fu, .slice none 0 0, br, ck, cn, cs, me, ta, de⟩) 178 (0, 0)) := by
  rcases hcl with ⟨_, _, rfl⟩ | ⟨_, _, _, _, _, _, rfl⟩
  ·exact B2
  ·exact block_alloc B2 _
 have hcl2 : Cloned w fm w3 r' := by
  rcases hcl with ⟨h1, h2, _⟩ | ⟨b, es, clock, h1, h2, h3, rfl⟩
  ·exact .inl ⟨h1, h2⟩
  ·obtain ⟨es', clock', h4⟩ := HM.out b h1
   have h5 := (b2.block b (lt_of_block h4)).trans h4
   rw [h2] at h5
   simp at h5
   obtain ⟨rfl, rfl⟩ := h5
   exact .inr ⟨b, es, clock, w2.heap.size, h1, h4, h3, b2.size, heap_alloc_new w2 _⟩
 obtain ⟨y1, y3, y4, y5, y6, yf⟩ := box_cells B3
 clear hcl B2 x1 x3 x4 x5 x6 xf F2
 go_wp2_with fail
 obtain ⟨w4, hw4⟩ : ∃ w4, w3.setCell ⟨w.heap.size, 3, none⟩ (.map r') = w4 := ⟨_, rfl⟩
 rw [hw4]
 have B4 : w4.heap[w.heap.size]? = some (.cells (Ob.cells ⟨k, i, fz, r', mo, fu, .slice none 0 0, br, ck, cn, cs, me, ta, de⟩) 178 (0, 0)) := by
  rw [← hw4]; exact heap_setCell_same _ _ _ _ _ _ B3
 have b4 : Below w.heap.size w w4 := by
  rw [← hw4]; exact ⟨b3.os, b3.tape, b3.output, by have := b3.size; simpa [World.setCell] using this, fun k hk => (Below.heap_setCell _ _ _ _ (by simp; omega)).trans (b3.block k hk)⟩
 have hcl4 : Cloned w fm w4 r' := by
  rcases hcl2 with h1 | ⟨b, es, clock, m, h1, h2, h3, h4, h5⟩
  ·exact .inl h1
  ·refine .inr ⟨b, es, clock, m, h1, h2, h3, h4, ?_⟩
   rw [← hw4]
   exact (Below.heap_setCell _ _ _ _ (by rintro rfl; rw [B3] at h5; simp at h5)).trans h5
 have A2 := h.below b4
 have F4 : Fr isA base w w4 := ⟨b4.os, b4.tape, b4.output, b4.size, fun k hk _ => b4.block k hk⟩
 clear hw4 B3 b3 b2 hcl2 y1 y3 y4 y5 y6 yf HM
 obtain ⟨x1, x3, x4, x5, x6, xf⟩ := box_cells B4
 simp only at x1
 refine (cloneS_nil _).mono ?_
 rintro e wx ⟨rfl, rfl⟩
 obtain ⟨vo, vs, vu, hP⟩ := A2.parts
 have h1 := hP.2.2.1
 obtain ⟨g, cap, cur, rfl, hc1, hc2, _, hg⟩ := row_at h1 (by omega)
 obtain ⟨c0, c1, c2, cf⟩ := three hP.2.1
 have e0 := (h1.cellAt (i * 2) (by omega)).trans (accCells_get HP.out).1
 have ef := h1.frozenAt
 simp only at e0
 unfold maxLen at hc2
 have hidx : 0 ≤ (i : Int) ∧ (i : Int) < (s.accs.length : Int) := ⟨by omega, by omega⟩
 obtain ⟨P1, F3⟩ := hP.acc_set (n := 0) HP.out (p1 + 1)
 have S3 := @setCell_same wx w.heap.size 6 _ _ _ (.slice none 0 0) B4 rfl
 go_wp2_with fail
 clear S3
 go_region
 go_wp2_with fail
 have HF2 : Hid (Frees ⟨s.accs.set i (p1 + 1, p2), s.slots, s.unused⟩ n u l un) := HF
 refine (free_any (s := ⟨s.accs.set i (p1 + 1, p2), s.slots, s.unused⟩) P1.arn.drew HF2.out hl1 hl2).mono ?_
 rintro e w3 ⟨rfl, A3, F5⟩
 have F6 : Fr (fun t => only 215 t || only 225 t || only 217 t) base wx w3 := ((F3.more (by intro t ht; simp [ht])).drew).trans (F5.more (by intro t ht; simp at ht; simp [ht]))
 have B3 : w3.heap[w.heap.size]? = some (.cells (Ob.cells ⟨k, i, fz, r', mo, fu, .slice none 0 0, br, ck, cn, cs, me, ta, de⟩) 178 (0, 0)) := F6.block B4 rfl
 have hcl3 : Cloned w fm w3 r' := hcl4.later fun m es clock hm => F6.map hm
 have F7 : Fr isA base w w3 := F4.trans (F6.more (by intro t ht; simp [only] at ht; rcases ht with (rfl | rfl) | rfl <;> rfl))
 have hl3 : l.length ≤ 1000001 := by
  rcases HF.out with ⟨_, _, _, rfl, _⟩ | ⟨_, _, rfl⟩
  ·simp; omega
  ·omega
 have S4 := lt_of_block B4
 have S5 := F6.size
 have hsz : w.heap.size < w3.heap.size := by omega
 clear S4 S5 F6 F5 F4 F3 P1 e0 ef c0 c1 c2 cf hP h1 hg x1 x3 x4 x5 x6 xf A2 B4 b4 hcl4
 obtain ⟨g2, cap2, c1, hc1, hc2, e0, e1, ef, hn, A4, G4⟩ := A3.slot_put HF.out.at_ hb B3
 unfold maxLen at hc2
 have HA : Hid (Arn base ab ((w3.setCell ⟨g2, n * 2, none⟩ (.int .u32 ((u : Int) + 1))).setCell ⟨g2, n * 2 + 1, none⟩ (.pointer (some ⟨w.heap.size, 0, none⟩))) ⟨s.accs.set i (p1 + 1, p2), l.set n ⟨u + 1, some (w.heap.size, ⟨k, i, fz, r', mo, fu, .slice none 0 0, br, ck, cn, cs, me, ta, de⟩)⟩, un⟩) := A4
 have F8 := F7.trans (G4.more (by intro t ht; simp [only] at ht; subst ht; rfl))
 have S7 : w.heap.size < ((w3.setCell ⟨g2, n * 2, none⟩ (.int .u32 ((u : Int) + 1))).setCell ⟨g2, n * 2 + 1, none⟩ (.pointer (some ⟨w.heap.size, 0, none⟩))).heap.size := Nat.lt_of_lt_of_le hsz G4.size
 have HC : Hid (Cloned w fm ((w3.setCell ⟨g2, n * 2, none⟩ (.int .u32 ((u : Int) + 1))).setCell ⟨g2, n * 2 + 1, none⟩ (.pointer (some ⟨w.heap.size, 0, none⟩))) r') := hcl3.later fun m es clock hm => G4.map hm
 clear A3 A4 B3 F7 G4 h hcl3
 have hidx : 0 ≤ (n : Int) ∧ (n : Int) < (l.length : Int) := ⟨by omega, by omega⟩
 go_wp2_with fail
 refine (of_any _ _ (by omega) (by omega) (by omega) (by omega) _).mono ?_
 rintro e wx ⟨rfl, rfl⟩
 go_wp2
 go_ret2
 exact ⟨rfl, r', HC.out, HA.out, F8, S7⟩
theorem put_full {base ab : Nat} {w : World} {s : St} {p : Int} (h : Arn base ab w s) (o : Ob) (hb : base ≤ w.heap.size) (i : Nat) (hi : (i : Int) = o.ow) (hp : s.accs[i]? = some (p, p)) :
 Calls Tryz.prog 120 #[.pointer (some ⟨ab, 0, none⟩), .agg o.cells] w
  fun e w' => e = .returned (.tuple #[.int .u64 0, .int .i64 8]) ∧ Arn base ab w' s ∧ Fr noT base w w' := by
 obtain ⟨k, ow, fz, fm, mo, fu, hd, br, ck, cn, cs, me, ta, de⟩ := o
 simp only at hi
 subst hi
 have hlt : i < s.accs.length := by obtain ⟨hh, _⟩ := List.getElem?_eq_some_iff.1 hp; exact hh
 have HO : Hid (ownB i s.accs.length = true) := by show ownB i s.accs.length = true; simp [ownB]; omega
 have HP : Hid (s.accs[i]? = some (p, p)) := hp
 have hz : ((p - p) == 0) = true := by rw [beq_iff_eq]; omega
 clear hp
 simp only [Ob.cells]
 go_enter Tryz.func120, Tryz.ntmps120
 go_wp2_with fail
 refine (isOwner_is (h.alloc _) _ true HO.out).mono ?_
 rintro e wx ⟨rfl, rfl⟩
 go_wp2_with fail
 refine (many_fr (h.alloc _) i p p HP.out (by omega) (by omega) _ rfl).mono ?_
 rintro e w2 ⟨rfl, F2⟩
 have A2 := (h.alloc _).fr F2 (fun _ _ => rfl)
 go_wp2
 go_ret2
 exact ⟨rfl, A2, ((Fr.refl _ _ _).alloc _).trans F2⟩
def look (l : List Sl) (r : Int) : Option (Nat × Ob) :=
 match l[(r % 4294967296).toNat]? with
 | some sl => if (sl.uses : Int) = r / 4294967296 then sl.obj else none
 | none => none
theorem get_any {base ab : Nat} {w : World} {s : St} (h : Arn base ab w s) (r : Int) (hr0 : 0 ≤ r) (hr1 : r ≤ 18446744073709551615) :
 Calls Tryz.prog 122 #[.pointer (some ⟨ab, 0, none⟩), .int .u64 r] w fun e w' => e = .returned (ptrOf (look s.slots r)) ∧ ∃ q, w' = w.drewN q := by
 obtain ⟨vo, vs, vu, hP⟩ := h.parts
 have h2 := hP.2.2.2.1
 obtain ⟨c0, c1, c2, cf⟩ := three hP.2.1
 obtain ⟨n, hn⟩ : ∃ n : Nat, (n : Int) = r % 4294967296 := ⟨(r % 4294967296).toNat, by omega⟩
 obtain ⟨u, hu⟩ : ∃ u : Int, u = r / 4294967296 := ⟨_, rfl⟩
 have hu0 : 0 ≤ u ∧ u ≤ 4294967295 := by omega
 have hn1 : n ≤ 4294967295 := by omega
 have hlook : look s.slots r = (match s.slots[n]? with | some sl => if (sl.uses : Int) = u then sl.obj else none | none => none) := by
  rw [look, ← hn, ← hu]; simp
 rw [hlook]
 have HN : Hid ((n : Int) = r % 4294967296) := hn
 have HU : Hid (u = r / 4294967296) := hu
 have hslot : ∀ w, Calls Tryz.prog 158 #[.int .u64 r] w fun e w' => e = .returned (.int .u32 n) ∧ w' = w := fun w => by
  have := slot_any r hr0 hr1 w; rw [← HN.out] at this; exact this
 have huses : ∀ w, Calls Tryz.prog 159 #[.int .u64 r] w fun e w' => e = .returned (.int .u32 u) ∧ w' = w := fun w => by
  have := uses_any r hr0 hr1 w; rw [← HU.out] at this; exact this
 have HS : Hid (∀ w, Calls Tryz.prog 158 #[.int .u64 r] w fun e w' => e = .returned (.int .u32 n) ∧ w' = w) := hslot
 have HV : Hid (∀ w, Calls Tryz.prog 159 #[.int .u64 r] w fun e w' => e = .returned (.int .u32 u) ∧ w' = w) := huses
 clear hslot huses hlook hn hu
 by_cases hlt : n < s.slots.length
 ·obtain ⟨sl, hsl⟩ : ∃ sl, s.slots[n]? = some sl := ⟨_, List.getElem?_eq_getElem hlt⟩
  rw [hsl]
  simp only
  obtain ⟨g, cap, cur, rfl, hc1, hc2, _, hg⟩ := row_at h2 (by omega)
  have e0 := (h2.cellAt (n * 2) (by omega)).trans (slotCells_get hsl).1
  have e1 := (h2.cellAt (n * 2 + 1) (by omega)).trans (slotCells_get hsl).2
  have g0 : decide ((s.slots.length : Int) ≤ (n : Int)) = false := by simp; omega
  have hidx : 0 ≤ (n : Int) ∧ (n : Int) < (s.slots.length : Int) := ⟨by omega, by omega⟩
  unfold maxLen at hc2
  obtain ⟨us, ob⟩ := sl
  simp only at e0 e1 ⊢
  have HL : Hid (s.slots[n]? = some ⟨us, ob⟩) := hsl
  clear hsl hP h2 hg h
  by_cases hus : (us : Int) = u
  ·subst hus
   rw [if_pos rfl]
   generalize ptrOf ob = po at e1
   go_enter Tryz.func122, Tryz.ntmps122
   go_wp2_with fail
   refine (HS.out _).mono ?_
   rintro e w ⟨rfl, rfl⟩
   go_wp2_with fail
   go_quiet ((go_at_call 159; exact Calls.quiet_of_same (HV.out _)))
   go_wp2
   go_ret
   exact ⟨rfl, _, rfl⟩
  ·rw [if_neg hus]
   have g1 : ((us : Int) != u) = true := by rw [bne_iff_ne]; exact hus
   clear hus
   generalize ptrOf ob = po at e1
   go_enter Tryz.func122, Tryz.ntmps122
   go_wp2_with fail
   refine (HS.out _).mono ?_
   rintro e w ⟨rfl, rfl⟩
   go_wp2_with fail
   go_quiet ((go_at_call 159; exact Calls.quiet_of_same (HV.out _)))
   go_wp2
   go_ret
   exact ⟨rfl, _, rfl⟩
 ·rw [List.getElem?_eq_none (by omega)]
  simp only
  obtain ⟨ao, cap, rfl, hc1, hc2⟩ := row_shape h2
  have g0 : decide ((s.slots.length : Int) ≤ (n : Int)) = true := by simp; omega
  unfold maxLen at hc2
  clear hP h2 h
  go_enter Tryz.func122, Tryz.ntmps122
  go_wp2_with fail
  refine (HS.out _).mono ?_
  rintro e w ⟨rfl, rfl⟩
  go_wp2_with fail
  go_quiet ((go_at_call 159; exact Calls.quiet_of_same (HV.out _)))
  go_wp2
  go_ret
  exact ⟨rfl, _, rfl⟩
theorem entersSlot (args : Array Value) (w : World) : (callFunc 158 args).run Tryz.prog w = .ok (.enter 158 args) w := by kernel_rfl
theorem after_push {base ab n : Nat} {w w7 : World} {s : St} {vo vs vu v' : Value} (hP : Parts base ab w s vo vs vu) (hown : w7.ownsRow base 207 1 v' (s.unused.length + 1) (freeCells s.unused ++ [.int .u32 n])) (hgrow : (w.alloc (.cells #[.int .u32 n] 207)).drew.grownBy w7 vu.ownBlock) :
 ∃ au cu, v' = .slice au (s.unused.length + 1) cu ∧ Arn base ab (w7.setCell ⟨ab, 2, none⟩ (.slice au (s.unused.length + 1) cu)) ⟨s.accs, s.slots, s.unused ++ [n]⟩ ∧ Fr isA base w (w7.setCell ⟨ab, 2, none⟩ (.slice au (s.unused.length + 1) cu)) ∧ w7.heap[ab]? = some (.cells #[vo, vs, vu] 215 (0, 0)) := by
 obtain ⟨au, cu, hv, _, _⟩ := row_shape hown
 obtain ⟨A1, A2, A3⟩ := hP.unused_grown (l := s.unused ++ [n]) (((Fr.refl _ _ _).alloc _).drew.grown hgrow (mine_row ((hP.2.2.2.2.1.alloc _).drew) rfl)) (by simpa [freeCells] using hown)
 rw [hv] at A1 A2
 exact ⟨au, cu, hv, A1.arn, A2.more (by intro t ht; simp [only] at ht; rcases ht with rfl | rfl <;> rfl), A3⟩
theorem drop_some {base ab : Nat} {w : World} {s : St} (h : Arn base ab w s) (r : Int) (n u b i : Nat) (o : Ob) (p1 p2 : Int) (hr : r = (u : Int) * 4294967296 + n) (hn : n ≤ 1000000) (hu : u ≤ 1000001) (hl : s.slots[n]? = some ⟨u, some (b, o)⟩) (hi : (i : Int) = o.ow) (hp : s.accs[i]? = some (p1, p2)) (hp0 : -1000000 ≤ p1) (hp1 : p1 ≤ 9223372036854775807) (hl2 : s.unused.length ≤ 1000000) :
 Calls Tryz.prog 121 #[.pointer (some ⟨ab, 0, none⟩), .int .u64 r] w fun e w' => e = .returned (.tuple #[]) ∧ Arn base ab w' ⟨s.accs.set i (p1 - 1, p2), s.slots.set n ⟨u, none⟩, s.unused ++ [n]⟩ ∧ Fr isA base w w' := by
 have hg := get_any h r (by omega) (by omega)
 have hlook : look s.slots r = some (b, o) := by
  have e1 : (r % 4294967296).toNat = n := by omega
  have e2 : r / 4294967296 = u := by omega
  rw [look, e1, e2, hl]; simp
 rw [hlook] at hg
 have HG : Hid (Calls Tryz.prog 122 #[.pointer (some ⟨ab, 0, none⟩), .int .u64 r] w fun e w' => e = .returned (.pointer (some ⟨b, 0, none⟩)) ∧ ∃ q, w' = w.drewN q) := hg
 have HL : Hid (s.slots[n]? = some ⟨u, some (b, o)⟩) := hl
 have HP : Hid (s.accs[i]? = some (p1, p2)) := hp
 have hlt : i < s.accs.length := by obtain ⟨hh, _⟩ := List.getElem?_eq_some_iff.1 hp; exact hh
 have hnt : n < s.slots.length := by obtain ⟨hh, _⟩ := List.getElem?_eq_some_iff.1 hl; exact hh
 have hslot : ∀ w, Calls Tryz.prog 158 #[.int .u64 r] w fun e w' => e = .returned (.int .u32 n) ∧ w' = w := fun w => by
  have := slot_any r (by omega) (by omega) w; rw [show r % 4294967296 = n from by omega] at this; exact this
 have HS : Hid (∀ w, Calls Tryz.prog 158 #[.int .u64 r] w fun e w' => e = .returned (.int .u32 n) ∧ w' = w) := hslot
 have HI : Hid ((i : Int) = o.ow) := hi
 clear hg hl hp hlook hslot hr hi
 go_enter Tryz.func121, Tryz.ntmps121
 go_wp2_with fail
 refine HG.out.mono ?_
 rintro e wx ⟨rfl, q, hw⟩
 have A1 : Arn base ab wx s := by rw [hw]; exact h.drewN q
 have F1 : Fr isA base w wx := by rw [hw]; exact (Fr.refl _ _ _).drewN q
 clear hw
 obtain ⟨vo, vs, vu, hP⟩ := A1.parts
 have h1 := hP.2.2.1
 obtain ⟨g, cap, cur, rfl, hc1, hc2, _, hg⟩ := row_at h1 (by omega)
 obtain ⟨c0, c1, c2, cf⟩ := three hP.2.1
 have e0 := (h1.cellAt (i * 2) (by omega)).trans (accCells_get HP.out).1
 have ef := h1.frozenAt
 have xb := (box_cells (A1.objs n _ b o HL.out rfl).2).1
 rw [← HI.out] at xb
 simp only at e0
 unfold maxLen at hc2
 have hidx : 0 ≤ (i : Int) ∧ (i : Int) < (s.accs.length : Int) := ⟨by omega, by omega⟩
 obtain ⟨P1, F3⟩ := hP.acc_set (n := 0) HP.out (p1 - 1)
 go_wp2_with fail
 go_region
 go_wp2_with fail
 have F4 : Fr isA base w (wx.setCell ⟨g, i * 2, none⟩ (.int .i64 (p1 - 1))).drew := (F1.trans (F3.more (by intro t ht; simp [only] at ht; subst ht; rfl))).drew
 have A4 := P1.arn.drew
 clear P1 F3 e0 ef c0 c1 c2 cf hP h1 hg xb A1 F1 h HG
 generalize (wx.setCell ⟨g, i * 2, none⟩ (.int .i64 (p1 - 1))).drew = w4 at A4 F4 ⊢
 obtain ⟨vo, vs, vu, hP⟩ := A4.parts
 have h1 := hP.2.2.2.1
 obtain ⟨g2, cap2, cur2, rfl, hc3, hc4, _, hg⟩ := row_at h1 (by simp only; omega)
 obtain ⟨c0, c1, c2, cf⟩ := three hP.2.1
 have e1 := (h1.cellAt (n * 2 + 1) (by simp only; omega)).trans (slotCells_get HL.out).2
 have ef := h1.frozenAt
 simp only [ptrOf] at e1 c1 hc3
 unfold maxLen at hc4
 have hidx : 0 ≤ (n : Int) ∧ (n : Int) < (s.slots.length : Int) := ⟨by omega, by omega⟩
 obtain ⟨P5, F5⟩ := hP.slot_set (l := s.slots.set n ⟨u, none⟩) (j := n * 2 + 1) (u := .pointer none) rfl (slotCells_set1 HL.out none) (by simp) (fun i sl b o q1 q2 => by
  by_cases hi : n = i
  ·subst hi
   simp [hnt] at q1
   subst q1
   simp at q2
  ·rw [List.getElem?_set_ne hi] at q1
   exact A4.objs i sl b o q1 q2)
 have F6 : Fr isA base w (w4.setCell ⟨g2, n * 2 + 1, none⟩ (.pointer none)).drew := (F4.trans (F5.more (by intro t ht; simp [only] at ht; subst ht; rfl))).drew
 have P6 : Parts base ab (w4.setCell ⟨g2, n * 2 + 1, none⟩ (.pointer none)).drew ⟨s.accs.set i (p1 - 1, p2), s.slots.set n ⟨u, none⟩, s.unused⟩ vo (.slice (some ⟨g2, 0, none⟩) s.slots.length cap2) vu := P5
 go_region_law (refine step_call_same rfl (.tmp 28) 158 157 rfl _ _ (by simp [Act.eval, Act.put]) entersSlot (HS.out _) ?_)
 all_goals
  go_wp2_with fail
  clear P5 F5 F4 e1 ef c0 c1 c2 cf hP h1 hg A4
  generalize (w4.setCell ⟨g2, n * 2 + 1, none⟩ (.pointer none)).drew = w6 at P6 F6 ⊢
  obtain ⟨c0, c1, c2, cf⟩ := three P6.2.1
  have h3 := P6.2.2.2.2.1
  have hal : ab < w6.heap.size := lt_of_block P6.2.1
  have cA : ∀ o, (w6.alloc o).cell? ⟨ab, 2, none⟩ = some vu := fun o => (World.cell?_alloc_past _ _ _ hal).trans c2
  have hab : base ≤ w6.heap.size := by have := lt_of_block P6.2.1; have := P6.1; omega
  obtain ⟨ti, hti, hz0, hz1, hz2⟩ := info_parts Tryz.info207
  go_region_law (first | (refine step_append_own rfl (.tmp 36) (.tmp 39) 213 rfl base 207 ti (.int .u32 0) 1 4 Tryz.underlying213 hti hz0 hz1 hz2 rfl (by decide) vu s.unused.length (freeCells s.unused) (by simp [Act.eval, Act.put]) (by exact h3.alloc _) ⟨w6.heap.size, 0, none⟩ 1 1 [.int .u32 n] (by simp [Act.eval]) rfl (by exact fun j u hj => one_news j u hj) (by intro u hu; simp at hu; subst hu; rfl) (by unfold maxLen; omega) (by omega) (by simp; omega) ?_; intro v' w7 hown' hgrow; obtain ⟨au, cu, hv, A1, A2, A3⟩ := after_push P6 hown' hgrow; rw [hv]; obtain ⟨d0, d1, d2, df⟩ := three A3; clear hown' hgrow) | (refine step_call_same rfl (.tmp 37) 158 157 rfl _ _ (by simp [Act.eval, Act.put]) entersSlot (HS.out _) ?_))
  all_goals
   go_wp2
   go_end0
   exact ⟨rfl, A1, F6.trans A2⟩
end Go.Proofs.YtenfphbhofibjaaGreatDoor

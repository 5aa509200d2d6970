/-
  Contracts that ArenaPlays goes through: M.many, slices.Contains, Arena.All, slices.Clone, SortFunc and Equal on slices of Refs: what each returns, and what it leaves of the world.
  Conditions: as each theorem says.
-/
import Derived.Test.YtbbmcggalffecaaApartBase
namespace Go.Proofs.Ytbbmcggalffecaa
open Go.ChangeShapes Go.WideShapes Go.ChangeAt Go.RowKit Go.Sort Go.Lib Go.Shelf
set_option linter.unusedVariables false
theorem five {w : World} {b : Nat} {x0 x1 x2 x3 x4 : Value} {t : TypeId} (h : w.heap[b]? = some (.cells #[x0, x1, x2, x3, x4] t (0, 0))) : w.cell? ⟨b, 0, none⟩ = some x0 ∧ w.cell? ⟨b, 1, none⟩ = some x1 ∧ w.cell? ⟨b, 2, none⟩ = some x2 ∧ w.cell? ⟨b, 3, none⟩ = some x3 ∧ w.cell? ⟨b, 4, none⟩ = some x4 ∧ (∀ j, w.frozen? ⟨b, j, none⟩ = false) := by
  refine ⟨?_, ?_, ?_, ?_, ?_, fun j => frozen_of_row _ _ _ _ _ h⟩ <;> (rw [cell_of_row _ _ _ _ _ _ h]; rfl)
/-- How many of the first k are x. -/
def cnt (os : List Int) (k : Nat) (x : Int) : Nat := (os.take k).countP (· == x)
theorem cnt_zero (os : List Int) (x : Int) : cnt os 0 x = 0 := by simp [cnt]
theorem cnt_succ (os : List Int) (k : Nat) (x y : Int) (h : os[k]? = some y) : cnt os (k + 1) x = cnt os k x + if (y == x) = true then 1 else 0 := by
  unfold cnt
  rw [List.take_add_one, h]
  simp [List.countP_append, List.countP_cons]
theorem cnt_le (os : List Int) (k : Nat) (x : Int) : cnt os k x ≤ k := by
  unfold cnt
  exact Nat.le_trans List.countP_le_length (List.length_take_le _ _)
set_option maxHeartbeats 1000000 in
theorem many_cnt {base mb : Nat} {w : World} {vq vr vo vm vg : Value} {os : List Int} (hm : w.heap[mb]? = some (.cells #[vq, vr, vo, vm, vg] 31 (0, 0))) (ho : w.ownsRow base 3 1 vo os.length (os.map (Value.int .i64))) (hl : os.length ≤ 1000000) (x : Int) :
    Calls Try.prog 29 #[.pointer (some ⟨mb, 0, none⟩), .int .i64 x] w fun e w' => e = .returned (.int .i64 (cnt os os.length x)) ∧ w' = w := by
  obtain ⟨c0, c1, c2, c3, c4, cf⟩ := five hm
  by_cases h0 : os.length = 0
  · obtain ⟨ao, cap, hv, _, _⟩ := row_shape ho
    rw [h0] at hv ⊢
    rw [hv] at c2
    rw [cnt_zero]
    go_enter Try.func29, Try.ntmps29
    go_wp2
    refine wp_loop_rounds 1 ?_
    rw [rounds_succ]
    go_wp2
    go_ret
    exact ⟨rfl, rfl⟩
  · obtain ⟨g, cap, cur, rfl, hc1, hc2, _⟩ := row_at ho (by omega)
    have hcell : ∀ j y, os[j]? = some y → w.cell? ⟨g, j, none⟩ = some (.int .i64 y) := fun j y hy => (ho.cellAt j (by have := lt_of_get hy; omega)).trans (by simp [hy])
    have HC : Hid (∀ j y, os[j]? = some y → w.cell? ⟨g, j, none⟩ = some (.int .i64 y)) := hcell
    have HO := ho
    unfold maxLen at hc2
    clear ho hcell
    go_enter Try.func29, Try.ntmps29
    go_wp2
    go_loop [5, 13] (fun n i => ∃ k : Nat, k ≤ os.length ∧ i = .int .i64 k ∧ n = .int .i64 (cnt os k x)) (fun _ i => os.length - (intOf i).toNat)
    case atStart => exact ⟨0, by omega, rfl, by rw [cnt_zero]; rfl⟩
    case round =>
      obtain ⟨k, hk, rfl, rfl⟩ := hrel
      have hle := cnt_le os k x
      by_cases hlt : k < os.length
      · obtain ⟨y, hy⟩ : ∃ y, os[k]? = some y := ⟨_, List.getElem?_eq_getElem hlt⟩
        have e0 := HC.out k y hy
        have HS : Hid (cnt os (k + 1) x = cnt os k x + if (y == x) = true then 1 else 0) := cnt_succ os k x y hy
        clear hy
        cases hyx : y == x
        · go_wp2
          go_round
          case rel => exact ⟨k + 1, by omega, by go_num, by rw [HS.out, hyx]; simp⟩
          case measure => simp [intOf]; omega
        · go_wp2
          go_round
          case rel => exact ⟨k + 1, by omega, by go_num, by rw [HS.out, hyx]; simp⟩
          case measure => simp [intOf]; omega
      · have : k = os.length := by omega
        subst this
        go_wp2
        go_ret
        exact ⟨rfl, rfl⟩
theorem contains_row {base : Nat} {w : World} {v : Value} {zs : List Int} (h : w.ownsRow base 51 1 v zs.length (zs.map (Value.int .u64))) (x : Int) (r : Bool) (hr : zs.contains x = r) :
    Calls Try.prog 30 #[v, .int .u64 x] w fun e w' => e = .returned (.bool r) ∧ w' = w := by
  subst hr
  by_cases h0 : zs.length = 0
  · obtain rfl : zs = [] := List.length_eq_zero_iff.1 h0
    obtain ⟨ao, cap, rfl, _, _⟩ := row_shape h
    have hc := AnyE.slices_Contains_empty Try.laysSlE31_f30 ao cap (.int .u64 x) w
    exact hc
  · obtain ⟨g, cap, rfl, hb, hlt, hn, hm, _, hH⟩ := holds_of_ownsRow h (by rintro rfl; rcases h.2 with ⟨_, h0⟩ | ⟨g, cap, cur, h0, _⟩; omega; simp at h0)
    have hc := AnyE.slices_Contains Try.laysSlE31_f30 (Value.int .u64) (fun a b => a == b) (EqlAt.int _ _ .u64) g 0 zs.length cap zs x w (Nat.le_refl _) (by unfold maxLen at hm; omega) (fun j hj => by have := (hH j (by simpa using hj)).1; simpa using this)
    refine Calls.mono hc ?_
    rintro e w' ⟨rfl, rfl⟩
    refine ⟨ret_bool ?_, rfl⟩
    rw [List.take_length, List.contains_eq_any_beq]
/-- The Refs of the slots that have an object, from number i on. -/
def allFrom : Nat → List Sl → List Int
  | _, [] => []
  | i, s :: l => (if s.obj.isSome then [refN s.uses i] else []) ++ allFrom (i + 1) l
theorem allFrom_append (i : Nat) (l m : List Sl) : allFrom i (l ++ m) = allFrom i l ++ allFrom (i + l.length) m := by
  induction l generalizing i with
  | nil => simp [allFrom]
  | cons s l ih => simp [allFrom, ih, Nat.add_assoc, Nat.add_comm 1]
def allTo (l : List Sl) (k : Nat) : List Int := allFrom 0 (l.take k)
theorem allTo_succ (l : List Sl) (k : Nat) (s : Sl) (h : l[k]? = some s) : allTo l (k + 1) = allTo l k ++ if s.obj.isSome then [refN s.uses k] else [] := by
  have hk := lt_of_get h
  unfold allTo
  rw [List.take_add_one, h, allFrom_append]
  simp [allFrom, Nat.min_eq_left (Nat.le_of_lt hk)]
theorem allTo_le (l : List Sl) (k : Nat) : (allTo l k).length ≤ k := by
  have key : ∀ (i : Nat) (m : List Sl), (allFrom i m).length ≤ m.length := by
    intro i m
    induction m generalizing i with
    | nil => simp [allFrom]
    | cons s m ih =>
      have := ih (i + 1)
      simp only [allFrom, List.length_append, List.length_cons]
      split <;> simp <;> omega
  exact Nat.le_trans (key 0 _) (List.length_take_le _ _)
set_option maxRecDepth 100000 in
set_option maxHeartbeats 2000000 in
theorem all_any {base ab : Nat} {w : World} {s : St} (h : Arn base ab w s) (hl : s.slots.length ≤ 1000000) (hu : ∀ (n : Nat) (sl : Sl), s.slots[n]? = some sl → sl.uses ≤ 1000000) :
    Calls Try.prog 35 #[.pointer (some ⟨ab, 0, none⟩)] w fun e w' => ∃ v, e = .returned v ∧ w'.ownsRow w.heap.size 51 1 v (allTo s.slots s.slots.length).length ((allTo s.slots s.slots.length).map (Value.int .u64)) ∧ Below w.heap.size w w' := by
  obtain ⟨vo, vs, vu, hP⟩ := h.parts
  have h2 := hP.2.2.2.1
  obtain ⟨c0, c1, c2, cf⟩ := three hP.2.1
  by_cases h0 : s.slots.length = 0
  · obtain ⟨ao, cap, hv, _, _⟩ := row_shape h2
    rw [h0] at hv
    rw [hv] at c1
    have e : s.slots = [] := List.length_eq_zero_iff.1 h0
    rw [e]
    go_enter Try.func35, Try.ntmps35
    go_wp2
    refine wp_loop_rounds 1 ?_
    rw [rounds_succ]
    go_wp2
    go_ret
    exact ⟨_, rfl, World.ownsRow_nil _ _ _ _, Below.refl _ _⟩
  · obtain ⟨g, cap, cur, rfl, hc1, hc2, _, hg⟩ := row_at h2 (by omega)
    have hgl := lt_of_block hg
    have hcell : ∀ (j : Nat) (sl : Sl), s.slots[j]? = some sl → w.cell? ⟨g, j * 2, none⟩ = some (.int .u32 sl.uses) ∧ w.cell? ⟨g, j * 2 + 1, none⟩ = some (ptrOf sl.obj) := fun j sl hy =>
      ⟨(h2.cellAt (j * 2) (by have := lt_of_get hy; omega)).trans (slotCells_get hy).1, (h2.cellAt (j * 2 + 1) (by have := lt_of_get hy; omega)).trans (slotCells_get hy).2⟩
    have HC : Hid (∀ (j : Nat) (sl : Sl), s.slots[j]? = some sl → w.cell? ⟨g, j * 2, none⟩ = some (.int .u32 sl.uses) ∧ w.cell? ⟨g, j * 2 + 1, none⟩ = some (ptrOf sl.obj)) := hcell
    have HU : Hid (∀ (n : Nat) (sl : Sl), s.slots[n]? = some sl → sl.uses ≤ 1000000) := hu
    unfold maxLen at hc2
    clear h2 hcell hP h hu hg
    go_enter Try.func35, Try.ntmps35
    go_wp2_with fail
    go_loopw [3, 11] (fun v i wr => ∃ k : Nat, k ≤ s.slots.length ∧ i = .int .i64 k ∧ wr.ownsRow w.heap.size 51 1 v (allTo s.slots k).length ((allTo s.slots k).map (Value.int .u64)) ∧ Below w.heap.size w wr) (fun _ i _ => s.slots.length - (intOf i).toNat)
    case atStart => exact ⟨0, by omega, rfl, by rw [show allTo s.slots 0 = [] from by simp [allTo, allFrom]]; exact World.ownsRow_nil _ _ _ _, Below.refl _ _⟩
    case round =>
      obtain ⟨k, hk, rfl, hown, hnx⟩ := hrel
      have hle := allTo_le s.slots k
      by_cases hlt : k < s.slots.length
      · obtain ⟨sl, hsl⟩ : ∃ sl, s.slots[k]? = some sl := ⟨_, List.getElem?_eq_getElem hlt⟩
        obtain ⟨q0, q1⟩ := HC.out k sl hsl
        have e0 := (hnx.cell (p := ⟨g, k * 2, none⟩) hgl).trans q0
        have e1 := (hnx.cell (p := ⟨g, k * 2 + 1, none⟩) hgl).trans q1
        have husl := HU.out k sl hsl
        have HS : Hid (allTo s.slots (k + 1) = allTo s.slots k ++ if sl.obj.isSome then [refN sl.uses k] else []) := allTo_succ s.slots k sl hsl
        have hsz := hnx.size
        clear q0 q1 hsl
        obtain ⟨us, ob⟩ := sl
        simp only at e0 e1 husl HS
        obtain ⟨ti, hti, hz0, hz1, hz2⟩ := info_parts Try.info51
        cases ob with
        | none =>
          simp only [ptrOf] at e1
          have HS2 : Hid (allTo s.slots (k + 1) = allTo s.slots k) := by show allTo s.slots (k + 1) = allTo s.slots k; simpa using HS.out
          clear HS
          go_wp2
          go_roundw
          case rel => exact ⟨k + 1, by omega, by go_num, by rw [HS2.out]; exact hown.alloc _, hnx.alloc hsz _⟩
          case measure => simp [intOf]; omega
        | some x =>
          obtain ⟨bo, oo⟩ := x
          simp only [ptrOf] at e1
          have HS2 : Hid (allTo s.slots (k + 1) = allTo s.slots k ++ [refN us k]) := by show allTo s.slots (k + 1) = allTo s.slots k ++ [refN us k]; simpa using HS.out
          clear HS
          go_wp2_with fail
          refine (of_any _ _ (by omega) (by omega) (by omega) (by omega) _).mono ?_
          rintro e wx ⟨rfl, rfl⟩
          have hown1 := hown.alloc (.cells #[.int .u32 us, .pointer (some ⟨bo, 0, none⟩)] 113)
          have hnx1 := hnx.alloc hsz (.cells #[.int .u32 us, .pointer (some ⟨bo, 0, none⟩)] 113)
          have hr : ((us : Int) * 4294967296 + k) = refN us k := rfl
          rw [hr]
          generalize hrr : refN us k = R at *
          have HR : Hid (refN us k = R) := hrr
          clear hrr hr hown hnx e0 e1
          generalize wr.alloc (.cells #[.int .u32 us, .pointer (some ⟨bo, 0, none⟩)] 113) = W1 at *
          have hs1 := hnx1.size
          go_wp2_with (at_builtin; refine wpList_append_own _ rfl (.tmp 19) (.tmp 25) 28 rfl w.heap.size 51 ti _ 1 8 Try.underlying28 hti hz0 hz1 hz2 rfl (by decide) _ (allTo s.slots k).length _ rfl (hown1.alloc _) ⟨W1.heap.size, 0, none⟩ 1 1 [.int .u64 R] rfl rfl one_news (by intro u hu; simp at hu; subst hu; rfl) (by unfold maxLen; omega) (by omega) (by simp; omega) ?_)
          intro v7 w7 hown7 hgr7 _
          have hnx7 : Below w.heap.size w w7 := (hnx1.alloc hs1 _).grown hgr7 (by simp; omega) (fun j hj => (hown1.lt j hj).1)
          have hown8 : w7.ownsRow w.heap.size 51 1 v7 (allTo s.slots (k + 1)).length ((allTo s.slots (k + 1)).map (Value.int .u64)) := by
            rw [HS2.out]
            simpa using hown7
          clear hown7 hgr7 hown1 hnx1
          go_wp2
          go_roundw
          case rel => exact ⟨k + 1, by omega, by go_num, hown8, hnx7⟩
          case measure => simp [intOf]; omega
      · have : k = s.slots.length := by omega
        subst this
        go_wp2
        go_ret
        exact ⟨_, rfl, hown, hnx⟩
theorem clone_row {base : Nat} {w : World} {v : Value} {zs : List Int} (h : w.ownsRow base 51 1 v zs.length (zs.map (Value.int .u64))) (hl : zs.length ≤ 1000000) :
    Calls Try.prog 36 #[v] w fun e w' => ∃ v', e = .returned v' ∧ w'.ownsRow w.heap.size 51 1 v' zs.length (zs.map (Value.int .u64)) ∧ Below w.heap.size w w' := by
  rcases h.2 with ⟨rfl, h0⟩ | ⟨g, cap, cur, rfl, hb, hg, hn, hm, hs, ht⟩
  · refine Calls.mono (AnyE.slices_Clone_nil Try.laysSlE041_f36 0 0 w) ?_
    rintro e w' ⟨rfl, rfl⟩
    exact ⟨_, rfl, by rw [h0, List.length_eq_zero_iff.1 h0]; exact World.ownsRow_nil _ _ _ _, Below.refl _ _⟩
  · obtain ⟨ti, hti, hz0, hz1, hz2⟩ := info_parts Try.info51
    refine Calls.mono (AnyE.slices_Clone Try.laysSlE041_f36 ti (.int .u64 0) 1 8 hti hz0 hz1 hz2 rfl (by decide) Try.sizeOf51 g 0 zs.length cap (zs.map (Value.int .u64)) w (by simp) (by unfold maxLen; omega) (by omega) (fun j u hj => ?_) (ints_oneCell _ _)) ?_
    · rw [Nat.zero_add, h.cellAt j (by have := lt_of_get hj; simpa using this)]
      exact hj
    · rintro e w' ⟨v', rfl, ho, _, hb⟩
      exact ⟨v', rfl, ho, hb⟩
/-- By slots. -/
def cmpR (x y : Int) : Int := x % 4294967296 - y % 4294967296
theorem enters38 (args : Array Value) (w : World) : (callFunc 38 args).run Try.prog w = .ok (.enter 38 args) w := by kernel_rfl
theorem slot_all (n : Int) (w : World) : Calls Try.prog 39 #[.int .u64 n] w fun e w' => e = .returned (.int .u32 (n % 4294967296)) ∧ w' = w := by
  go_enter Try.func39, Try.ntmps39
  go_wp2
  go_ret
  exact ⟨rfl, rfl⟩
theorem cmp_all (x y : Int) (w : World) : Calls Try.prog 38 #[.int .u64 x, .int .u64 y] w fun e w' => e = .returned (.int .i64 (cmpR x y)) ∧ w' = w := by
  unfold cmpR
  obtain ⟨a, ha⟩ : ∃ a, a = x % 4294967296 := ⟨_, rfl⟩
  obtain ⟨b, hb⟩ : ∃ b, b = y % 4294967296 := ⟨_, rfl⟩
  have ha0 : 0 ≤ a ∧ a ≤ 4294967295 := by omega
  have hb0 : 0 ≤ b ∧ b ≤ 4294967295 := by omega
  have C1 : Hid (∀ w, Calls Try.prog 39 #[.int .u64 x] w fun e w' => e = .returned (.int .u32 a) ∧ w' = w) := fun w => by rw [ha]; exact slot_all x w
  have C2 : Hid (∀ w, Calls Try.prog 39 #[.int .u64 y] w fun e w' => e = .returned (.int .u32 b) ∧ w' = w) := fun w => by rw [hb]; exact slot_all y w
  rw [← ha, ← hb]
  clear ha hb
  go_enter Try.func38, Try.ntmps38
  go_wp2_with fail
  refine (C1.out _).mono ?_
  rintro e w ⟨rfl, rfl⟩
  go_wp2_with fail
  refine (C2.out _).mono ?_
  rintro e w ⟨rfl, rfl⟩
  go_wp2
  go_ret
  exact ⟨rfl, rfl⟩
theorem ltR (x y : Int) : ltOf cmpR x y = decide (x % 4294967296 < y % 4294967296) := by
  unfold ltOf cmpR
  apply decide_eq_decide.2
  omega
theorem swoR : SWO (ltOf cmpR) :=
  ⟨fun x => by rw [ltR]; simp, fun x y z h1 h2 => by rw [ltR, decide_eq_true_eq] at *; omega, fun x y z h1 h2 => by rw [ltR, decide_eq_false_iff_not] at *; omega⟩
theorem grown_sortWorld {enc : Int → Value} {w : World} {g m : Nat} {d : Array Int} {os : Array Obj} : w.grownBy (sortWorld enc w g 0 m d os) (some g) := by
  have h1 : w.grownBy (putRow enc (Sort.ahead w m) g 0 d) (some g) := grown_putRow
  refine ⟨h1.os, h1.tape, h1.output, by have := h1.size; show _ ≤ (grow _ os).heap.size; rw [size_grow]; omega, fun k hk hne => ?_⟩
  unfold sortWorld
  rw [heap_grow_old _ _ (Nat.lt_of_lt_of_le hk h1.size)]
  exact h1.block k hk hne
theorem ownsRow_grow {base e size n : Nat} {w : World} {v : Value} {xs : List Value} (h : w.ownsRow base e size v n xs) (os : Array Obj) : (grow w os).ownsRow base e size v n xs := by
  refine ⟨h.1, ?_⟩
  rcases h.2 with h0 | ⟨g, cap, cur, rfl, hb, hg, r⟩
  · exact .inl h0
  · exact .inr ⟨g, cap, cur, rfl, hb, by rw [heap_grow_old _ _ (lt_of_block hg)]; exact hg, r⟩
/-- The row behind the sort: what it held, by slots. -/
theorem sort_row {base : Nat} {w : World} {v : Value} {zs : List Int} (h : w.ownsRow base 51 1 v zs.length (zs.map (Value.int .u64))) (hl : zs.length ≤ 1000000) :
    Calls Try.prog 37 #[v, .func (.func 38) #[] #[]] w fun e w' => e = .returned (.tuple #[]) ∧ ∃ ys : List Int, ys.Perm zs ∧ (ys.Pairwise fun a b => cmpR b a ≥ 0) ∧ w'.ownsRow base 51 1 v ys.length (ys.map (Value.int .u64)) ∧ w.grownBy w' v.ownBlock := by
  by_cases h0 : zs.length = 0
  · obtain rfl : zs = [] := List.length_eq_zero_iff.1 h0
    obtain ⟨ao, cap, rfl, _, _⟩ := row_shape h
    refine Calls.mono (AnyF.slices_SortFunc_none { Try.laysSlF6_f37 with } ao cap (.func (.func 38) #[] #[]) w) ?_
    rintro e w' ⟨rfl, rfl⟩
    exact ⟨rfl, [], List.Perm.refl _, List.Pairwise.nil, h, World.grownBy.refl _ _⟩
  · obtain ⟨g, cap, rfl, hb, hlt, hn, hm, _, hH⟩ := holds_of_ownsRow h (by rintro rfl; rcases h.2 with ⟨_, h0⟩ | ⟨g, cap, cur, h0, _⟩; omega; simp at h0)
    have hc := Any.slices_SortFunc Try.laysSlF6_f37 (Value.int .u64) (fun _ => rfl) cmpR swoR 38 #[] g 0 cap zs.toArray w enters38 (fun m os dk hs x y => (cmp_all x y _).mono fun e w' ⟨he, hw⟩ => ⟨he, 0, #[], by rw [hw, grow_empty]; rfl⟩) hH hlt (by simp; omega)
    refine Calls.mono hc ?_
    rintro e w' ⟨rfl, d', m, os, ⟨p1, p2, p3⟩, hs, rfl⟩
    have hsz : d'.size = zs.length := by simpa using p1
    have hperm : d'.toList.Perm zs := by
      have := p3
      simp only [Array.toList_extract, List.size_toArray] at this
      rw [List.extract, List.extract] at this
      simpa [List.take_of_length_le, hsz] using this
    refine ⟨rfl, d'.toList, hperm, ?_, ?_, grown_sortWorld⟩
    · rw [List.pairwise_iff_getElem]
      intro i j hi hj hij
      have := hs i j (Nat.zero_le _) hij (by simpa using (by simpa [hsz] using hj : j < zs.length))
      simp only [ltOf, decide_eq_false_iff_not] at this
      rw [getElem!_pos d' j (by simpa using hj), getElem!_pos d' i (by simpa using hi)] at this
      simp only [Array.getElem_toList]
      omega
    · have := ownsRow_putRow (q := m) (k := zs.length) (ys := d'.toList) h (by simpa using hsz) (Nat.le_refl _)
      rw [List.take_of_length_le (by simp [hsz])] at this
      simpa [sortWorld, hsz] using ownsRow_grow this os
theorem allEq_self (l : List Int) : Lib.allEq (fun a b => a == b) l l = true := by
  induction l with
  | nil => rfl
  | cons x l ih => simp [Lib.allEq, ih]
theorem equal_rows {b1 b2 : Nat} {w : World} {v1 v2 : Value} {zs : List Int} (h1 : w.ownsRow b1 51 1 v1 zs.length (zs.map (Value.int .u64))) (h2 : w.ownsRow b2 51 1 v2 zs.length (zs.map (Value.int .u64))) (hl : zs.length ≤ 1000000) :
    Calls Try.prog 20 #[v1, v2] w fun e w' => e = .returned (.bool true) ∧ ∃ q, w' = w.drewN q := by
  by_cases h0 : zs.length = 0
  · obtain ⟨a1, c1, rfl, _, _⟩ := row_shape h1
    obtain ⟨a2, c2, rfl, _, _⟩ := row_shape h2
    rw [h0]
    go_enter Try.func20, Try.ntmps20
    go_wp2_with fail
    first | (go_quiet (fail); go_wp2_with fail) | skip
    refine wp_loop_rounds 1 ?_
    rw [rounds_succ]
    go_wp2
    go_ret
    exact ⟨rfl, 0, rfl⟩
  · obtain ⟨g1, cap1, rfl, hb1, hlt1, hn1, hm1, _, hH1⟩ := holds_of_ownsRow h1 (by rintro rfl; rcases h1.2 with ⟨_, h0⟩ | ⟨g, cap, cur, h0, _⟩; omega; simp at h0)
    obtain ⟨g2, cap2, rfl, hb2, hlt2, hn2, hm2, _, hH2⟩ := holds_of_ownsRow h2 (by rintro rfl; rcases h2.2 with ⟨_, h0⟩ | ⟨g, cap, cur, h0, _⟩; omega; simp at h0)
    refine Calls.mono (AnyE.slices_Equal Try.laysSlE33_f20 (Value.int .u64) (fun a b => a == b) (NeqAt.int _ _ .u64) g1 0 zs.length cap1 g2 0 zs.length cap2 zs zs w (Nat.le_refl _) (Nat.le_refl _) (by omega) (by omega) (fun j hj => by have := (hH1 j (by simpa using hj)).1; simpa using this) (fun j hj => by have := (hH2 j (by simpa using hj)).1; simpa using this)) ?_
    rintro e w' ⟨rfl, q, rfl⟩
    exact ⟨ret_bool (allEq_self _), q, rfl⟩
theorem Arn.below {base ab : Nat} {w w' : World} {s : St} (h : Arn base ab w s) (hb : Below w.heap.size w w') : Arn base ab w' s :=
  h.kept fun k cs t hk _ => hb.block k (lt_of_block hk)
theorem row_below {base e size n : Nat} {w w' : World} {v : Value} {xs : List Value} (h : w.ownsRow base e size v n xs) (hb : Below w.heap.size w w') : w'.ownsRow base e size v n xs := by
  refine ⟨h.1, ?_⟩
  rcases h.2 with h0 | ⟨g, cap, cur, rfl, hbb, hg, r⟩
  · exact .inl h0
  · exact .inr ⟨g, cap, cur, rfl, hbb, (hb.block g (lt_of_block hg)).trans hg, r⟩
theorem below_drewN {B : Nat} {a w : World} (h : Below B a w) (q : Nat) : Below B a (w.drewN q) := ⟨h.os, h.tape, h.output, h.size, h.block⟩
end Go.Proofs.Ytbbmcggalffecaa

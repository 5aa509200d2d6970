/-
 VSort, VHeld, joined.
 Conditions: as each theorem says.
-/
import Derived.Test.YtenfphbhofibjaaGreatDoorZJVa
import Derived.Lib.OwnBridge
set_option linter.unusedVariables false
namespace Go.Proofs.YtenfphbhofibjaaGreatDoor
open Go.ChangeShapes Go.WideShapes Go.ChangeAt Go.RowKit Go.Maps Go.Sort Go.Shelf
instance : Inhabited Vl := ⟨⟨0, 0, ⟨#[]⟩⟩⟩
theorem toList_inj {a b : ByteArray} (h : a.toList = b.toList) : a = b := by
 have h2 : (a == b) = true := by rw [beq_toListBytes, h]; simp
 obtain ⟨x⟩ := a
 obtain ⟨y⟩ := b
 have : (x == y) = true := h2
 rw [eq_of_beq this]
def cmpV (x y : Vl) : Int := ordV x.k x.n x.s y.k y.n y.s
def trip (x : Vl) : Int × Int × List UInt8 := (x.k, x.n, x.s.toList)
theorem trip_inj {x y : Vl} (h : trip x = trip y) : x = y := by
 obtain ⟨a, b, c⟩ := x
 obtain ⟨d, e, f⟩ := y
 simp only [trip, Prod.mk.injEq] at h
 obtain ⟨rfl, rfl, h⟩ := h
 rw [toList_inj h]
theorem cmpV_is (x y : Vl) : cmpV x y = ordT (trip x) (trip y) := rfl
theorem ltV (x y : Vl) : ltOf cmpV x y = decide (ordT (trip x) (trip y) < 0) := by
 unfold ltOf
 rw [cmpV_is]
theorem swoV : SWO (ltOf cmpV) := by
 refine ⟨fun x => ?_, fun x y z h1 h2 => ?_, fun x y z h1 h2 => ?_⟩
 ·rw [ltV, ordT_is.refl]; rfl
 ·rw [ltV, decide_eq_true_eq] at *
  exact ordT_is.strict _ _ _ h1 (by omega)
 ·rw [ltV, decide_eq_false_iff_not] at *
  have a1 := ordT_is.anti (trip x) (trip y)
  have a2 := ordT_is.anti (trip y) (trip z)
  have a3 := ordT_is.anti (trip x) (trip z)
  have := ordT_is.trans (trip z) (trip y) (trip x) (by omega) (by omega)
  omega
theorem totV (x y : Vl) (h1 : ltOf cmpV x y = false) (h2 : ltOf cmpV y x = false) : x = y := by
 rw [ltV, decide_eq_false_iff_not] at *
 have a1 := ordT_is.anti (trip x) (trip y)
 exact trip_inj ((ordT_is.eq0 _ _).1 (by omega))
def leV (x y : Vl) : Bool := !(ltOf cmpV) y x
def sortK (l : List Vl) : List Vl := l.mergeSort leV
theorem leV_trans (a b c : Vl) (h1 : leV a b = true) (h2 : leV b c = true) : leV a c = true := by
 simp only [leV, Bool.not_eq_true'] at *
 exact swoV.3 c b a h2 h1
theorem leV_total (a b : Vl) : (leV a b || leV b a) = true := by
 simp only [leV, ltV]
 have a1 := ordT_is.anti (trip a) (trip b)
 by_cases h : ordT (trip b) (trip a) < 0
 ·have : ¬ ordT (trip a) (trip b) < 0 := by omega
  simp [this]
 ·simp [h]
theorem leV_anti (a b : Vl) (h1 : leV a b = true) (h2 : leV b a = true) : a = b := by
 simp only [leV, Bool.not_eq_true'] at *
 exact totV a b h2 h1
theorem sortK_perm {l l' : List Vl} (h : l.Perm l') : sortK l = sortK l' :=
 List.Perm.eq_of_pairwise (le := fun a b => leV a b = true) (fun a b _ _ h1 h2 => leV_anti a b h1 h2) (List.pairwise_mergeSort leV_trans leV_total l) (List.pairwise_mergeSort leV_trans leV_total l') (((List.mergeSort_perm l leV).trans h).trans (List.mergeSort_perm l' leV).symm)
theorem sortK_length (l : List Vl) : (sortK l).length = l.length := by simp [sortK]
theorem flatK_flat (l : List Vl) : flatK Vl.list 3 l.toArray = (flat l).toArray := by
 apply Array.ext
 ·simp [flat_length]
 ·intro t h1 h2
  have ht : t < l.length * 3 := by simpa using h1
  have hi : t / 3 < l.length := by omega
  obtain ⟨v, hv⟩ : ∃ v, l[t / 3]? = some v := ⟨_, List.getElem?_eq_getElem hi⟩
  have hg := flat_get hv
  have e1 : (flatK Vl.list 3 l.toArray)[t] = (Vl.list v)[t % 3]! := by
   have := get_flatK Vl.list 3 l.toArray t (by simpa using ht)
   rw [getElem!_pos _ t h1] at this
   rw [this]
   have : l.toArray[t / 3]! = v := by rw [getElem!_pos _ _ (by simpa using hi)]; simpa using (List.getElem?_eq_some_iff.1 hv).2
   rw [this]
  rw [e1]
  have e2 : (flat l)[t]? = some ((Vl.list v)[t % 3]!) := by
   have hc : t % 3 = 0 ∨ t % 3 = 1 ∨ t % 3 = 2 := by omega
   rcases hc with hc | hc | hc
   ·rw [hc, show t = t / 3 * 3 from by omega, hg.1]; rfl
   ·rw [hc, show t = t / 3 * 3 + 1 from by omega, hg.2.1]; rfl
   ·rw [hc, show t = t / 3 * 3 + 2 from by omega, hg.2.2]; rfl
  have := (List.getElem?_eq_some_iff.1 e2).2
  simpa using this.symm
theorem holdsK_of_row {w : World} {base : Nat} {e : TypeId} {g n cap : Nat} {l : List Vl} (h : w.ownsRow base e 3 (.slice (some ⟨g, 0, none⟩) n cap) n (flat l)) : HoldsK Vl.list 3 w g 0 l.toArray := by
 unfold HoldsK
 rw [flatK_flat]
 intro j hj
 have hj' : j < (flat l).length := by simpa using hj
 refine ⟨?_, by have := h.frozenAt (0 + j); simpa using this⟩
 rw [Nat.zero_add, h.cellAt j (by have := h.1; omega), getElem!_pos _ j hj]
 simp [hj']
theorem row_sorted {w : World} {base : Nat} {e : TypeId} {g n cap m : Nat} {l l' : List Vl} {os : Array Obj} (h : w.ownsRow base e 3 (.slice (some ⟨g, 0, none⟩) n cap) n (flat l)) (hl : l'.length = n) :
 (sortWorldK Vl.list 3 w g 0 m l'.toArray os).ownsRow base e 3 (.slice (some ⟨g, 0, none⟩) n cap) n (flat l') := by
 refine ⟨by rw [flat_length, hl], .inr ?_⟩
 rcases h.2 with ⟨h0, _⟩ | ⟨g', cap', cur, h0, hb, hg, r1, r2, r3, r4⟩
 ·simp at h0
 ·simp at h0
  obtain ⟨rfl, rfl⟩ := h0
  refine ⟨g, cap, putCells id 0 (flatK Vl.list 3 l'.toArray) cur, rfl, hb, ?_, r1, r2, by simp [putCells, r3], ?_⟩
  ·have hlt : g < w.heap.size := (Array.getElem?_eq_some_iff.1 hg).1
   unfold sortWorldK putRowK
   rw [heap_grow_old _ _ (by simpa using hlt)]
   simp [putRow, mapBlock, Sort.ahead, Array.getElem?_modify, hg, onCells]
  ·rw [flatK_flat]
   apply List.ext_getElem?
   intro j
   have hfl := flat_length l'
   by_cases hj : j < n * 3
   ·rw [List.getElem?_take_of_lt hj]
    have hjc : j < cur.size := by rw [r3]; have := Nat.mul_le_mul_right 3 r1; omega
    have hjf : j < (flat l').length := by omega
    simp [putCells, hjc, hjf]
   ·rw [List.getElem?_eq_none (by simp; omega), List.getElem?_eq_none (by omega)]
theorem grown_sortK {w : World} {g m : Nat} {d : Array Vl} {os : Array Obj} : w.grownBy (sortWorldK Vl.list 3 w g 0 m d os) (some g) := by
 refine ⟨rfl, rfl, rfl, by simp [sortWorldK, putRowK], fun k hk hne => ?_⟩
 unfold sortWorldK putRowK
 rw [heap_grow_old _ _ (by simpa using hk)]
 have hne' : g ≠ k := fun e => hne (by rw [e])
 simp [putRow, mapBlock, Sort.ahead, Array.getElem?_modify, hne']
theorem entersOrder (args : Array Value) (w : World) : (callFunc 163 args).run Tryz.prog w = .ok (.enter 163 args) w := by kernel_rfl
theorem sort_vals {base : Nat} {w : World} {v : Value} {l : List Vl} (h : w.ownsRow base 176 3 v l.length (flat l)) (hl : l.length ≤ 1000000) :
 Calls Tryz.prog 183 #[v, .func (.func 163) #[] #[]] w fun e w' => e = .returned (.tuple #[]) ∧ w'.ownsRow base 176 3 v l.length (flat (sortK l)) ∧ w.grownBy w' v.ownBlock := by
 rcases h.2 with ⟨rfl, h0⟩ | ⟨g, cap, cur, rfl, hb, hg, _⟩
 ·obtain rfl : l = [] := List.length_eq_zero_iff.1 h0
  refine Calls.mono (AnyF.slices_SortFunc_none { Tryz.sortVals with } none 0 (.func (.func 163) #[] #[]) w) ?_
  rintro e w' ⟨rfl, rfl⟩
  exact ⟨rfl, by simpa [sortK] using h, World.grownBy.refl _ _⟩
 ·have hc := AnyQ.slices_SortFunc_total { Tryz.sortVals with } 3 (fun w => Tryz.isAgg176 w) (fun w => Tryz.sizeOf176 w) Vl.list (fun _ => rfl) (fun x v hv => by simp [Vl.list] at hv; rcases hv with rfl | rfl | rfl <;> rfl) cmpV swoV 163 #[] g 0 cap l.toArray w entersOrder (fun m os dk hs x y => order_any _ _ _ _ _ _ _) (holdsK_of_row h) (lt_of_block hg) (by simp; omega) totV
  refine Calls.mono hc ?_
  rintro e w' ⟨rfl, n, os, rfl⟩
  exact ⟨rfl, row_sorted h (sortK_length l), grown_sortK⟩
end Go.Proofs.YtenfphbhofibjaaGreatDoor
namespace Go.Proofs.YtenfphbhofibjaaGreatDoor
open Go.ChangeShapes Go.WideShapes Go.ChangeAt Go.RowKit Go.Maps Go.Sort Go.Shelf Go.Lib
theorem keys_call (mb : Option Nat) (w : World) :
 Calls Tryz.prog 162 #[.map mb] w fun e w' => e = .returned (.func (.func 184) #[] #[.pointer (some ⟨w.heap.size, 0, none⟩)]) ∧ w' = w.alloc (.cells #[.map mb] 173) :=
 (callsIn_wide (n := 9)).1 (vkeys_in 9 mb w)
theorem entersKeys (args : Array Value) (w : World) : (callFunc 184 args).run Tryz.prog w = .ok (.enter 184 args) w := by kernel_rfl
def FldsO (w : World) (r : Option Nat) (m : List (Vl × Vl)) : Prop := (r = none ∧ m = []) ∨ ∃ b, r = some b ∧ Flds w b m
theorem FldsO.kept {w w' : World} {r : Option Nat} {m : List (Vl × Vl)} (h : FldsO w r m) (hk : ∀ b, r = some b → w'.heap[b]? = w.heap[b]?) : FldsO w' r m := by
 rcases h with h | ⟨b, h1, h2⟩
 ·exact .inl h
 ·exact .inr ⟨b, h1, h2.kept (hk b h1)⟩
theorem collect_call {w : World} {r : Option Nat} {m : List (Vl × Vl)} {Bm : Nat} (h : FldsO w r m) (hl : m.length ≤ 1000000) (hB : Bm < w.heap.size) (hm : w.cell? ⟨Bm, 0, none⟩ = some (.map r)) :
 Calls Tryz.prog 182 #[.func (.func 184) #[] #[.pointer (some ⟨Bm, 0, none⟩)]] w fun e w' => ∃ (v : Value) (ss : List Vl), e = .returned v ∧ ss.Perm (m.map Prod.fst) ∧ w'.ownsRow w.heap.size 176 3 v ss.length (flat ss) ∧ Below w.heap.size w w' := by
 rcases h with ⟨rfl, rfl⟩ | ⟨b, rfl, h⟩
 ·refine Calls.mono ((callsIn_wide (n := 9)).1 (collect_in 9 (by omega) _ _ entersKeys (fun ss => ss = []) 0 (by omega) w (vkeys_none 7 (by omega) Bm w hB hm))) ?_
  rintro e w' ⟨v, ss, rfl, rfl, h1, _, h2⟩
  exact ⟨v, [], rfl, List.Perm.refl _, h1, h2⟩
 ·refine Calls.mono ((callsIn_wide (n := 9)).1 (collect_in 9 (by omega) _ _ entersKeys (fun ss => ss.Perm (m.map Prod.fst)) m.length hl w (vkeys_gives 7 (by omega) Bm b m w hB hm h))) ?_
  rintro e w' ⟨v, ss, rfl, hp, h1, _, h2⟩
  exact ⟨v, ss, rfl, hp, h1, h2⟩
theorem sorted_call {w : World} {r : Option Nat} {m : List (Vl × Vl)} {Bm : Nat} (h : FldsO w r m) (hl : m.length ≤ 1000000) (hB : Bm < w.heap.size) (hm : w.cell? ⟨Bm, 0, none⟩ = some (.map r)) :
 Calls Tryz.prog 161 #[.func (.func 184) #[] #[.pointer (some ⟨Bm, 0, none⟩)], .func (.func 163) #[] #[]] w fun e w' => ∃ v, e = .returned v ∧ w'.ownsRow w.heap.size 176 3 v m.length (flat (sortK (m.map Prod.fst))) ∧ Below w.heap.size w w' := by
 have HC : Hid (∀ w', w' = w → Calls Tryz.prog 182 #[.func (.func 184) #[] #[.pointer (some ⟨Bm, 0, none⟩)]] w' fun e w' => ∃ (v : Value) (ss : List Vl), e = .returned v ∧ ss.Perm (m.map Prod.fst) ∧ w'.ownsRow w.heap.size 176 3 v ss.length (flat ss) ∧ Below w.heap.size w w') := fun w' e => by rw [e]; exact collect_call h hl hB hm
 clear h hm
 go_enter Tryz.func161, Tryz.ntmps161
 go_wp2_with fail
 refine (HC.out _ rfl).mono ?_
 rintro e w1 ⟨v, ss, rfl, hp, h1, hb1⟩
 have hls : ss.length = m.length := by simpa using hp.length_eq
 go_wp2_with fail
 refine (sort_vals h1 (by omega)).mono ?_
 rintro e w2 ⟨rfl, h2, hg⟩
 rw [hls, sortK_perm hp] at h2
 have hb2 : Below w.heap.size w w2 := hb1.grown hg hb1.size (fun k e => (h1.lt k e).1)
 clear hg h1
 go_wp2
 go_ret
 exact ⟨v, rfl, h2, hb2⟩
def refOf (v : Vl) : Int := if v.k == 5 then v.n % 18446744073709551616 else 0
theorem ref_any (k n : Int) (s : ByteArray) (w : World) : Calls Tryz.prog 164 #[.agg #[.int .u8 k, .int .i64 n, .string s]] w fun e w' => e = .returned (.int .u64 (refOf ⟨k, n, s⟩)) ∧ w' = w.alloc (.cells #[.int .u8 k, .int .i64 n, .string s] 176) := by
 unfold refOf
 cases h : (k == 5)
 ·simpa [h] using ref_none k n s w h
 ·obtain rfl : k = 5 := by simpa using h
  simpa using ref_obj n s w
theorem refOf_bound (v : Vl) : 0 ≤ refOf v ∧ refOf v ≤ 18446744073709551615 := by
 unfold refOf
 split <;> omega
theorem isNone_any (x : Int) (w : World) : Calls Tryz.prog 166 #[.int .u64 x] w fun e w' => e = .returned (.bool (x == 0)) ∧ w' = w := by
 go_enter Tryz.func166, Tryz.ntmps166
 go_wp2
 go_ret
 exact ⟨rfl, rfl⟩
theorem isNone_q (x : Int) (w : World) : FnGives Tryz.prog 166 #[] #[.int .u64 x] (.bool (x == 0)) w :=
 (isNone_any x w).mono fun e w' ⟨h1, h2⟩ => ⟨h1, 0, by rw [h2]; rfl⟩
theorem entersNone (args : Array Value) (w : World) : (callFunc 166 args).run Tryz.prog w = .ok (.enter 166 args) w := by kernel_rfl
theorem grown_putRow {α : Type} [Inhabited α] {enc : α → Value} {w : World} {g q : Nat} {d : Array α} : w.grownBy (putRow enc (Sort.ahead w q) g 0 d) (some g) :=
 ⟨rfl, rfl, rfl, by simp [putRow, mapBlock, Sort.ahead], fun k hk hne => by
  simp [putRow, mapBlock, Sort.ahead, Array.getElem?_modify, show g ≠ k from fun e => hne (by rw [e])]⟩
theorem zeroRef (w : World) : (zeroValue 157).run Tryz.prog w = .ok (.int .u64 0) w := by kernel_rfl
theorem delNone {base : Nat} {w : World} {v : Value} {zs : List Int} (h : w.ownsRow base 157 1 v zs.length (zs.map (Value.int .u64))) (hl : zs.length ≤ 10000000) (h0 : zs ≠ []) :
 Calls Tryz.prog 165 #[v, .func (.func 166) #[] #[]] w fun e w' => ∃ v', e = .returned v' ∧ w'.ownsRow base 157 1 v' (zs.filter fun x => !(x == 0)).length ((zs.filter fun x => !(x == 0)).map (Value.int .u64)) ∧ w.grownBy w' v.ownBlock := by
 obtain ⟨g, cap, rfl, hb, hlt, hn, hm, _, hH⟩ := holds_of_ownsRow h (by rintro rfl; rcases h.2 with ⟨_, h1⟩ | ⟨g, cap, cur, h1, _⟩; exact h0 (List.length_eq_zero_iff.1 h1); simp at h1)
 have hc := AnyE.slices_DeleteFunc Tryz.delFRefs (Value.int .u64) (fun _ => rfl) (fun x => x == 0) 166 #[] entersNone 0 zeroRef g 0 cap zs.toArray w (fun W x _ => isNone_q x W) (fun n os dk x _ => isNone_q x _) hH (by simp; omega) (by simpa using hn)
 refine Calls.mono hc ?_
 rintro e w' ⟨rfl, q, rfl⟩
 have hfl : (zs.filter fun x => !(x == 0)).length ≤ zs.length := List.length_filter_le _ _
 have := ownsRow_putRow (q := q) (k := (zs.filter fun x => !(x == 0)).length) (ys := (zs.filter fun x => !(x == 0)) ++ List.replicate (zs.length - (zs.filter fun x => !(x == 0)).length) 0) h (by simp only [List.length_append, List.length_replicate]; omega) hfl
 rw [List.take_left'  rfl] at this
 exact ⟨_, rfl, by simpa using this, grown_putRow⟩
end Go.Proofs.YtenfphbhofibjaaGreatDoor

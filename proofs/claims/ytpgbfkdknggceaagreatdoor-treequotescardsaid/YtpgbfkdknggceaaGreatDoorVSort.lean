/-
  slices.SortFunc(row, arena.Order) and slices.SortedFunc(maps.Keys(m), arena.Order) over rows of values: the row in order; nothing else that was there is turned.
  Conditions: as each theorem says.
-/
import Derived.Test.YtpgbfkdknggceaaGreatDoorVApp
import Derived.Lib.OwnBridge
namespace Go.Proofs.YtpgbfkdknggceaaGreatDoor
open Go.ChangeShapes Go.WideShapes Go.ChangeAt Go.RowKit Go.Maps Go.Sort Go.Shelf
set_option linter.unusedVariables false
instance : Inhabited Vl := ⟨⟨0, 0, ⟨#[]⟩⟩⟩
theorem toList_inj {a b : ByteArray} (h : a.toList = b.toList) : a = b := by
  have h2 : (a == b) = true := by rw [beq_toListBytes, h]; simp
  obtain ⟨x⟩ := a
  obtain ⟨y⟩ := b
  have : (x == y) = true := h2
  rw [eq_of_beq this]
def cmpV (x y : Vl) : Int := ordV x.k x.n x.s y.k y.n y.s
def trip (x : Vl) : Int × Int × List UInt8 := (x.k, x.n, x.s.toList)
theorem trip_inj {x y : Vl} (h : trip x = trip y) : x = y := by
  obtain ⟨a, b, c⟩ := x
  obtain ⟨d, e, f⟩ := y
  simp only [trip, Prod.mk.injEq] at h
  obtain ⟨rfl, rfl, h⟩ := h
  rw [toList_inj h]
theorem cmpV_is (x y : Vl) : cmpV x y = ordT (trip x) (trip y) := rfl
theorem ltV (x y : Vl) : ltOf cmpV x y = decide (ordT (trip x) (trip y) < 0) := by
  unfold ltOf
  rw [cmpV_is]
theorem swoV : SWO (ltOf cmpV) := by
  refine ⟨fun x => ?_, fun x y z h1 h2 => ?_, fun x y z h1 h2 => ?_⟩
  · rw [ltV, ordT_is.refl]; rfl
  · rw [ltV, decide_eq_true_eq] at *
    exact ordT_is.strict _ _ _ h1 (by omega)
  · rw [ltV, decide_eq_false_iff_not] at *
    have a1 := ordT_is.anti (trip x) (trip y)
    have a2 := ordT_is.anti (trip y) (trip z)
    have a3 := ordT_is.anti (trip x) (trip z)
    have := ordT_is.trans (trip z) (trip y) (trip x) (by omega) (by omega)
    omega
theorem totV (x y : Vl) (h1 : ltOf cmpV x y = false) (h2 : ltOf cmpV y x = false) : x = y := by
  rw [ltV, decide_eq_false_iff_not] at *
  have a1 := ordT_is.anti (trip x) (trip y)
  exact trip_inj ((ordT_is.eq0 _ _).1 (by omega))
def leV (x y : Vl) : Bool := !(ltOf cmpV) y x
/-- Keys in order. -/
def sortK (l : List Vl) : List Vl := l.mergeSort leV
theorem leV_trans (a b c : Vl) (h1 : leV a b = true) (h2 : leV b c = true) : leV a c = true := by
  simp only [leV, Bool.not_eq_true'] at *
  exact swoV.3 c b a h2 h1
theorem leV_total (a b : Vl) : (leV a b || leV b a) = true := by
  simp only [leV, ltV]
  have a1 := ordT_is.anti (trip a) (trip b)
  by_cases h : ordT (trip b) (trip a) < 0
  · have : ¬ ordT (trip a) (trip b) < 0 := by omega
    simp [this]
  · simp [h]
theorem leV_anti (a b : Vl) (h1 : leV a b = true) (h2 : leV b a = true) : a = b := by
  simp only [leV, Bool.not_eq_true'] at *
  exact totV a b h2 h1
theorem sortK_perm {l l' : List Vl} (h : l.Perm l') : sortK l = sortK l' :=
  List.Perm.eq_of_pairwise (le := fun a b => leV a b = true) (fun a b _ _ h1 h2 => leV_anti a b h1 h2) (List.pairwise_mergeSort leV_trans leV_total l) (List.pairwise_mergeSort leV_trans leV_total l') (((List.mergeSort_perm l leV).trans h).trans (List.mergeSort_perm l' leV).symm)
theorem sortK_length (l : List Vl) : (sortK l).length = l.length := by simp [sortK]
theorem flatK_flat (l : List Vl) : flatK Vl.list 3 l.toArray = (flat l).toArray := by
  apply Array.ext
  · simp [flat_length]
  · intro t h1 h2
    have ht : t < l.length * 3 := by simpa using h1
    have hi : t / 3 < l.length := by omega
    obtain ⟨v, hv⟩ : ∃ v, l[t / 3]? = some v := ⟨_, List.getElem?_eq_getElem hi⟩
    have hg := flat_get hv
    have e1 : (flatK Vl.list 3 l.toArray)[t] = (Vl.list v)[t % 3]! := by
      have := get_flatK Vl.list 3 l.toArray t (by simpa using ht)
      rw [getElem!_pos _ t h1] at this
      rw [this]
      have : l.toArray[t / 3]! = v := by rw [getElem!_pos _ _ (by simpa using hi)]; simpa using (List.getElem?_eq_some_iff.1 hv).2
      rw [this]
    rw [e1]
    have e2 : (flat l)[t]? = some ((Vl.list v)[t % 3]!) := by
      have hc : t % 3 = 0 ∨ t % 3 = 1 ∨ t % 3 = 2 := by omega
      rcases hc with hc | hc | hc
      · rw [hc, show t = t / 3 * 3 from by omega, hg.1]; rfl
      · rw [hc, show t = t / 3 * 3 + 1 from by omega, hg.2.1]; rfl
      · rw [hc, show t = t / 3 * 3 + 2 from by omega, hg.2.2]; rfl
    have := (List.getElem?_eq_some_iff.1 e2).2
    simpa using this.symm
theorem holdsK_of_row {w : World} {base : Nat} {e : TypeId} {g n cap : Nat} {l : List Vl} (h : w.ownsRow base e 3 (.slice (some ⟨g, 0, none⟩) n cap) n (flat l)) : HoldsK Vl.list 3 w g 0 l.toArray := by
  unfold HoldsK
  rw [flatK_flat]
  intro j hj
  have hj' : j < (flat l).length := by simpa using hj
  refine ⟨?_, by have := h.frozenAt (0 + j); simpa using this⟩
  rw [Nat.zero_add, h.cellAt j (by have := h.1; omega), getElem!_pos _ j hj]
  simp [hj']
theorem row_sorted {w : World} {base : Nat} {e : TypeId} {g n cap m : Nat} {l l' : List Vl} {os : Array Obj} (h : w.ownsRow base e 3 (.slice (some ⟨g, 0, none⟩) n cap) n (flat l)) (hl : l'.length = n) :
    (sortWorldK Vl.list 3 w g 0 m l'.toArray os).ownsRow base e 3 (.slice (some ⟨g, 0, none⟩) n cap) n (flat l') := by
  refine ⟨by rw [flat_length, hl], .inr ?_⟩
  rcases h.2 with ⟨h0, _⟩ | ⟨g', cap', cur, h0, hb, hg, r1, r2, r3, r4⟩
  · simp at h0
  · simp at h0
    obtain ⟨rfl, rfl⟩ := h0
    refine ⟨g, cap, putCells id 0 (flatK Vl.list 3 l'.toArray) cur, rfl, hb, ?_, r1, r2, by simp [putCells, r3], ?_⟩
    · have hlt : g < w.heap.size := (Array.getElem?_eq_some_iff.1 hg).1
      unfold sortWorldK putRowK
      rw [heap_grow_old _ _ (by simpa using hlt)]
      simp [putRow, mapBlock, Sort.ahead, Array.getElem?_modify, hg, onCells]
    · rw [flatK_flat]
      apply List.ext_getElem?
      intro j
      have hfl := flat_length l'
      by_cases hj : j < n * 3
      · rw [List.getElem?_take_of_lt hj]
        have hjc : j < cur.size := by rw [r3]; have := Nat.mul_le_mul_right 3 r1; omega
        have hjf : j < (flat l').length := by omega
        simp [putCells, hjc, hjf]
      · rw [List.getElem?_eq_none (by simp; omega), List.getElem?_eq_none (by omega)]
theorem grown_sortK {w : World} {g m : Nat} {d : Array Vl} {os : Array Obj} : w.grownBy (sortWorldK Vl.list 3 w g 0 m d os) (some g) := by
  refine ⟨rfl, rfl, rfl, by simp [sortWorldK, putRowK], fun k hk hne => ?_⟩
  unfold sortWorldK putRowK
  rw [heap_grow_old _ _ (by simpa using hk)]
  have hne' : g ≠ k := fun e => hne (by rw [e])
  simp [putRow, mapBlock, Sort.ahead, Array.getElem?_modify, hne']
theorem entersOrder (args : Array Value) (w : World) : (callFunc 100 args).run Tryz.prog w = .ok (.enter 100 args) w := by kernel_rfl
theorem sort_vals {base : Nat} {w : World} {v : Value} {l : List Vl} (h : w.ownsRow base 112 3 v l.length (flat l)) (hl : l.length ≤ 1000000) :
    Calls Tryz.prog 115 #[v, .func (.func 100) #[] #[]] w fun e w' => e = .returned (.tuple #[]) ∧ w'.ownsRow base 112 3 v l.length (flat (sortK l)) ∧ w.grownBy w' v.ownBlock := by
  rcases h.2 with ⟨rfl, h0⟩ | ⟨g, cap, cur, rfl, hb, hg, _⟩
  · obtain rfl : l = [] := List.length_eq_zero_iff.1 h0
    refine Calls.mono (AnyF.slices_SortFunc_none { Tryz.sortVals with } none 0 (.func (.func 100) #[] #[]) w) ?_
    rintro e w' ⟨rfl, rfl⟩
    exact ⟨rfl, by simpa [sortK] using h, World.grownBy.refl _ _⟩
  · have hc := AnyQ.slices_SortFunc_total { Tryz.sortVals with } 3 (fun w => Tryz.isAgg112 w) (fun w => Tryz.sizeOf112 w) Vl.list (fun _ => rfl) (fun x v hv => by simp [Vl.list] at hv; rcases hv with rfl | rfl | rfl <;> rfl) cmpV swoV 100 #[] g 0 cap l.toArray w entersOrder (fun m os dk hs x y => order_any _ _ _ _ _ _ _) (holdsK_of_row h) (lt_of_block hg) (by simp; omega) totV
    refine Calls.mono hc ?_
    rintro e w' ⟨rfl, n, os, rfl⟩
    exact ⟨rfl, row_sorted h (sortK_length l), grown_sortK⟩
end Go.Proofs.YtpgbfkdknggceaaGreatDoor

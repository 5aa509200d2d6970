/-
  The walk of ArenaSorts (promise P3.3): it returns true for every three values, and writes nothing that was there before the call.
  Conditions: the arguments fit their kinds.
-/
import Derived.Test.YtbbmcggalffecaaOrders
import Derived.Test.YtbbmcggalffecaaInv
namespace Go.Proofs.Ytbbmcggalffecaa
open Go.ChangeShapes Go.WideShapes Go.ChangeAt Go.RowKit
set_option linter.unusedVariables false
theorem enters13 (args : Array Value) (w : World) : (callFunc 13 args).run Try.prog w = .ok (.enter 13 args) w := by kernel_rfl
theorem make_below (k n : Int) (s : ByteArray) (w : World) (hk0 : 0 ≤ k) (hk1 : k ≤ 255) (hn0 : -9223372036854775808 ≤ n) (hn1 : n ≤ 9223372036854775807) :
    Calls Try.prog 13 #[.agg #[.int .u8 k, .int .i64 n, .string s]] w fun e w' => e = .returned (.agg #[.int .u8 (k % 5), .int .i64 (mkN k n), .string (mkS k s)]) ∧ Below w.heap.size w w' :=
  (make_any k n s w hk0 hk1 hn0 hn1).mono fun e w' ⟨he, hw⟩ => ⟨he, by rw [hw]; exact ((Below.refl _ _).alloc (Nat.le_refl _) _).alloc (by simp) _⟩
theorem ready_after {md : Region.Mode} {ops : Array Oper} {listed : Array Bool} {i : Nat} {o : Oper} (h : i ∈ Region.ready md ops listed) (ho : ops[i]? = some o) (e : Edge) (he : e ∈ o.after) (hb : Region.binds md e = true) : listed.getD e.on false = true := by
  simp only [Region.ready, List.mem_filter, List.mem_range, Bool.and_eq_true, ho, Option.map_some, Option.getD_some] at h
  have := Array.all_eq_true_iff_forall_mem.1 h.2.2 e he
  simpa [hb] using this
theorem not_ready {md : Region.Mode} {ops : Array Oper} {listed : Array Bool} {i : Nat} {o : Oper} (hs : listed.size = ops.size) (hr : Region.ready md ops listed = []) (ho : ops[i]? = some o) (hd : ∀ e ∈ o.after, Region.binds md e = true → listed.getD e.on false = true) : listed.getD i false = true := by
  have hi : i < ops.size := by
    rcases Nat.lt_or_ge i ops.size with h | h
    · exact h
    · rw [Array.getElem?_eq_none h] at ho; cases ho
  have hls : listed[i]? = some listed[i] := Array.getElem?_eq_getElem (by omega)
  cases hx : listed[i] with
  | true => rw [Array.getD_eq_getD_getElem?, hls, hx]; rfl
  | false =>
    have : i ∈ Region.ready md ops listed := by
      simp only [Region.ready, List.mem_filter, List.mem_range, Bool.and_eq_true, ho, Option.map_some, Option.getD_some]
      refine ⟨hi, by rw [Array.getD_eq_getD_getElem?, hls, hx]; rfl, ?_⟩
      rw [Array.all_eq_true_iff_forall_mem]
      intro e he
      cases hb : Region.binds md e with
      | false => rfl
      | true => simpa using hd e he hb
    rw [hr] at this
    simp at this
theorem rep_getD (n i : Nat) : (Array.replicate n false).getD i false = false := by
  rw [Array.getD_eq_getD_getElem?, Array.getElem?_replicate]
  split <;> rfl
theorem got (listed : Array Bool) (i j : Nat) (hi : i < listed.size) : (listed.setIfInBounds i true).getD j false = (decide (j = i) || listed.getD j false) := by
  rw [Array.getD_eq_getD_getElem?, Array.getD_eq_getD_getElem?, Array.getElem?_setIfInBounds]
  by_cases h : i = j
  · subst h; simp [hi]
  · simp [h, Ne.symm h]
abbrev F3 (A B C : Value) (p : Nat) (u7 u8 u9 u15 u16 u17 u18 u19 u20 : Value) : Act := { tmps := #[A, B, C, .pointer (some ⟨p, 0, none⟩), .pointer (some ⟨p + 1, 0, none⟩), .pointer (some ⟨p + 2, 0, none⟩), .bool false, u7, u8, u9, undef, undef, undef, .bool true, .bool false, u15, u16, u17, u18, u19, u20, undef, undef, undef, undef, undef, undef, undef, undef, undef, undef, undef, undef, undef, undef, undef, undef, undef, undef, undef, undef, undef, undef, undef, undef, undef, undef, undef, undef, undef, undef, undef, undef, undef, undef, undef, undef, undef, undef, undef, undef, undef, undef, undef, undef, undef, undef], defers := [] }
def zero3 : Array Value := #[.int .u8 0, .int .i64 0, .string { data := #[] }]
/-- A new variable that holds its zero value, or what was stored. -/
def Cell3 (b0 : Nat) (here stored : Bool) (u : Value) (w : World) (X : Array Value) : Prop := here = true → ∃ b, u = .pointer (some ⟨b, 0, none⟩) ∧ b0 ≤ b ∧ w.heap[b]? = some (.cells (if stored then X else zero3) 42 (0, 0))
theorem Cell3.below {b0 : Nat} {h s : Bool} {u : Value} {w w' : World} {X : Array Value} (c : Cell3 b0 h s u w X) (hb : Below w.heap.size w w') : Cell3 b0 h s u w' X := fun e => by
  obtain ⟨b, h1, h2, h3⟩ := c e
  exact ⟨b, h1, h2, (hb.block b (lt_of_block h3)).trans h3⟩
theorem Cell3.alloc {b0 : Nat} {h s : Bool} {u : Value} {w : World} {X : Array Value} (c : Cell3 b0 h s u w X) (o : Obj) : Cell3 b0 h s u (w.alloc o) X := c.below ((Below.refl _ _).alloc (Nat.le_refl _) _)
/-- Three cells of one block are written. -/
def set3 (w : World) (b : Nat) (c0 c1 c2 : Value) : World := ((w.setCell ⟨b, 0, none⟩ c0).setCell ⟨b, 1, none⟩ c1).setCell ⟨b, 2, none⟩ c2
theorem set3_same {w : World} {b : Nat} {t : TypeId} {x0 x1 x2 c0 c1 c2 : Value} (h : w.heap[b]? = some (.cells #[x0, x1, x2] t (0, 0))) : (set3 w b c0 c1 c2).heap[b]? = some (.cells #[c0, c1, c2] t (0, 0)) := by
  have h1 := heap_setCell_same w b 0 _ t c0 h
  have h2 := heap_setCell_same _ b 1 _ t c1 h1
  have h3 := heap_setCell_same _ b 2 _ t c2 h2
  simpa [set3] using h3
theorem set3_other {w : World} {b k : Nat} {o : Obj} {c0 c1 c2 : Value} (h : w.heap[k]? = some o) (hk : k ≠ b) : (set3 w b c0 c1 c2).heap[k]? = some o :=
  block_set (block_set (block_set h hk c0) hk c1) hk c2
theorem set3_below {w w0 : World} {b B : Nat} {c0 c1 c2 : Value} (h : Below B w0 w) (hb : B ≤ b) : Below B w0 (set3 w b c0 c1 c2) := ((h.setCell (p := ⟨b, 0, none⟩) hb _).setCell (p := ⟨b, 1, none⟩) hb _).setCell (p := ⟨b, 2, none⟩) hb _
theorem Cell3.set_other {b0 b : Nat} {h s : Bool} {u : Value} {w : World} {X : Array Value} {c0 c1 c2 : Value} (c : Cell3 b0 h s u w X) (hn : h = true → u ≠ .pointer (some ⟨b, 0, none⟩)) : Cell3 b0 h s u (set3 w b c0 c1 c2) X := fun e => by
  obtain ⟨b', h1, h2, h3⟩ := c e
  exact ⟨b', h1, h2, set3_other h3 (fun e2 => hn e (by rw [h1, e2]))⟩
structure SI (A B C : Value) (p : Nat) (W1 : World) (x y z : Value) (X Y Z : Array Value) (l : Nat → Bool) (a : Act) (w : World) : Prop where
  ex : ∃ u7 u8 u9 u15 u16 u17 u18 u19 u20, a = F3 A B C p u7 u8 u9 u15 u16 u17 u18 u19 u20 ∧ (l 0 = true → u15 = x) ∧ (l 1 = true → u16 = .agg X) ∧ (l 2 = true → u17 = y) ∧ (l 3 = true → u18 = .agg Y) ∧ (l 4 = true → u19 = z) ∧ (l 5 = true → u20 = .agg Z) ∧
    Cell3 W1.heap.size (l 6) (l 9) u7 w X ∧ Cell3 W1.heap.size (l 7) (l 10) u8 w Y ∧ Cell3 W1.heap.size (l 8) (l 11) u9 w Z ∧ (l 6 = true → l 7 = true → u7 ≠ u8) ∧ (l 6 = true → l 8 = true → u7 ≠ u9) ∧ (l 7 = true → l 8 = true → u8 ≠ u9)
  bel : Below W1.heap.size W1 w
theorem new_ne {b0 : Nat} {h s : Bool} {u : Value} {w : World} {X : Array Value} (c : Cell3 b0 h s u w X) (e : h = true) : u ≠ .pointer (some ⟨w.heap.size, 0, none⟩) := by
  obtain ⟨b, h1, h2, h3⟩ := c e
  rw [h1]
  intro e2
  simp at e2
  have := lt_of_block h3
  omega
section
variable {A B C : Value} {p : Nat} {W1 w : World} {x y z : Value} {X Y Z : Array Value} {l : Nat → Bool} {a : Act}
theorem SI.op0 (h : SI A B C p W1 x y z X Y Z l a w) : SI A B C p W1 x y z X Y Z (fun j => decide (j = 0) || l j) (a.put (some 15) x) w := by
  obtain ⟨⟨u7, u8, u9, u15, u16, u17, u18, u19, u20, rfl, h15, h16, h17, h18, h19, h20, c7, c8, c9, d78, d79, d89⟩, bel⟩ := h
  exact ⟨⟨u7, u8, u9, x, u16, u17, u18, u19, u20, rfl, fun _ => rfl, fun e => h16 (by simpa using e), fun e => h17 (by simpa using e), fun e => h18 (by simpa using e), fun e => h19 (by simpa using e), fun e => h20 (by simpa using e), by simpa using c7, by simpa using c8, by simpa using c9, by simpa using d78, by simpa using d79, by simpa using d89⟩, bel⟩
theorem SI.op2 (h : SI A B C p W1 x y z X Y Z l a w) : SI A B C p W1 x y z X Y Z (fun j => decide (j = 2) || l j) (a.put (some 17) y) w := by
  obtain ⟨⟨u7, u8, u9, u15, u16, u17, u18, u19, u20, rfl, h15, h16, h17, h18, h19, h20, c7, c8, c9, d78, d79, d89⟩, bel⟩ := h
  exact ⟨⟨u7, u8, u9, u15, u16, y, u18, u19, u20, rfl, fun e => h15 (by simpa using e), fun e => h16 (by simpa using e), fun _ => rfl, fun e => h18 (by simpa using e), fun e => h19 (by simpa using e), fun e => h20 (by simpa using e), by simpa using c7, by simpa using c8, by simpa using c9, by simpa using d78, by simpa using d79, by simpa using d89⟩, bel⟩
theorem SI.op4 (h : SI A B C p W1 x y z X Y Z l a w) : SI A B C p W1 x y z X Y Z (fun j => decide (j = 4) || l j) (a.put (some 19) z) w := by
  obtain ⟨⟨u7, u8, u9, u15, u16, u17, u18, u19, u20, rfl, h15, h16, h17, h18, h19, h20, c7, c8, c9, d78, d79, d89⟩, bel⟩ := h
  exact ⟨⟨u7, u8, u9, u15, u16, u17, u18, z, u20, rfl, fun e => h15 (by simpa using e), fun e => h16 (by simpa using e), fun e => h17 (by simpa using e), fun e => h18 (by simpa using e), fun _ => rfl, fun e => h20 (by simpa using e), by simpa using c7, by simpa using c8, by simpa using c9, by simpa using d78, by simpa using d79, by simpa using d89⟩, bel⟩
theorem SI.op1 {w' : World} (h : SI A B C p W1 x y z X Y Z l a w) (hb : Below w.heap.size w w') : SI A B C p W1 x y z X Y Z (fun j => decide (j = 1) || l j) (a.put (some 16) (.agg X)) w' := by
  obtain ⟨⟨u7, u8, u9, u15, u16, u17, u18, u19, u20, rfl, h15, h16, h17, h18, h19, h20, c7, c8, c9, d78, d79, d89⟩, bel⟩ := h
  exact ⟨⟨u7, u8, u9, u15, .agg X, u17, u18, u19, u20, rfl, fun e => h15 (by simpa using e), fun _ => rfl, fun e => h17 (by simpa using e), fun e => h18 (by simpa using e), fun e => h19 (by simpa using e), fun e => h20 (by simpa using e), by simpa using c7.below hb, by simpa using c8.below hb, by simpa using c9.below hb, by simpa using d78, by simpa using d79, by simpa using d89⟩, bel.trans (hb.mono bel.size)⟩
theorem SI.op3 {w' : World} (h : SI A B C p W1 x y z X Y Z l a w) (hb : Below w.heap.size w w') : SI A B C p W1 x y z X Y Z (fun j => decide (j = 3) || l j) (a.put (some 18) (.agg Y)) w' := by
  obtain ⟨⟨u7, u8, u9, u15, u16, u17, u18, u19, u20, rfl, h15, h16, h17, h18, h19, h20, c7, c8, c9, d78, d79, d89⟩, bel⟩ := h
  exact ⟨⟨u7, u8, u9, u15, u16, u17, .agg Y, u19, u20, rfl, fun e => h15 (by simpa using e), fun e => h16 (by simpa using e), fun e => h17 (by simpa using e), fun _ => rfl, fun e => h19 (by simpa using e), fun e => h20 (by simpa using e), by simpa using c7.below hb, by simpa using c8.below hb, by simpa using c9.below hb, by simpa using d78, by simpa using d79, by simpa using d89⟩, bel.trans (hb.mono bel.size)⟩
theorem SI.op5 {w' : World} (h : SI A B C p W1 x y z X Y Z l a w) (hb : Below w.heap.size w w') : SI A B C p W1 x y z X Y Z (fun j => decide (j = 5) || l j) (a.put (some 20) (.agg Z)) w' := by
  obtain ⟨⟨u7, u8, u9, u15, u16, u17, u18, u19, u20, rfl, h15, h16, h17, h18, h19, h20, c7, c8, c9, d78, d79, d89⟩, bel⟩ := h
  exact ⟨⟨u7, u8, u9, u15, u16, u17, u18, u19, .agg Z, rfl, fun e => h15 (by simpa using e), fun e => h16 (by simpa using e), fun e => h17 (by simpa using e), fun e => h18 (by simpa using e), fun e => h19 (by simpa using e), fun _ => rfl, by simpa using c7.below hb, by simpa using c8.below hb, by simpa using c9.below hb, by simpa using d78, by simpa using d79, by simpa using d89⟩, bel.trans (hb.mono bel.size)⟩
theorem SI.op6 (h : SI A B C p W1 x y z X Y Z l a w) (hst : l 9 = false) : SI A B C p W1 x y z X Y Z (fun j => decide (j = 6) || l j) (a.put (some 7) (.pointer (some ⟨w.heap.size, 0, none⟩))) (w.alloc (.cells #[.int .u8 0, .int .i64 0, .string { data := #[] }] 42)) := by
  obtain ⟨⟨u7, u8, u9, u15, u16, u17, u18, u19, u20, rfl, h15, h16, h17, h18, h19, h20, c7, c8, c9, d78, d79, d89⟩, bel⟩ := h
  exact ⟨⟨.pointer (some ⟨w.heap.size, 0, none⟩), u8, u9, u15, u16, u17, u18, u19, u20, rfl, fun e => h15 (by simpa using e), fun e => h16 (by simpa using e), fun e => h17 (by simpa using e), fun e => h18 (by simpa using e), fun e => h19 (by simpa using e), fun e => h20 (by simpa using e), fun _ => ⟨w.heap.size, rfl, bel.size, (heap_alloc_new w _).trans (by simp [hst, zero3])⟩, by simpa using c8.alloc _, by simpa using c9.alloc _, fun _ e2 e3 => new_ne c8 (by simpa using e2) e3.symm, fun _ e2 e3 => new_ne c9 (by simpa using e2) e3.symm, by simpa using d89⟩, bel.alloc bel.size _⟩
theorem SI.op7 (h : SI A B C p W1 x y z X Y Z l a w) (hst : l 10 = false) : SI A B C p W1 x y z X Y Z (fun j => decide (j = 7) || l j) (a.put (some 8) (.pointer (some ⟨w.heap.size, 0, none⟩))) (w.alloc (.cells #[.int .u8 0, .int .i64 0, .string { data := #[] }] 42)) := by
  obtain ⟨⟨u7, u8, u9, u15, u16, u17, u18, u19, u20, rfl, h15, h16, h17, h18, h19, h20, c7, c8, c9, d78, d79, d89⟩, bel⟩ := h
  exact ⟨⟨u7, .pointer (some ⟨w.heap.size, 0, none⟩), u9, u15, u16, u17, u18, u19, u20, rfl, fun e => h15 (by simpa using e), fun e => h16 (by simpa using e), fun e => h17 (by simpa using e), fun e => h18 (by simpa using e), fun e => h19 (by simpa using e), fun e => h20 (by simpa using e), by simpa using c7.alloc _, fun _ => ⟨w.heap.size, rfl, bel.size, (heap_alloc_new w _).trans (by simp [hst, zero3])⟩, by simpa using c9.alloc _, fun e1 _ e3 => new_ne c7 (by simpa using e1) e3, by simpa using d79, fun _ e2 e3 => new_ne c9 (by simpa using e2) e3.symm⟩, bel.alloc bel.size _⟩
theorem SI.op8 (h : SI A B C p W1 x y z X Y Z l a w) (hst : l 11 = false) : SI A B C p W1 x y z X Y Z (fun j => decide (j = 8) || l j) (a.put (some 9) (.pointer (some ⟨w.heap.size, 0, none⟩))) (w.alloc (.cells #[.int .u8 0, .int .i64 0, .string { data := #[] }] 42)) := by
  obtain ⟨⟨u7, u8, u9, u15, u16, u17, u18, u19, u20, rfl, h15, h16, h17, h18, h19, h20, c7, c8, c9, d78, d79, d89⟩, bel⟩ := h
  exact ⟨⟨u7, u8, .pointer (some ⟨w.heap.size, 0, none⟩), u15, u16, u17, u18, u19, u20, rfl, fun e => h15 (by simpa using e), fun e => h16 (by simpa using e), fun e => h17 (by simpa using e), fun e => h18 (by simpa using e), fun e => h19 (by simpa using e), fun e => h20 (by simpa using e), by simpa using c7.alloc _, by simpa using c8.alloc _, fun _ => ⟨w.heap.size, rfl, bel.size, (heap_alloc_new w _).trans (by simp [hst, zero3])⟩, by simpa using d78, fun e1 _ e3 => new_ne c7 (by simpa using e1) e3, fun e1 _ e3 => new_ne c8 (by simpa using e1) e3⟩, bel.alloc bel.size _⟩
theorem SI.op9 {b : Nat} {c0 c1 c2 : Value} (h : SI A B C p W1 x y z #[c0, c1, c2] Y Z l a w) (hal : l 6 = true) (hst : l 9 = false) (hu : a.eval (.tmp 7) = .pointer (some ⟨b, 0, none⟩)) : SI A B C p W1 x y z #[c0, c1, c2] Y Z (fun j => decide (j = 9) || l j) a (set3 w b c0 c1 c2) := by
  obtain ⟨⟨u7, u8, u9, u15, u16, u17, u18, u19, u20, rfl, h15, h16, h17, h18, h19, h20, c7, c8, c9, d78, d79, d89⟩, bel⟩ := h
  obtain ⟨b', hb1, hb0, hcell⟩ := c7 hal
  have hu2 : u7 = .pointer (some ⟨b, 0, none⟩) := hu
  rw [hb1] at hu2
  simp at hu2
  subst hu2
  subst hb1
  rw [hst] at hcell
  simp [zero3] at hcell
  exact ⟨⟨.pointer (some ⟨b', 0, none⟩), u8, u9, u15, u16, u17, u18, u19, u20, rfl, fun e => h15 (by simpa using e), fun e => h16 (by simpa using e), fun e => h17 (by simpa using e), fun e => h18 (by simpa using e), fun e => h19 (by simpa using e), fun e => h20 (by simpa using e), fun _ => ⟨b', rfl, hb0, by simpa using set3_same hcell⟩, by simpa using c8.set_other (b := b') (c0 := c0) (c1 := c1) (c2 := c2) (fun e => (d78 hal e).symm), by simpa using c9.set_other (b := b') (c0 := c0) (c1 := c1) (c2 := c2) (fun e => (d79 hal e).symm), by simpa using d78, by simpa using d79, by simpa using d89⟩, set3_below bel hb0⟩
theorem SI.op10 {b : Nat} {c0 c1 c2 : Value} (h : SI A B C p W1 x y z X #[c0, c1, c2] Z l a w) (hal : l 7 = true) (hst : l 10 = false) (hu : a.eval (.tmp 8) = .pointer (some ⟨b, 0, none⟩)) : SI A B C p W1 x y z X #[c0, c1, c2] Z (fun j => decide (j = 10) || l j) a (set3 w b c0 c1 c2) := by
  obtain ⟨⟨u7, u8, u9, u15, u16, u17, u18, u19, u20, rfl, h15, h16, h17, h18, h19, h20, c7, c8, c9, d78, d79, d89⟩, bel⟩ := h
  obtain ⟨b', hb1, hb0, hcell⟩ := c8 hal
  have hu2 : u8 = .pointer (some ⟨b, 0, none⟩) := hu
  rw [hb1] at hu2
  simp at hu2
  subst hu2
  subst hb1
  rw [hst] at hcell
  simp [zero3] at hcell
  exact ⟨⟨u7, .pointer (some ⟨b', 0, none⟩), u9, u15, u16, u17, u18, u19, u20, rfl, fun e => h15 (by simpa using e), fun e => h16 (by simpa using e), fun e => h17 (by simpa using e), fun e => h18 (by simpa using e), fun e => h19 (by simpa using e), fun e => h20 (by simpa using e), by simpa using c7.set_other (b := b') (c0 := c0) (c1 := c1) (c2 := c2) (fun e => d78 e hal), fun _ => ⟨b', rfl, hb0, by simpa using set3_same hcell⟩, by simpa using c9.set_other (b := b') (c0 := c0) (c1 := c1) (c2 := c2) (fun e => (d89 hal e).symm), by simpa using d78, by simpa using d79, by simpa using d89⟩, set3_below bel hb0⟩
theorem SI.op11 {b : Nat} {c0 c1 c2 : Value} (h : SI A B C p W1 x y z X Y #[c0, c1, c2] l a w) (hal : l 8 = true) (hst : l 11 = false) (hu : a.eval (.tmp 9) = .pointer (some ⟨b, 0, none⟩)) : SI A B C p W1 x y z X Y #[c0, c1, c2] (fun j => decide (j = 11) || l j) a (set3 w b c0 c1 c2) := by
  obtain ⟨⟨u7, u8, u9, u15, u16, u17, u18, u19, u20, rfl, h15, h16, h17, h18, h19, h20, c7, c8, c9, d78, d79, d89⟩, bel⟩ := h
  obtain ⟨b', hb1, hb0, hcell⟩ := c9 hal
  have hu2 : u9 = .pointer (some ⟨b, 0, none⟩) := hu
  rw [hb1] at hu2
  simp at hu2
  subst hu2
  subst hb1
  rw [hst] at hcell
  simp [zero3] at hcell
  exact ⟨⟨u7, u8, .pointer (some ⟨b', 0, none⟩), u15, u16, u17, u18, u19, u20, rfl, fun e => h15 (by simpa using e), fun e => h16 (by simpa using e), fun e => h17 (by simpa using e), fun e => h18 (by simpa using e), fun e => h19 (by simpa using e), fun e => h20 (by simpa using e), by simpa using c7.set_other (b := b') (c0 := c0) (c1 := c1) (c2 := c2) (fun e => d79 e hal), by simpa using c8.set_other (b := b') (c0 := c0) (c1 := c1) (c2 := c2) (fun e => d89 e hal), fun _ => ⟨b', rfl, hb0, by simpa using set3_same hcell⟩, by simpa using d78, by simpa using d79, by simpa using d89⟩, set3_below bel hb0⟩
end
set_option maxRecDepth 100000 in
set_option maxHeartbeats 4000000 in
theorem sorts_any (k n k' n' k2 n2 : Int) (s s' s2 : ByteArray) (w : World) (hk0 : 0 ≤ k) (hk1 : k ≤ 255) (hn0 : -9223372036854775808 ≤ n) (hn1 : n ≤ 9223372036854775807)
    (hk0' : 0 ≤ k') (hk1' : k' ≤ 255) (hn0' : -9223372036854775808 ≤ n') (hn1' : n' ≤ 9223372036854775807) (hk02 : 0 ≤ k2) (hk12 : k2 ≤ 255) (hn02 : -9223372036854775808 ≤ n2) (hn12 : n2 ≤ 9223372036854775807) :
    Calls Try.prog 8 #[.agg #[.int .u8 k, .int .i64 n, .string s], .agg #[.int .u8 k', .int .i64 n', .string s'], .agg #[.int .u8 k2, .int .i64 n2, .string s2]] w fun e w' => e = .returned (.bool true) ∧ Below w.heap.size w w' := by
  go_enter Try.func8, Try.ntmps8
  go_wp2_with fail
  refine (awake3 _).mono ?_
  rintro e w1 ⟨rfl, B1⟩
  have hsz := B1.size
  simp at hsz
  have X1 : VAt w1 w.heap.size k n s := VAt.below (w := ((w.alloc (.cells #[.int .u8 k, .int .i64 n, .string s] 39)).alloc (.cells #[.int .u8 k', .int .i64 n', .string s'] 39)).alloc (.cells #[.int .u8 k2, .int .i64 n2, .string s2] 39)) ⟨by go_simp, by go_simp, by go_simp⟩ B1
  have Y1 : VAt w1 (w.heap.size + 1) k' n' s' := VAt.below (w := ((w.alloc (.cells #[.int .u8 k, .int .i64 n, .string s] 39)).alloc (.cells #[.int .u8 k', .int .i64 n', .string s'] 39)).alloc (.cells #[.int .u8 k2, .int .i64 n2, .string s2] 39)) ⟨by go_simp, by go_simp, by go_simp⟩ B1
  have Z1 : VAt w1 (w.heap.size + 2) k2 n2 s2 := VAt.below (w := ((w.alloc (.cells #[.int .u8 k, .int .i64 n, .string s] 39)).alloc (.cells #[.int .u8 k', .int .i64 n', .string s'] 39)).alloc (.cells #[.int .u8 k2, .int .i64 n2, .string s2] 39)) ⟨by go_simp, by go_simp, by go_simp⟩ B1
  have B2 : Below w.heap.size w w1 := ((((Below.refl _ _).alloc (Nat.le_refl _) _).alloc (by simp) _).alloc (by simp; omega) _).trans (B1.mono (by simp; omega))
  clear B1
  go_upto_region 3 with fail
  go_cut [7, 8, 9] (fun x y z wc => ∃ (b7 b8 b9 : Nat) (K N K' N' K2 N2 : Int) (S S' S2 : ByteArray), x = .pointer (some ⟨b7, 0, none⟩) ∧ y = .pointer (some ⟨b8, 0, none⟩) ∧ z = .pointer (some ⟨b9, 0, none⟩) ∧ Below w.heap.size w wc ∧ VAt wc b7 K N S ∧ VAt wc b8 K' N' S' ∧ VAt wc b9 K2 N2 S2)
  case first =>
    refine wp_region_any (by kernel_rfl) ?_
    refine wpAny_inv (I := fun listed a W => SI (.agg #[.int .u8 k, .int .i64 n, .string s]) (.agg #[.int .u8 k', .int .i64 n', .string s']) (.agg #[.int .u8 k2, .int .i64 n2, .string s2]) w.heap.size w1 (.agg #[.int .u8 k, .int .i64 n, .string s]) (.agg #[.int .u8 k', .int .i64 n', .string s']) (.agg #[.int .u8 k2, .int .i64 n2, .string s2]) #[.int .u8 (k % 5), .int .i64 (mkN k n), .string (mkS k s)] #[.int .u8 (k' % 5), .int .i64 (mkN k' n'), .string (mkS k' s')] #[.int .u8 (k2 % 5), .int .i64 (mkN k2 n2), .string (mkS k2 s2)] (fun j => listed.getD j false) a W ∧ (∀ i, 9 ≤ i → listed.getD i false = true → listed.getD 6 false = true ∧ listed.getD 7 false = true ∧ listed.getD 8 false = true)) ?_ ?_ _ _ _ _ rfl (by decide) ?_
    · intro listed a W i hs hIC hi K hK
      obtain ⟨hI, hch⟩ := hIC
      have hi1 := (ready_spec hi).1
      have hun := (ready_spec hi).2
      have hi12 : i < 12 := hi1
      have hls : i < listed.size := by omega
      have hun2 : listed.getD i false = false := by
        rw [Array.getD_eq_getD_getElem?] at hun ⊢
        rw [Array.getElem?_eq_getElem hls] at hun ⊢
        simpa using hun
      have hl : (fun j => (listed.setIfInBounds i true).getD j false) = fun j => decide (j = i) || listed.getD j false := funext fun j => got listed i j hls
      have hch2 : (9 ≤ i → listed.getD 6 false = true ∧ listed.getD 7 false = true ∧ listed.getD 8 false = true) → ∀ j, 9 ≤ j → (listed.setIfInBounds i true).getD j false = true → (listed.setIfInBounds i true).getD 6 false = true ∧ (listed.setIfInBounds i true).getD 7 false = true ∧ (listed.setIfInBounds i true).getD 8 false = true := by
        intro h9 j hj hx
        rw [got listed i j hls] at hx
        rw [got listed i 6 hls, got listed i 7 hls, got listed i 8 hls]
        by_cases hji : j = i
        · subst hji
          obtain ⟨r1, r2, r3⟩ := h9 hj
          simp [r1, r2, r3]
        · rw [decide_eq_false hji, Bool.false_or] at hx
          obtain ⟨r1, r2, r3⟩ := hch j hj hx
          simp [r1, r2, r3]
      have hI2 := hI
      have x0 := (hI.bel.cell (p := ⟨w.heap.size, 0, none⟩) X1.lt).trans X1.1
      have x1 := (hI.bel.cell (p := ⟨w.heap.size, 1, none⟩) X1.lt).trans X1.2.1
      have x2 := (hI.bel.cell (p := ⟨w.heap.size, 2, none⟩) X1.lt).trans X1.2.2
      have y0 := (hI.bel.cell (p := ⟨w.heap.size + 1, 0, none⟩) Y1.lt).trans Y1.1
      have y1 := (hI.bel.cell (p := ⟨w.heap.size + 1, 1, none⟩) Y1.lt).trans Y1.2.1
      have y2 := (hI.bel.cell (p := ⟨w.heap.size + 1, 2, none⟩) Y1.lt).trans Y1.2.2
      have z0 := (hI.bel.cell (p := ⟨w.heap.size + 2, 0, none⟩) Z1.lt).trans Z1.1
      have z1 := (hI.bel.cell (p := ⟨w.heap.size + 2, 1, none⟩) Z1.lt).trans Z1.2.1
      have z2 := (hI.bel.cell (p := ⟨w.heap.size + 2, 2, none⟩) Z1.lt).trans Z1.2.2
      have hK2 : (9 ≤ i → listed.getD 6 false = true ∧ listed.getD 7 false = true ∧ listed.getD 8 false = true) → ∀ a' w', SI (.agg #[.int .u8 k, .int .i64 n, .string s]) (.agg #[.int .u8 k', .int .i64 n', .string s']) (.agg #[.int .u8 k2, .int .i64 n2, .string s2]) w.heap.size w1 (.agg #[.int .u8 k, .int .i64 n, .string s]) (.agg #[.int .u8 k', .int .i64 n', .string s']) (.agg #[.int .u8 k2, .int .i64 n2, .string s2]) #[.int .u8 (k % 5), .int .i64 (mkN k n), .string (mkS k s)] #[.int .u8 (k' % 5), .int .i64 (mkN k' n'), .string (mkS k' s')] #[.int .u8 (k2 % 5), .int .i64 (mkN k2 n2), .string (mkS k2 s2)] (fun j => decide (j = i) || listed.getD j false) a' w' → K a' w' := fun h9 a' w' hS => hK a' w' ⟨by rw [hl]; exact hS, hch2 h9⟩
      clear hK hch2 hl
      obtain ⟨⟨u7, u8, u9, u15, u16, u17, u18, u19, u20, rfl, h15, h16, h17, h18, h19, h20, c7, c8, c9, d78, d79, d89⟩, bel⟩ := hI
      rcases (show i = 0 ∨ i = 1 ∨ i = 2 ∨ i = 3 ∨ i = 4 ∨ i = 5 ∨ i = 6 ∨ i = 7 ∨ i = 8 ∨ i = 9 ∨ i = 10 ∨ i = 11 from by omega) with rfl | rfl | rfl | rfl | rfl | rfl | rfl | rfl | rfl | rfl | rfl | rfl
      · have H9 : 9 ≤ 0 → listed.getD 6 false = true ∧ listed.getD 7 false = true ∧ listed.getD 8 false = true := by omega
        refine wpOp_step rfl (fun K' hK' => ?_)
        go_simp
        exact hK' _ _ (hK2 (by omega) _ _ (hI2.op0))
      · have H9 : 9 ≤ 1 → listed.getD 6 false = true ∧ listed.getD 7 false = true ∧ listed.getD 8 false = true := by omega
        have hdep := h15 (ready_after hi rfl ⟨0, .data⟩ (by simp) rfl)
        subst hdep
        refine wpOp_step rfl (fun K' hK' => step_callR rfl (.tmp 15) 13 39 rfl _ _ rfl enters13 (make_below k n s W (by omega) (by omega) (by omega) (by omega)) (fun W' hb => hK' _ _ (hK2 (by omega) _ _ ?_)))
        exact hI2.op1 hb
      · have H9 : 9 ≤ 2 → listed.getD 6 false = true ∧ listed.getD 7 false = true ∧ listed.getD 8 false = true := by omega
        refine wpOp_step rfl (fun K' hK' => ?_)
        go_simp
        exact hK' _ _ (hK2 (by omega) _ _ (hI2.op2))
      · have H9 : 9 ≤ 3 → listed.getD 6 false = true ∧ listed.getD 7 false = true ∧ listed.getD 8 false = true := by omega
        have hdep := h17 (ready_after hi rfl ⟨2, .data⟩ (by simp) rfl)
        subst hdep
        refine wpOp_step rfl (fun K' hK' => step_callR rfl (.tmp 17) 13 39 rfl _ _ rfl enters13 (make_below k' n' s' W (by omega) (by omega) (by omega) (by omega)) (fun W' hb => hK' _ _ (hK2 (by omega) _ _ ?_)))
        exact hI2.op3 hb
      · have H9 : 9 ≤ 4 → listed.getD 6 false = true ∧ listed.getD 7 false = true ∧ listed.getD 8 false = true := by omega
        refine wpOp_step rfl (fun K' hK' => ?_)
        go_simp
        exact hK' _ _ (hK2 (by omega) _ _ (hI2.op4))
      · have H9 : 9 ≤ 5 → listed.getD 6 false = true ∧ listed.getD 7 false = true ∧ listed.getD 8 false = true := by omega
        have hdep := h19 (ready_after hi rfl ⟨4, .data⟩ (by simp) rfl)
        subst hdep
        refine wpOp_step rfl (fun K' hK' => step_callR rfl (.tmp 19) 13 39 rfl _ _ rfl enters13 (make_below k2 n2 s2 W (by omega) (by omega) (by omega) (by omega)) (fun W' hb => hK' _ _ (hK2 (by omega) _ _ ?_)))
        exact hI2.op5 hb
      · have H9 : 9 ≤ 6 → listed.getD 6 false = true ∧ listed.getD 7 false = true ∧ listed.getD 8 false = true := by omega
        have hst : listed.getD 9 false = false := by
          cases hx : listed.getD 9 false with
          | false => rfl
          | true => exact absurd (hch 9 (by omega) hx).1 (by rw [hun2]; simp)
        refine wpOp_step rfl (fun K' hK' => ?_)
        go_simp
        exact hK' _ _ (hK2 (by omega) _ _ (hI2.op6 hst))
      · have H9 : 9 ≤ 7 → listed.getD 6 false = true ∧ listed.getD 7 false = true ∧ listed.getD 8 false = true := by omega
        have hst : listed.getD 10 false = false := by
          cases hx : listed.getD 10 false with
          | false => rfl
          | true => exact absurd (hch 10 (by omega) hx).2.1 (by rw [hun2]; simp)
        refine wpOp_step rfl (fun K' hK' => ?_)
        go_simp
        exact hK' _ _ (hK2 (by omega) _ _ (hI2.op7 hst))
      · have H9 : 9 ≤ 8 → listed.getD 6 false = true ∧ listed.getD 7 false = true ∧ listed.getD 8 false = true := by omega
        have hst : listed.getD 11 false = false := by
          cases hx : listed.getD 11 false with
          | false => rfl
          | true => exact absurd (hch 11 (by omega) hx).2.2 (by rw [hun2]; simp)
        refine wpOp_step rfl (fun K' hK' => ?_)
        go_simp
        exact hK' _ _ (hK2 (by omega) _ _ (hI2.op8 hst))
      · have H9 : 9 ≤ 9 → listed.getD 6 false = true ∧ listed.getD 7 false = true ∧ listed.getD 8 false = true := fun _ => ⟨ready_after hi rfl ⟨6, .phase⟩ (by simp) rfl, ready_after hi rfl ⟨7, .phase⟩ (by simp) rfl, ready_after hi rfl ⟨8, .phase⟩ (by simp) rfl⟩
        have hdep := h16 (ready_after hi rfl ⟨1, .data⟩ (by simp) rfl)
        have hal := ready_after hi rfl ⟨6, .data⟩ (by simp) rfl
        obtain ⟨b, hb1, hb0, hcell⟩ := c7 hal
        subst hdep
        subst hb1
        rw [hun2] at hcell
        simp only [Bool.false_eq_true, if_false, zero3] at hcell
        obtain ⟨q0, q1, q2, qf⟩ := three hcell
        refine wpOp_step rfl (fun K' hK' => ?_)
        go_simp
        exact hK' _ _ (hK2 (by omega) _ _ (hI2.op9 hal hun2 rfl))
      · have H9 : 9 ≤ 10 → listed.getD 6 false = true ∧ listed.getD 7 false = true ∧ listed.getD 8 false = true := fun _ => ⟨ready_after hi rfl ⟨6, .phase⟩ (by simp) rfl, ready_after hi rfl ⟨7, .phase⟩ (by simp) rfl, ready_after hi rfl ⟨8, .phase⟩ (by simp) rfl⟩
        have hdep := h18 (ready_after hi rfl ⟨3, .data⟩ (by simp) rfl)
        have hal := ready_after hi rfl ⟨7, .data⟩ (by simp) rfl
        obtain ⟨b, hb1, hb0, hcell⟩ := c8 hal
        subst hdep
        subst hb1
        rw [hun2] at hcell
        simp only [Bool.false_eq_true, if_false, zero3] at hcell
        obtain ⟨q0, q1, q2, qf⟩ := three hcell
        refine wpOp_step rfl (fun K' hK' => ?_)
        go_simp
        exact hK' _ _ (hK2 (by omega) _ _ (hI2.op10 hal hun2 rfl))
      · have H9 : 9 ≤ 11 → listed.getD 6 false = true ∧ listed.getD 7 false = true ∧ listed.getD 8 false = true := fun _ => ⟨ready_after hi rfl ⟨6, .phase⟩ (by simp) rfl, ready_after hi rfl ⟨7, .phase⟩ (by simp) rfl, ready_after hi rfl ⟨8, .phase⟩ (by simp) rfl⟩
        have hdep := h20 (ready_after hi rfl ⟨5, .data⟩ (by simp) rfl)
        have hal := ready_after hi rfl ⟨8, .data⟩ (by simp) rfl
        obtain ⟨b, hb1, hb0, hcell⟩ := c9 hal
        subst hdep
        subst hb1
        rw [hun2] at hcell
        simp only [Bool.false_eq_true, if_false, zero3] at hcell
        obtain ⟨q0, q1, q2, qf⟩ := three hcell
        refine wpOp_step rfl (fun K' hK' => ?_)
        go_simp
        exact hK' _ _ (hK2 (by omega) _ _ (hI2.op11 hal hun2 rfl))
    · intro listed a W hs hIC hr
      have a0 : listed.getD 0 false = true := not_ready hs hr rfl (fun e he => by simp at he)
      have a1 : listed.getD 1 false = true := not_ready hs hr rfl (by intro e he _; simp at he; rcases he with rfl <;> assumption)
      have a2 : listed.getD 2 false = true := not_ready hs hr rfl (fun e he => by simp at he)
      have a3 : listed.getD 3 false = true := not_ready hs hr rfl (by intro e he _; simp at he; rcases he with rfl | rfl <;> assumption)
      have a4 : listed.getD 4 false = true := not_ready hs hr rfl (fun e he => by simp at he)
      have a5 : listed.getD 5 false = true := not_ready hs hr rfl (by intro e he _; simp at he; rcases he with rfl | rfl <;> assumption)
      have a6 : listed.getD 6 false = true := not_ready hs hr rfl (fun e he => by simp at he)
      have a7 : listed.getD 7 false = true := not_ready hs hr rfl (fun e he => by simp at he)
      have a8 : listed.getD 8 false = true := not_ready hs hr rfl (fun e he => by simp at he)
      have a9 : listed.getD 9 false = true := not_ready hs hr rfl (by intro e he _; simp at he; rcases he with rfl | rfl | rfl | rfl | rfl | rfl | rfl | rfl | rfl | rfl | rfl | rfl <;> assumption)
      have a10 : listed.getD 10 false = true := not_ready hs hr rfl (by intro e he _; simp at he; rcases he with rfl | rfl | rfl | rfl | rfl | rfl | rfl | rfl | rfl | rfl | rfl | rfl | rfl <;> assumption)
      have a11 : listed.getD 11 false = true := not_ready hs hr rfl (by intro e he _; simp at he; rcases he with rfl | rfl | rfl | rfl | rfl | rfl | rfl | rfl | rfl | rfl | rfl | rfl | rfl | rfl <;> assumption)
      obtain ⟨⟨⟨u7, u8, u9, u15, u16, u17, u18, u19, u20, rfl, h15, h16, h17, h18, h19, h20, c7, c8, c9, d78, d79, d89⟩, bel⟩, _⟩ := hIC
      obtain ⟨b7, rfl, _, f7⟩ := c7 a6
      obtain ⟨b8, rfl, _, f8⟩ := c8 a7
      obtain ⟨b9, rfl, _, f9⟩ := c9 a8
      rw [if_pos a9] at f7
      rw [if_pos a10] at f8
      rw [if_pos a11] at f9
      obtain ⟨p0, p1, p2, _⟩ := three f7
      obtain ⟨q0, q1, q2, _⟩ := three f8
      obtain ⟨r0, r1, r2, _⟩ := three f9
      have BW := B2.trans (bel.mono B2.size)
      go_wp2_with fail
      go_meet
      case rel => exact ⟨b7, b8, b9, _, _, _, _, _, _, _, _, _, rfl, rfl, rfl, BW, ⟨p0, p1, p2⟩, ⟨q0, q1, q2⟩, r0, r1, r2⟩
    · refine ⟨⟨⟨undef, undef, undef, undef, undef, undef, undef, undef, undef, rfl, by simp, by simp, by simp, by simp, by simp, by simp, by simp [Cell3], by simp [Cell3], by simp [Cell3], by simp, by simp, by simp⟩, ⟨rfl, rfl, rfl, Nat.le_refl _, fun _ _ => rfl⟩⟩, ?_⟩
      intro i hi hx
      exact absurd hx (by rw [rep_getD]; simp)
  case rest =>
    obtain ⟨b7, b8, b9, K, N, K', N', K2, N2, S, S', S2, rfl, rfl, rfl, hb, X, Y, Z⟩ := hcut
    clear X1 Y1 Z1 B2 hsz
    obtain ⟨p, hp⟩ : ∃ p, ordV K N S K' N' S' = p := ⟨_, rfl⟩
    obtain ⟨q, hq⟩ : ∃ q, ordV K' N' S' K2 N2 S2 = q := ⟨_, rfl⟩
    obtain ⟨r, hr⟩ : ∃ r, ordV K N S K2 N2 S2 = r := ⟨_, rfl⟩
    have hpq := ordT_is.trans (K, N, S.toList) (K', N', S'.toList) (K2, N2, S2.toList)
    have hst := ordT_is.strict (K, N, S.toList) (K', N', S'.toList) (K2, N2, S2.toList)
    have hanti := ordT_is.anti (K, N, S.toList) (K', N', S'.toList)
    have hrefl := ordT_is.refl (K, N, S.toList)
    rw [← ordV_is, ← ordV_is, ← ordV_is, hp, hq, hr] at hpq hst
    rw [← ordV_is, ← ordV_is, hp] at hanti
    rw [← ordV_is] at hrefl
    have HP : Hid (ordV K N S K' N' S' = p) := hp
    have HQ : Hid (ordV K' N' S' K2 N2 S2 = q) := hq
    have HR : Hid (ordV K N S K2 N2 S2 = r) := hr
    have HA : Hid (ordV K' N' S' K N S = -p) := hanti
    have HF : Hid (ordV K N S K N S = 0) := hrefl
    have mx : Try.prog.follows .mixedOrders = true := by kernel_rfl
    have x0 := fun d os => cell_grown X.lt X.1 d os
    have x1 := fun d os => cell_grown X.lt X.2.1 d os
    have x2 := fun d os => cell_grown X.lt X.2.2 d os
    have y0 := fun d os => cell_grown Y.lt Y.1 d os
    have y1 := fun d os => cell_grown Y.lt Y.2.1 d os
    have y2 := fun d os => cell_grown Y.lt Y.2.2 d os
    have z0 := fun d os => cell_grown Z.lt Z.1 d os
    have z1 := fun d os => cell_grown Z.lt Z.2.1 d os
    have z2 := fun d os => cell_grown Z.lt Z.2.2 d os
    have cA : ∀ W, Calls Try.prog 14 #[.agg #[.int .u8 K, .int .i64 N, .string S], .agg #[.int .u8 K', .int .i64 N', .string S']] W fun e w' => e = .returned (.int .i64 p) ∧ ∃ d os, w' = Go.Sort.grow (W.drewN d) os := fun W => by rw [← HP.out]; exact order_any _ _ _ _ _ _ W
    have cB : ∀ W, Calls Try.prog 14 #[.agg #[.int .u8 K', .int .i64 N', .string S'], .agg #[.int .u8 K2, .int .i64 N2, .string S2]] W fun e w' => e = .returned (.int .i64 q) ∧ ∃ d os, w' = Go.Sort.grow (W.drewN d) os := fun W => by rw [← HQ.out]; exact order_any _ _ _ _ _ _ W
    have cC : ∀ W, Calls Try.prog 14 #[.agg #[.int .u8 K, .int .i64 N, .string S], .agg #[.int .u8 K2, .int .i64 N2, .string S2]] W fun e w' => e = .returned (.int .i64 r) ∧ ∃ d os, w' = Go.Sort.grow (W.drewN d) os := fun W => by rw [← HR.out]; exact order_any _ _ _ _ _ _ W
    have CA : Hid (∀ W, Calls Try.prog 14 #[.agg #[.int .u8 K, .int .i64 N, .string S], .agg #[.int .u8 K', .int .i64 N', .string S']] W fun e w' => e = .returned (.int .i64 p) ∧ ∃ d os, w' = Go.Sort.grow (W.drewN d) os) := cA
    have CB : Hid (∀ W, Calls Try.prog 14 #[.agg #[.int .u8 K', .int .i64 N', .string S'], .agg #[.int .u8 K2, .int .i64 N2, .string S2]] W fun e w' => e = .returned (.int .i64 q) ∧ ∃ d os, w' = Go.Sort.grow (W.drewN d) os) := cB
    have CC : Hid (∀ W, Calls Try.prog 14 #[.agg #[.int .u8 K, .int .i64 N, .string S], .agg #[.int .u8 K2, .int .i64 N2, .string S2]] W fun e w' => e = .returned (.int .i64 r) ∧ ∃ d os, w' = Go.Sort.grow (W.drewN d) os) := cC
    clear cA cB cC hp hq hr hanti hrefl
    go_wp2_with fail
    refine wp_region_quiet_grown mx (by kernel_rfl) ?_
    repeat (first | go_big_quiet_step (first | (go_at_call_of 14 (Value.string S); go_at_call_of 14 (Value.string S'); exact Calls.grown_of (CA.out _)) | (go_at_call_of 14 (Value.string S'); go_at_call_of 14 (Value.string S2); exact Calls.grown_of (CB.out _)) | (go_at_call_of 14 (Value.string S); go_at_call_of 14 (Value.string S2); exact Calls.grown_of (CC.out _))) | quiet_step (first | (go_at_call_of 14 (Value.string S); go_at_call_of 14 (Value.string S'); exact Calls.grown_of (CA.out _)) | (go_at_call_of 14 (Value.string S'); go_at_call_of 14 (Value.string S2); exact Calls.grown_of (CB.out _)) | (go_at_call_of 14 (Value.string S); go_at_call_of 14 (Value.string S2); exact Calls.grown_of (CC.out _))))
    refine wpQuiet_nil ?_
    intro _ hw'
    obtain ⟨⟨nq, osq⟩, hw''⟩ := hw'
    subst hw''
    have bg := below_grow wc nq osq
    have hb2 := hb.trans (bg.mono hb.size)
    have X2 := X.below bg
    have Y2 := Y.below bg
    clear x0 x1 x2 y0 y1 y2 z0 z1 z2 bg CA CB CC mx
    generalize Go.Sort.grow (wc.drewN nq) osq = wd at *
    obtain ⟨x0, x1, x2⟩ := X2
    obtain ⟨y0, y1, y2⟩ := Y2
    go_wp2_with fail
    refine (order_below K' N' K N (-p) S' S _ HA.out).mono ?_
    rintro e we ⟨rfl, hd⟩
    have X3 : VAt we b7 K N S := VAt.below ⟨x0, x1, x2⟩ hd
    have hb3 := hb2.trans (hd.mono hb2.size)
    clear hd hb2 x0 x1 x2 y0 y1 y2 X Y Z hb
    obtain ⟨v0, v1, v2⟩ := X3
    have key : (0 < p ∧ -p < 0) ∨ (p = 0 ∧ (q ≤ 0 → r ≤ 0)) ∨ (p < 0 ∧ 0 < -p ∧ (q ≤ 0 → r < 0)) := by omega
    clear hpq hst
    rcases key with ⟨hp1, hp2⟩ | ⟨rfl, hpr⟩ | ⟨hp1, hp2, hpr⟩
    · have g1 : decide (0 ≤ p) = true := by simp; omega
      go_wp2_with fail
      refine (order_below K N K N 0 S S _ HF.out).mono ?_
      rintro e wf ⟨rfl, hd⟩
      have hb4 := hb3.trans (hd.mono hb3.size)
      go_wp2
      go_ret
      exact ⟨rfl, hb4⟩
    · go_wp2_with fail
      refine (order_below K N K N 0 S S _ HF.out).mono ?_
      rintro e wf ⟨rfl, hd⟩
      have hb4 := hb3.trans (hd.mono hb3.size)
      by_cases hq0 : 0 < q
      · go_wp2
        go_ret
        exact ⟨rfl, hb4⟩
      · have hr0 := hpr (by omega)
        go_wp2
        go_ret
        exact ⟨rfl, hb4⟩
    · go_wp2_with fail
      refine (order_below K N K N 0 S S _ HF.out).mono ?_
      rintro e wf ⟨rfl, hd⟩
      have hb4 := hb3.trans (hd.mono hb3.size)
      by_cases hq0 : 0 < q
      · have hq1 : 0 ≤ q := by omega
        go_wp2
        go_ret
        exact ⟨rfl, hb4⟩
      · have hr0 := hpr (by omega)
        have hr1 : r ≤ 0 := by omega
        by_cases hq1 : 0 ≤ q
        · go_wp2
          go_ret
          exact ⟨rfl, hb4⟩
        · go_wp2
          go_ret
          exact ⟨rfl, hb4⟩
end Go.Proofs.Ytbbmcggalffecaa

/-
 PaBase, PaSmall, joined.
 Conditions: as each theorem says.
-/
import Derived.Test.YtenfphbhofibjaaGreatDoorZPbA
import Derived.Test.YtenfphbhofibjaaGreatDoorZBase
import Derived.Test.YtenfphbhofibjaaGreatDoorZMem
import Derived.Maps.Keyed
set_option maxRecDepth 100000
set_option maxHeartbeats 1000000
set_option linter.unusedVariables false
namespace Go.Proofs.YtenfphbhofibjaaGreatDoor
open Go.RowKit LM TM PM
def ToksAt (w : World) (g o : Nat) (ts : List Tok) : Prop := ∀ j t, ts[j]? = some t → w.cell? ⟨g, o + j * 4, none⟩ = some (.int .i64 (t.kind : Int)) ∧ w.cell? ⟨g, o + j * 4 + 1, none⟩ = some (.string ⟨t.text.toArray⟩) ∧ w.cell? ⟨g, o + j * 4 + 2, none⟩ = some (.int .i64 t.num) ∧ w.cell? ⟨g, o + j * 4 + 3, none⟩ = some (.int .i64 (t.pos : Int))
theorem ToksAt.kept {w w' : World} {g o : Nat} {ts : List Tok} (h : ToksAt w g o ts) (hg : w'.heap[g]? = w.heap[g]?) : ToksAt w' g o ts := fun j x hj => by
 obtain ⟨h0, h1, h2, h3⟩ := h j x hj
 exact ⟨(cell_kept hg).trans h0, (cell_kept hg).trans h1, (cell_kept hg).trans h2, (cell_kept hg).trans h3⟩
theorem ToksAt.tl {w : World} {g o : Nat} {t : Tok} {ts : List Tok} (h : ToksAt w g o (t :: ts)) : ToksAt w g (o + 4) ts := fun j x hj => by
 have := h (j + 1) x (by simpa using hj)
 rwa [show o + (j + 1) * 4 = o + 4 + j * 4 from by omega] at this
def signEs : Nat → List (List UInt8 × Int)
 | 0 => [([61, 61], 11), ([33, 61], 12), ([60], 13)]
 | 1 => [([43], 8), ([45], 9)]
 | 2 => [([42], 10)]
 | _ => [([45], 6), ([33], 7)]
def entriesAt (l : List (List UInt8 × Int)) : List (Value × Value) := l.map fun p => (.string ⟨p.1.toArray⟩, .int .i64 p.2)
def SignMap (w : World) (b i : Nat) : Prop := ∃ es c, w.heap[b]? = some (.map es c) ∧ (es.toList.map fun e => (e.key, e.val)) = entriesAt (signEs i)
structure PA (w : World) (pb g o cap b0 b1 b2 b3 : Nat) (ts : List Tok) (d : Nat) : Prop where
 blk : w.heap[pb]? = some (.cells #[.slice (some ⟨g, o, none⟩) ts.length cap, .int .i64 (d : Int), .map (some b0), .map (some b1), .map (some b2), .map (some b3)] 109 (0, 0))
 cap1 : ts.length ≤ cap
 cap2 : cap ≤ maxLen
 gl : g < pb
 toks : ToksAt w g o ts
 maps : SignMap w b0 0 ∧ SignMap w b1 1 ∧ SignMap w b2 2 ∧ SignMap w b3 3
 ml : b0 < pb ∧ b1 < pb ∧ b2 < pb ∧ b3 < pb
 len : ts.length ≤ 100000
def PAt (w : World) (pb : Nat) (ts : List Tok) (d : Nat) : Prop := ∃ g o cap b0 b1 b2 b3, PA w pb g o cap b0 b1 b2 b3 ts d
theorem SignMap.kept {w w' : World} {b i : Nat} (h : SignMap w b i) (hb : w'.heap[b]? = w.heap[b]?) : SignMap w' b i := by
 obtain ⟨es, c, h1, h2⟩ := h
 exact ⟨es, c, hb.trans h1, h2⟩
theorem PAt.lt {w : World} {pb : Nat} {ts : List Tok} {d : Nat} (h : PAt w pb ts d) : pb < w.heap.size := by
 obtain ⟨g, o, cap, b0, b1, b2, b3, h⟩ := h
 exact lt_of_block h.blk
theorem PAt.len {w : World} {pb : Nat} {ts : List Tok} {d : Nat} (h : PAt w pb ts d) : ts.length ≤ 100000 := by
 obtain ⟨g, o, cap, b0, b1, b2, b3, h⟩ := h
 exact h.len
theorem PAt.kept {w w' : World} {pb : Nat} {ts : List Tok} {d : Nat} (h : PAt w pb ts d) (hk : ∀ k, k ≤ pb → w'.heap[k]? = w.heap[k]?) : PAt w' pb ts d := by
 obtain ⟨g, o, cap, b0, b1, b2, b3, h⟩ := h
 obtain ⟨m0, m1, m2, m3⟩ := h.maps
 obtain ⟨l0, l1, l2, l3⟩ := h.ml
 exact ⟨g, o, cap, b0, b1, b2, b3, (hk pb (Nat.le_refl _)).trans h.blk, h.cap1, h.cap2, h.gl, h.toks.kept (hk g (Nat.le_of_lt h.gl)), ⟨m0.kept (hk _ (Nat.le_of_lt l0)), m1.kept (hk _ (Nat.le_of_lt l1)), m2.kept (hk _ (Nat.le_of_lt l2)), m3.kept (hk _ (Nat.le_of_lt l3))⟩, h.ml, h.len⟩
theorem PAt.below {w w' : World} {pb : Nat} {ts : List Tok} {d : Nat} (h : PAt w pb ts d) (hb : Below w.heap.size w w') : PAt w' pb ts d := h.kept fun k hk => hb.block k (Nat.lt_of_le_of_lt hk h.lt)
theorem PAt.alloc {w : World} {pb : Nat} {ts : List Tok} {d : Nat} (h : PAt w pb ts d) (o : Obj) : PAt (w.alloc o) pb ts d := h.below ((Below.refl _ _).alloc (Nat.le_refl _) o)
theorem PAt.drew {w : World} {pb : Nat} {ts : List Tok} {d : Nat} (h : PAt w pb ts d) : PAt w.drew pb ts d := h.kept fun _ _ => rfl
theorem PAt.other {w : World} {pb : Nat} {ts : List Tok} {d : Nat} (h : PAt w pb ts d) {b i : Nat} {v : Value} (hb : pb < b) : PAt (w.setCell ⟨b, i, none⟩ v) pb ts d := h.kept fun k hk => Below.heap_setCell _ _ _ _ (by show k ≠ b; omega)
def faultV (a e : Nat) : Value := .agg #[.int .i64 (a : Int), .int .i64 (e : Int)]
def chainF (a e : Nat) : List PanicEntry := [{ v := .iface 104 (faultV a e), recovered := false }]
def ptokV (t : Tok) : Value := .agg #[.int .i64 (t.kind : Int), .string ⟨t.text.toArray⟩, .int .i64 t.num, .int .i64 (t.pos : Int)]
def Ret {α : Type} (r : PR α) (w : World) (pb d : Nat) (V : α → Ending → World → Prop) (en : Ending) (w' : World) : Prop :=
 match r with
 | .ok x ts' => V x en w' ∧ PAt w' pb ts' d ∧ w.grownBy w' (some pb)
 | .bad a e => en = .panicked (chainF a e) ∧ Below pb w w'
def VN (s : ByteArray) (en : Ending) (w' : World) : Prop := en = .returned (.string s)
def V0 (_ : Unit) (en : Ending) (w' : World) : Prop := en = .returned (.tuple #[])
theorem ret_bad {α : Type} {r : PR α} {w w' : World} {pb d a e : Nat} {V : α → Ending → World → Prop} (hr : r = .bad a e) (hb : Below pb w w') : Ret r w pb d V (.panicked (chainF a e)) w' := by subst hr; exact ⟨rfl, hb⟩
theorem ret_ok {α : Type} {r : PR α} {w w' : World} {pb d : Nat} {x : α} {ts' : List Tok} {V : α → Ending → World → Prop} {en : Ending} (hr : r = .ok x ts') (hv : V x en w') (hp : PAt w' pb ts' d) (hg : w.grownBy w' (some pb)) : Ret r w pb d V en w' := by subst hr; exact ⟨hv, hp, hg⟩
theorem grown_to_below {w w' : World} {pb : Nat} (h : w.grownBy w' (some pb)) (hp : pb ≤ w.heap.size) : Below pb w w' := ⟨h.os, h.tape, h.output, h.size, fun k hk => h.block k (by omega) (by simp; omega)⟩
theorem gr_refl (w : World) (r : Option Nat) : w.grownBy w r := ⟨rfl, rfl, rfl, Nat.le_refl _, fun _ _ _ => rfl⟩
theorem gr_below {w w' w2 : World} {r : Option Nat} (h : w.grownBy w' r) (hb : Below w'.heap.size w' w2) : w.grownBy w2 r :=
 ⟨hb.os.trans h.os, hb.tape.trans h.tape, hb.output.trans h.output, Nat.le_trans h.size hb.size, fun k hk hn => (hb.block k (Nat.lt_of_lt_of_le hk h.size)).trans (h.block k hk hn)⟩
theorem gr_alloc {w w' : World} {r : Option Nat} (h : w.grownBy w' r) (o : Obj) : w.grownBy (w'.alloc o) r := gr_below h ((Below.refl _ _).alloc (Nat.le_refl _) o)
theorem gr_trans {w w' w2 : World} {r : Option Nat} (h : w.grownBy w' r) (k : w'.grownBy w2 r) : w.grownBy w2 r :=
 ⟨k.os.trans h.os, k.tape.trans h.tape, k.output.trans h.output, Nat.le_trans h.size k.size, fun j hj hn => (k.block j (Nat.lt_of_lt_of_le hj h.size) hn).trans (h.block j hj hn)⟩
theorem gr_set {w w' : World} {b : Nat} (h : w.grownBy w' (some b)) (i : Nat) (v : Value) : w.grownBy (w'.setCell ⟨b, i, none⟩ v) (some b) :=
 ⟨h.os, h.tape, h.output, by simp [World.setCell]; exact h.size, fun k hk hn => (Below.heap_setCell _ _ _ _ (fun e => hn (by simp [e]))).trans (h.block k hk hn)⟩
theorem gr_new {w w' : World} {r : Option Nat} {b : Nat} (h : w.grownBy w' r) (hb : w.heap.size ≤ b) (i : Nat) (v : Value) : w.grownBy (w'.setCell ⟨b, i, none⟩ v) r :=
 ⟨h.os, h.tape, h.output, by simp [World.setCell]; exact h.size, fun k hk hn => (Below.heap_setCell _ _ _ _ (by show k ≠ b; omega)).trans (h.block k hk hn)⟩
theorem gr_drew {w w' : World} {r : Option Nat} (h : w.grownBy w' r) : w.grownBy w'.drew r := ⟨h.os, h.tape, h.output, h.size, h.block⟩
theorem blk_set {w : World} {b f : Nat} {cs : Array Value} {v : Value} {t : TypeId} (h : w.heap[b]? = some (.cells cs t (0, 0))) : (w.setCell ⟨b, f, none⟩ v).heap[b]? = some (.cells (cs.setIfInBounds f v) t (0, 0)) := by
 simp only [World.setCell, Array.getElem?_modify, h]
 rfl
def six7 (w : World) (g : Nat) (a b c d e f : Value) : World := (((((w.setCell ⟨g, 0, none⟩ a).setCell ⟨g, 1, none⟩ b).setCell ⟨g, 2, none⟩ c).setCell ⟨g, 3, none⟩ d).setCell ⟨g, 4, none⟩ e).setCell ⟨g, 5, none⟩ f
section
variable {w : World} {g : Nat} {a b c d e f : Value}
theorem six7_other {k : Nat} (h : k ≠ g) : (six7 w g a b c d e f).heap[k]? = w.heap[k]? := by
 unfold six7
 rw [Below.heap_setCell _ _ _ _ h, Below.heap_setCell _ _ _ _ h, Below.heap_setCell _ _ _ _ h, Below.heap_setCell _ _ _ _ h, Below.heap_setCell _ _ _ _ h, Below.heap_setCell _ _ _ _ h]
theorem six7_block {x0 x1 x2 x3 x4 x5 : Value} {t : TypeId} (h : w.heap[g]? = some (.cells #[x0, x1, x2, x3, x4, x5] t (0, 0))) : (six7 w g a b c d e f).heap[g]? = some (.cells #[a, b, c, d, e, f] t (0, 0)) := by
 unfold six7
 exact blk_set (blk_set (blk_set (blk_set (blk_set (blk_set h)))))
theorem six7_cell {x0 x1 x2 x3 x4 x5 : Value} {t : TypeId} (h : w.heap[g]? = some (.cells #[x0, x1, x2, x3, x4, x5] t (0, 0))) : (six7 w g a b c d e f).cell? ⟨g, 0, none⟩ = some a ∧ (six7 w g a b c d e f).cell? ⟨g, 1, none⟩ = some b ∧ (six7 w g a b c d e f).cell? ⟨g, 2, none⟩ = some c ∧ (six7 w g a b c d e f).cell? ⟨g, 3, none⟩ = some d ∧ (six7 w g a b c d e f).cell? ⟨g, 4, none⟩ = some e ∧ (six7 w g a b c d e f).cell? ⟨g, 5, none⟩ = some f := by
 have hb := six7_block (a := a) (b := b) (c := c) (d := d) (e := e) (f := f) h
 simp [World.cell?, hb]
theorem sd_os (w : World) (p : Addr) (v : Value) : (w.setCell p v).os = w.os := rfl
theorem sd_tape (w : World) (p : Addr) (v : Value) : (w.setCell p v).tape = w.tape := rfl
theorem sd_output (w : World) (p : Addr) (v : Value) : (w.setCell p v).output = w.output := rfl
theorem six7_size : (six7 w g a b c d e f).heap.size = w.heap.size := by simp [six7, World.setCell]
end
theorem blk_next {W Wa W' : World} {k pb : Nat} {o : Obj} (h : W.heap[k]? = some o) (hb : Below W.heap.size W Wa) (hg : Wa.grownBy W' (some pb)) (hne : k ≠ pb) : W'.heap[k]? = some o := by
 have hk := lt_of_block h
 rw [hg.block k (Nat.lt_of_lt_of_le hk hb.size) (by simpa using hne), hb.block k hk, h]
theorem blk_new {W W' : World} {pb : Nat} {o : Obj} (hg : (W.alloc o).grownBy W' (some pb)) (hp : pb < W.heap.size) : W'.heap[W.heap.size]? = some o := by
 rw [hg.block _ (by simp) (by simp; omega)]
 exact heap_alloc_new _ _
theorem tf (b : Bool) : b = true ∨ b = false := by cases b <;> simp
theorem PAt.open {w : World} {pb : Nat} {ts : List Tok} {d : Nat} (h : PAt w pb ts d) (hG : GoodT ts) : ∃ t l g o cap, ts = t :: l ∧ w.cell? ⟨pb, 0, none⟩ = some (.slice (some ⟨g, o, none⟩) (l.length + 1) cap) ∧ w.cell? ⟨pb, 1, none⟩ = some (.int .i64 (d : Int)) ∧
 w.cell? ⟨g, o, none⟩ = some (.int .i64 (t.kind : Int)) ∧ w.cell? ⟨g, o + 1, none⟩ = some (.string ⟨t.text.toArray⟩) ∧ w.cell? ⟨g, o + 2, none⟩ = some (.int .i64 t.num) ∧ w.cell? ⟨g, o + 3, none⟩ = some (.int .i64 (t.pos : Int)) ∧ l.length + 1 ≤ cap ∧ cap ≤ maxLen ∧ (∀ i, w.frozen? ⟨pb, i, none⟩ = false) ∧ g < pb := by
 obtain ⟨g, o, cap, b0, b1, b2, b3, h⟩ := h
 obtain ⟨t, l, rfl⟩ := hG.ne
 have hb := h.blk
 obtain ⟨q0, q1, q2, q3⟩ := h.toks 0 t rfl
 simp only [Nat.zero_mul, Nat.add_zero] at q0 q1 q2 q3
 exact ⟨t, l, g, o, cap, rfl, by simp [World.cell?, hb], by simp [World.cell?, hb], q0, q1, q2, q3, by have := h.cap1; simpa using this, h.cap2, fun i => by simp [World.frozen?, hb], h.gl⟩
theorem PAt.tl {w w' : World} {pb g o cap : Nat} {t : Tok} {l : List Tok} {d : Nat} (h : PAt w pb (t :: l) d) (hc : w.cell? ⟨pb, 0, none⟩ = some (.slice (some ⟨g, o, none⟩) (l.length + 1) cap)) (hw : ∀ k, k < pb → w'.heap[k]? = w.heap[k]?) (hb : w'.heap[pb]? = (w.setCell ⟨pb, 0, none⟩ (.slice (some ⟨g, o + 4, none⟩) l.length (cap - 1))).heap[pb]?) : PAt w' pb l d := by
 obtain ⟨g', o', cap', b0, b1, b2, b3, h⟩ := h
 have he : (⟨g', o', cap'⟩ : Nat × Nat × Nat) = ⟨g, o, cap⟩ := by
  have hbk := h.blk
  simp [World.cell?, hbk] at hc
  obtain ⟨⟨h1, h2⟩, h3⟩ := hc
  subst h1 h2 h3
  rfl
 cases he
 obtain ⟨m0, m1, m2, m3⟩ := h.maps
 obtain ⟨l0, l1, l2, l3⟩ := h.ml
 have hc1 := h.cap1
 have hc2 := h.cap2
 simp only [List.length_cons] at hc1
 refine ⟨g, o + 4, cap - 1, b0, b1, b2, b3, ?_, by omega, by omega, h.gl, h.toks.tl.kept (hw g h.gl), ⟨m0.kept (hw _ l0), m1.kept (hw _ l1), m2.kept (hw _ l2), m3.kept (hw _ l3)⟩, h.ml, by have := h.len; simp only [List.length_cons] at this; omega⟩
 rw [hb, blk_set h.blk]
 rfl
theorem PAt.deeper {w w' : World} {pb : Nat} {ts : List Tok} {d d' : Nat} (h : PAt w pb ts d) (hw : ∀ k, k < pb → w'.heap[k]? = w.heap[k]?) (hb : w'.heap[pb]? = (w.setCell ⟨pb, 1, none⟩ (.int .i64 (d' : Int))).heap[pb]?) : PAt w' pb ts d' := by
 obtain ⟨g, o, cap, b0, b1, b2, b3, h⟩ := h
 obtain ⟨m0, m1, m2, m3⟩ := h.maps
 obtain ⟨l0, l1, l2, l3⟩ := h.ml
 refine ⟨g, o, cap, b0, b1, b2, b3, ?_, h.cap1, h.cap2, h.gl, h.toks.kept (hw g h.gl), ⟨m0.kept (hw _ l0), m1.kept (hw _ l1), m2.kept (hw _ l2), m3.kept (hw _ l3)⟩, h.ml, h.len⟩
 rw [hb, blk_set h.blk]
 rfl
end Go.Proofs.YtenfphbhofibjaaGreatDoor
namespace Go.Proofs.YtenfphbhofibjaaGreatDoor
open Go.RowKit LM TM PM
theorem fail_any {w : World} {pb : Nat} {ts : List Tok} {d : Nat} (h : PAt w pb ts d) (hG : GoodT ts) (e : Nat) : Calls Tryz.prog 178 #[.pointer (some ⟨pb, 0, none⟩), .int .i64 (e : Int)] w fun en w' => en = .panicked (chainF (hd0 ts).pos e) ∧ w' = w := by
 obtain ⟨t, l, g, o, cap, rfl, c0, c1, q0, q1, q2, q3, h1, h2, f0, hg⟩ := h.open hG
 unfold maxLen at h2
 clear h hG
 go_enter Tryz.func178, Tryz.ntmps178
 go_wp2
 exact ⟨rfl, rfl, rfl⟩
theorem is_any {w : World} {pb : Nat} {ts : List Tok} {d : Nat} (h : PAt w pb ts d) (hG : GoodT ts) (k : Nat) (x : Bs) : Calls Tryz.prog 171 #[.pointer (some ⟨pb, 0, none⟩), .int .i64 (k : Int), .string ⟨x.toArray⟩] w fun en w' => en = .returned (.bool (isT k x ts)) ∧ w' = w := by
 obtain ⟨t, l, g, o, cap, rfl, c0, c1, q0, q1, q2, q3, h1, h2, f0, hg⟩ := h.open hG
 unfold maxLen at h2
 clear h hG
 by_cases hk : t.kind = k
 ·subst hk
  have hr : isT t.kind x (t :: l) = (t.text == x) := by simp [isT, hd0]
  rw [hr]
  clear hr
  go_enter Tryz.func171, Tryz.ntmps171
  go_wp2
  go_ret
  exact ⟨rfl, rfl⟩
 ·have hr : isT k x (t :: l) = false := by simp [isT, hd0, hk]
  have hn : ((t.kind : Int) == (k : Int)) = false := by simp; omega
  rw [hr]
  clear hr
  go_enter Tryz.func171, Tryz.ntmps171
  go_wp2
  go_ret
  exact ⟨rfl, rfl⟩
theorem take_any {w : World} {pb : Nat} {ts : List Tok} {d : Nat} (h : PAt w pb ts d) (hG : GoodT ts) (hk : (hd0 ts).kind ≠ 0) : Calls Tryz.prog 172 #[.pointer (some ⟨pb, 0, none⟩)] w fun en w' => en = .returned (ptokV (hd0 ts)) ∧ PAt w' pb ts.tail d ∧ w.grownBy w' (some pb) := by
 have HP := Lib.hid h
 have hpl := h.lt
 have hn1 := (hG.tl hk).pos
 obtain ⟨t, l, g, o, cap, rfl, c0, c1, q0, q1, q2, q3, h1, h2, f0, hg⟩ := h.open hG
 have HC := Lib.hid c0
 unfold maxLen at h2
 simp only [List.tail_cons] at hn1
 have hc1 : ¬ cap = 1 := by omega
 clear h hG hk
 have hgl : g < w.heap.size := by omega
 have hgp : g ≠ pb := by omega
 go_enter Tryz.func172, Tryz.ntmps172
 go_wp2
 refine bodyPost_ret (v := ptokV t) (by simp [results, Tryz.results172, go_sem, ptokV]) rfl ⟨rfl, HP.out.tl HC.out (fun k hk => ?_) ?_, ?_⟩
 ·rw [Below.heap_alloc _ _ _ (by simp [World.setCell]; omega), Below.heap_alloc _ _ _ (by simp [World.setCell]; omega), Below.heap_setCell _ _ _ _ (by show k ≠ pb; omega)]
 ·rw [Below.heap_alloc _ _ _ (by simp [World.setCell]; omega), Below.heap_alloc _ _ _ (by simp [World.setCell]; omega)]
 ·exact gr_alloc (gr_alloc (gr_set (gr_refl _ _) 0 _) _) _
theorem met_any {w : World} {pb : Nat} {ts : List Tok} {d : Nat} (h : PAt w pb ts d) (hG : GoodT ts) (k : Nat) (hk0 : k ≠ 0) (x : Bs) : Calls Tryz.prog 137 #[.pointer (some ⟨pb, 0, none⟩), .int .i64 (k : Int), .string ⟨x.toArray⟩] w fun en w' => en = .returned (.bool (isT k x ts)) ∧ PAt w' pb (if isT k x ts then ts.tail else ts) d ∧ w.grownBy w' (some pb) := by
 have HP := Lib.hid h
 have HGD := Lib.hid hG
 clear h hG
 have hnot : ∀ (x : Bool) (w : World), (Op.unary .not (.bool x)).run Tryz.prog w = .ok (.bool (!x)) w := fun _ _ => rfl
 cases hi : isT k x ts with
 | true =>
  go_enter Tryz.func137, Tryz.ntmps137
  go_wp2_with fail
  refine (is_any HP.out HGD.out k x).mono ?_
  rintro en w1 ⟨rfl, rfl⟩
  rw [hi]
  go_wp2_with fail
  refine (take_any HP.out HGD.out (by rw [isT_kind hi]; exact hk0)).mono ?_
  rintro en w1 ⟨rfl, h1, h2⟩
  have H1 := Lib.hid h1
  have H2 := Lib.hid h2
  clear h1 h2
  unfold ptokV
  go_wp2_with fail
  go_ret
  exact ⟨rfl, H1.out, H2.out⟩
 | false =>
  go_enter Tryz.func137, Tryz.ntmps137
  go_wp2_with fail
  refine (is_any HP.out HGD.out k x).mono ?_
  rintro en w1 ⟨rfl, rfl⟩
  rw [hi]
  go_wp2_with fail
  go_ret
  exact ⟨rfl, HP.out, gr_refl _ _⟩
theorem psign_any {w : World} {pb : Nat} {ts : List Tok} {d : Nat} (h : PAt w pb ts d) (hG : GoodT ts) (x : Bs) : Calls Tryz.prog 174 #[.pointer (some ⟨pb, 0, none⟩), .string ⟨x.toArray⟩] w fun en w' => Ret (pSign x ts) w pb d V0 en w' := by
 have HP := Lib.hid h
 have HGD := Lib.hid hG
 clear h hG
 unfold pSign
 cases hi : isT 4 x ts with
 | true =>
  go_enter Tryz.func174, Tryz.ntmps174
  go_wp2_with fail
  refine (met_any HP.out HGD.out 4 (by decide) x).mono ?_
  rintro en w1 ⟨rfl, h1, h2⟩
  rw [hi] at h1 ⊢
  have H1 := Lib.hid h1
  have H2 := Lib.hid h2
  clear h1 h2
  go_wp2_with fail
  refine bodyPost_ret (results_none rfl _ _ _) rfl ⟨rfl, H1.out, H2.out⟩
 | false =>
  go_enter Tryz.func174, Tryz.ntmps174
  go_wp2_with fail
  refine (met_any HP.out HGD.out 4 (by decide) x).mono ?_
  rintro en w1 ⟨rfl, h1, h2⟩
  rw [hi] at h1 ⊢
  have H1 := Lib.hid h1
  have H2 := Lib.hid h2
  clear h1 h2
  go_wp2_with fail
  refine (fail_any H1.out HGD.out 1).mono ?_
  rintro en w2 ⟨rfl, rfl⟩
  exact ⟨rfl, rfl, grown_to_below H2.out (Nat.le_of_lt HP.out.lt)⟩
theorem enter_ok {w : World} {pb : Nat} {ts : List Tok} {d : Nat} (h : PAt w pb ts d) (hG : GoodT ts) (hd : d < 20) : Calls Tryz.prog 175 #[.pointer (some ⟨pb, 0, none⟩)] w fun en w' => en = .returned (.tuple #[]) ∧ PAt w' pb ts (d + 1) ∧ w.grownBy w' (some pb) := by
 have HP := Lib.hid h
 have hpl := h.lt
 obtain ⟨t, l, g, o, cap, rfl, c0, c1, q0, q1, q2, q3, h1, h2, f0, hg⟩ := h.open hG
 clear h hG c0 q0 q1 q2 q3 h1 h2
 have hn : ((d : Int) == 20) = false := by simp; omega
 go_enter Tryz.func175, Tryz.ntmps175
 go_wp2
 go_end0
 refine ⟨rfl, HP.out.deeper (fun k hk => Below.heap_setCell _ _ _ _ (by show k ≠ pb; omega)) ?_, gr_set (gr_refl _ _) 1 _⟩
 simp
theorem enter_deep {w : World} {pb : Nat} {ts : List Tok} (h : PAt w pb ts 20) (hG : GoodT ts) : Calls Tryz.prog 175 #[.pointer (some ⟨pb, 0, none⟩)] w fun en w' => en = .panicked (chainF (hd0 ts).pos 3) ∧ w' = w := by
 have HP := Lib.hid h
 have HGD := Lib.hid hG
 obtain ⟨t, l, g, o, cap, rfl, c0, c1, q0, q1, q2, q3, h1, h2, f0, hg⟩ := h.open hG
 clear h hG c0 q0 q1 q2 q3 h1 h2
 go_enter Tryz.func175, Tryz.ntmps175
 go_wp2_with fail
 refine (fail_any HP.out HGD.out 3).mono ?_
 rintro en w2 ⟨rfl, rfl⟩
 exact ⟨rfl, rfl, rfl⟩
theorem leave_any {w : World} {pb : Nat} {ts : List Tok} {d : Nat} (h : PAt w pb ts (d + 1)) (hG : GoodT ts) (hd : d < 1000) : Calls Tryz.prog 177 #[.pointer (some ⟨pb, 0, none⟩)] w fun en w' => en = .returned (.tuple #[]) ∧ PAt w' pb ts d ∧ w.grownBy w' (some pb) := by
 have HP := Lib.hid h
 have hpl := h.lt
 obtain ⟨t, l, g, o, cap, rfl, c0, c1, q0, q1, q2, q3, h1, h2, f0, hg⟩ := h.open hG
 clear h hG c0 q0 q1 q2 q3 h1 h2
 go_enter Tryz.func177, Tryz.ntmps177
 go_wp2
 go_end0
 refine ⟨rfl, HP.out.deeper (fun k hk => Below.heap_setCell _ _ _ _ (by show k ≠ pb; omega)) ?_, gr_set (gr_refl _ _) 1 _⟩
 simp
theorem reserved_any (x : Bs) (w : World) : Calls Tryz.prog 25 #[.string ⟨x.toArray⟩] w fun en w' => en = .returned (.bool (reserved x)) ∧ w' = w := by
 cases hr : reserved x with
 | true =>
  have hx : x = wLet ∨ x = wIf ∨ x = wElse ∨ x = wWhile ∨ x = wReturn ∨ x = wThrow ∨ x = wTry ∨ x = wCatch ∨ x = wFn ∨ x = wNil ∨ x = wTrue ∨ x = wFalse := by simpa [reserved] using hr
  clear hr
  rcases hx with rfl | rfl | rfl | rfl | rfl | rfl | rfl | rfl | rfl | rfl | rfl | rfl
  all_goals
   go_enter Tryz.func25, Tryz.ntmps25
   simp only [wLet, wIf, wElse, wWhile, wReturn, wThrow, wTry, wCatch, wFn, wNil, wTrue, wFalse]
   go_wp2
   go_ret
   exact ⟨rfl, rfl⟩
 | false =>
  simp only [reserved, Bool.or_eq_false_iff, wLet, wIf, wElse, wWhile, wReturn, wThrow, wTry, wCatch, wFn, wNil, wTrue, wFalse] at hr
  obtain ⟨r0, r1, r2, r3, r4, r5, r6, r7, r8, r9, r10, r11⟩ := hr
  go_enter Tryz.func25, Tryz.ntmps25
  go_wp2
  go_ret
  exact ⟨rfl, rfl⟩
end Go.Proofs.YtenfphbhofibjaaGreatDoor

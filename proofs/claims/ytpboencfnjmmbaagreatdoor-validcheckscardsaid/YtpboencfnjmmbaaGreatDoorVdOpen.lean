/-
  From an argument of the law ValidChecks, a slice of functions by small numbers, to its cells.
  Conditions: none beyond the argument's reading.
-/
import Derived.Test.YtpboencfnjmmbaaGreatDoorVdRow
import Derived.ProofKit
import Derived.OpenShut
import Derived.Deep.Strs
import Derived.Deep.Slices
import Derived.Lib.SmallJoins
import Derived.Carry
namespace Go.Proofs.YtpboencfnjmmbaaGreatDoor
open Go.ChangeShapes Go.WideShapes Go.ChangeAt Go.RowKit
set_option linter.unusedVariables false
theorem cells8 : Tryz.prog.cellsOf 24 = 1 := by kernel_rfl
theorem cellsU8 : Tryz.prog.cellsOf 5 = 1 := by kernel_rfl
theorem cellsB : Tryz.prog.cellsOf 4 = 1 := by kernel_rfl
theorem cellsS8 : Tryz.prog.cellsOf 25 = 1 := by kernel_rfl
theorem cellsC : Tryz.prog.cellsOf 86 = 4 := by kernel_rfl
theorem cellsSC : Tryz.prog.cellsOf 26 = 1 := by kernel_rfl
theorem cellsF : Tryz.prog.cellsOf 28 = 6 := by kernel_rfl
def I8 (n : Int) : Prop := -128 ≤ n ∧ n ≤ 127
/-- An instruction, a function by small numbers. -/
structure LC where
  op : Nat
  a : Int
  b : Int
  c : Int
structure LF where
  p : Int
  r : Int
  h : List Int
  n : Nat
  cd : List LC
  e : Bool
def LC.ok (x : LC) : Prop := x.op ≤ 255 ∧ I8 x.a ∧ I8 x.b ∧ I8 x.c
structure LF.ok (f : LF) : Prop where
  p : I8 f.p
  r : I8 f.r
  h : ∀ n ∈ f.h, I8 n
  n : f.n ≤ 255
  cd : ∀ x ∈ f.cd, x.ok
def H8At (w : World) (l : List Int) (g o : Nat) : Prop := ∀ k n, l[k]? = some n → w.cell? ⟨g, o + k, none⟩ = some (.int .i8 n)
def LCAt (w : World) (l : List LC) (g o : Nat) : Prop := ∀ j x, l[j]? = some x → w.cell? ⟨g, o + j * 4, none⟩ = some (.int .u8 (x.op : Int)) ∧ w.cell? ⟨g, o + j * 4 + 1, none⟩ = some (.int .i8 x.a) ∧ w.cell? ⟨g, o + j * 4 + 2, none⟩ = some (.int .i8 x.b) ∧ w.cell? ⟨g, o + j * 4 + 3, none⟩ = some (.int .i8 x.c)
def H8S (w : World) (v : Value) (l : List Int) : Prop := VSl w v l.length (H8At w l)
def LCS (w : World) (v : Value) (l : List LC) : Prop := VSl w v l.length (LCAt w l)
def LFAt (w : World) (l : List LF) (g o : Nat) : Prop := ∀ j f, l[j]? = some f → ∃ hv iv, H8S w hv f.h ∧ LCS w iv f.cd ∧ w.cell? ⟨g, o + j * 6, none⟩ = some (.int .i8 f.p) ∧ w.cell? ⟨g, o + j * 6 + 1, none⟩ = some (.int .i8 f.r) ∧ w.cell? ⟨g, o + j * 6 + 2, none⟩ = some hv ∧ w.cell? ⟨g, o + j * 6 + 3, none⟩ = some (.int .u8 (f.n : Int)) ∧ w.cell? ⟨g, o + j * 6 + 4, none⟩ = some iv ∧ w.cell? ⟨g, o + j * 6 + 5, none⟩ = some (.bool f.e)
def LFS (w : World) (v : Value) (l : List LF) : Prop := VSl w v l.length (LFAt w l)
theorem H8S.up {w w' : World} {v : Value} {l : List Int} (h : H8S w v l) (hb : Below w.heap.size w w') : H8S w' v l :=
  VSl.up h hb.size fun g o hg hA k n hk => (vcell (hb.block g hg)).trans (hA k n hk)
theorem LCS.up {w w' : World} {v : Value} {l : List LC} (h : LCS w v l) (hb : Below w.heap.size w w') : LCS w' v l :=
  VSl.up h hb.size fun g o hg hA j x hj => by
    obtain ⟨h1, h2, h3, h4⟩ := hA j x hj
    have e : ∀ o, w'.cell? ⟨g, o, none⟩ = w.cell? ⟨g, o, none⟩ := fun o => vcell (hb.block g hg)
    exact ⟨(e _).trans h1, (e _).trans h2, (e _).trans h3, (e _).trans h4⟩
theorem LFS.up {w w' : World} {v : Value} {l : List LF} (h : LFS w v l) (hb : Below w.heap.size w w') : LFS w' v l :=
  VSl.up h hb.size fun g o hg hA j f hj => by
    obtain ⟨hv, iv, a, b, h1, h2, h3, h4, h5, h6⟩ := hA j f hj
    have e : ∀ o, w'.cell? ⟨g, o, none⟩ = w.cell? ⟨g, o, none⟩ := fun o => vcell (hb.block g hg)
    exact ⟨hv, iv, a.up hb, b.up hb, (e _).trans h1, (e _).trans h2, (e _).trans h3, (e _).trans h4, (e _).trans h5, (e _).trans h6⟩
theorem add_twoV {a : Addr} (i j : Nat) : (a.add i).add j = a.add (i + j) := by
  unfold Addr.add
  by_cases h : i = 0
  · subst h; simp
  · by_cases h' : j = 0
    · subst h'; simp
    · simp [h, h', Nat.add_assoc]
theorem choose_rowsV {α : Type} (n : Nat) (p : Nat → α → Prop) (h : ∀ i, i < n → ∃ x, p i x) : ∃ l : List α, l.length = n ∧ ∀ i x, l[i]? = some x → p i x := by
  induction n with
  | zero => exact ⟨[], rfl, by simp⟩
  | succ n ih =>
    obtain ⟨l, h1, h2⟩ := ih (fun i hi => h i (by omega))
    obtain ⟨x, hx⟩ := h n (by omega)
    refine ⟨l ++ [x], by simp [h1], fun i y hy => ?_⟩
    by_cases e : i < l.length
    · rw [List.getElem?_append_left e] at hy
      exact h2 i y hy
    · have hi : i = n := by
        have := (List.getElem?_eq_some_iff.1 hy).1
        simp at this
        omega
      subst hi
      rw [List.getElem?_append_right (by omega), h1] at hy
      simp at hy
      subst hy
      exact hx
set_option maxRecDepth 100000 in
theorem open_row8 {H : Type} {enc : TypeId × Value → H} {W : World} {sp : Nat → Bool} {fuel : Nat} {cs : List Value} {y : DataW H × List MemPlace}
    (hf : DataW.trod enc Tryz.prog W 0 sp true fuel 25 cs = some y) : ∃ iv xs, cs = [iv] ∧ H8S W iv xs ∧ ∀ x ∈ xs, I8 x := by
  rcases Deep.open_slice Tryz.underlying25 hf with ⟨rfl, _⟩ | ⟨x, len, cap, m, n, D, Pl, rfl, _, hl, hm, hmm, _, hx⟩
  · exact ⟨_, [], rfl, ⟨none, 0, rfl, Nat.le_refl _, by simp [maxLen], fun h => absurd h (by simp)⟩, by simp⟩
  · by_cases hz : len = 0
    · subst hz
      exact ⟨_, [], rfl, ⟨some x, cap, rfl, Nat.zero_le _, hm, fun h => absurd h (by simp)⟩, by simp⟩
    have hlm : len ≤ m := by rw [hmm]; split <;> omega
    rw [cells8] at hx
    have each : ∀ i, i < len → ∃ q : Int, I8 q ∧ W.cell? (x.add i) = some (.int .i8 q) := by
      intro i hi
      obtain ⟨cs', h1, h2⟩ := hx i (by omega)
      obtain ⟨k0, hk0, _, w0⟩ := DataW.trod_int Tryz.underlying24 h2
      subst hk0
      obtain ⟨_, hlen, hcell⟩ := World.cells?_some h1
      have e0 := hcell 0 (by omega)
      rw [add_twoV] at e0
      exact ⟨k0, bounds_i8 w0, by simpa using e0⟩
    obtain ⟨b, off, spot⟩ := x
    obtain ⟨q0, _, h00⟩ := each 0 (by omega)
    have hspot : spot = none := by simpa [Addr.add] using World.cell?_spot h00
    subst hspot
    have hbl : b < W.heap.size := World.block_lt_of_cell? _ _ (by simpa [Addr.add] using h00)
    simp only [add_plain] at each
    obtain ⟨L, hL1, hL2⟩ := choose_rowsV len _ each
    refine ⟨_, L, rfl, ⟨some ⟨b, off, none⟩, cap, by rw [hL1], by rw [hL1]; exact hl, hm, fun _ => ⟨b, off, rfl, hbl, fun j y hj => (hL2 j y hj).2⟩⟩, fun y hy => ?_⟩
    obtain ⟨i, hi⟩ := List.getElem?_of_mem hy
    exact (hL2 i y hi).1
set_option maxRecDepth 100000 in
theorem open_rowC {H : Type} {enc : TypeId × Value → H} {W : World} {sp : Nat → Bool} {fuel : Nat} {cs : List Value} {y : DataW H × List MemPlace}
    (hf : DataW.trod enc Tryz.prog W 0 sp true fuel 26 cs = some y) : ∃ iv xs, cs = [iv] ∧ LCS W iv xs ∧ ∀ x ∈ xs, x.ok := by
  rcases Deep.open_slice Tryz.underlying26 hf with ⟨rfl, _⟩ | ⟨x, len, cap, m, n, D, Pl, rfl, _, hl, hm, hmm, _, hx⟩
  · exact ⟨_, [], rfl, ⟨none, 0, rfl, Nat.le_refl _, by simp [maxLen], fun h => absurd h (by simp)⟩, by simp⟩
  · by_cases hz : len = 0
    · subst hz
      exact ⟨_, [], rfl, ⟨some x, cap, rfl, Nat.zero_le _, hm, fun h => absurd h (by simp)⟩, by simp⟩
    have hlm : len ≤ m := by rw [hmm]; split <;> omega
    rw [cellsC] at hx
    have each : ∀ i, i < len → ∃ q : LC, q.ok ∧ W.cell? (x.add (i * 4)) = some (.int .u8 (q.op : Int)) ∧ W.cell? (x.add (i * 4 + 1)) = some (.int .i8 q.a) ∧ W.cell? (x.add (i * 4 + 2)) = some (.int .i8 q.b) ∧ W.cell? (x.add (i * 4 + 3)) = some (.int .i8 q.c) := by
      intro i hi
      obtain ⟨cs', h1, h2⟩ := hx i (by omega)
      obtain ⟨_, hlen, hcell⟩ := World.cells?_some h1
      obtain ⟨y0, y1, y2, y3, n', _, _, g0, g1, g2, g3⟩ := Go.Joins.trod_struct4 Tryz.underlying86 h2
      match cs', hlen with
      | [v0, v1, v2, v3], _ =>
        simp [cells8, cellsU8] at g0 g1 g2 g3
        obtain ⟨k0, hk0, _, w0⟩ := DataW.trod_int Tryz.underlying5 g0
        obtain ⟨k1, hk1, _, w1⟩ := DataW.trod_int Tryz.underlying24 g1
        obtain ⟨k2, hk2, _, w2⟩ := DataW.trod_int Tryz.underlying24 g2
        obtain ⟨k3, hk3, _, w3⟩ := DataW.trod_int Tryz.underlying24 g3
        simp at hk0 hk1 hk2 hk3
        subst hk0 hk1 hk2 hk3
        have b0 := bounds_u8 w0
        have e0 := hcell 0 (by omega)
        have e1 := hcell 1 (by omega)
        have e2 := hcell 2 (by omega)
        have e3 := hcell 3 (by omega)
        rw [add_twoV] at e0 e1 e2 e3
        obtain ⟨m0, rfl⟩ : ∃ m : Nat, k0 = (m : Int) := ⟨k0.toNat, by omega⟩
        exact ⟨⟨m0, k1, k2, k3⟩, ⟨by show m0 ≤ 255; omega, bounds_i8 w1, bounds_i8 w2, bounds_i8 w3⟩, by simpa using e0, by simpa using e1, by simpa using e2, by simpa using e3⟩
    obtain ⟨b, off, spot⟩ := x
    obtain ⟨q0, _, h00, _⟩ := each 0 (by omega)
    have hspot : spot = none := by simpa [Addr.add] using World.cell?_spot h00
    subst hspot
    have hbl : b < W.heap.size := World.block_lt_of_cell? _ _ (by simpa [Addr.add] using h00)
    simp only [add_plain, ← Nat.add_assoc] at each
    obtain ⟨L, hL1, hL2⟩ := choose_rowsV len _ each
    refine ⟨_, L, rfl, ⟨some ⟨b, off, none⟩, cap, by rw [hL1], by rw [hL1]; exact hl, hm, fun _ => ⟨b, off, rfl, hbl, fun j y hj => (hL2 j y hj).2⟩⟩, fun y hy => ?_⟩
    obtain ⟨i, hi⟩ := List.getElem?_of_mem hy
    exact (hL2 i y hi).1
theorem trod_struct6 {P : Program} {H : Type} {enc : TypeId × Value → H} {w : World} {base : Nat} {spare : Nat → Bool} {held : Bool} {t : TypeId} {f0 f1 f2 f3 f4 f5 : Field} {fuel : Nat} {cs : List Value} {x : DataW H × List MemPlace} (ht : P.underlying t = some (.struct #[f0, f1, f2, f3, f4, f5])) (h : DataW.trod enc P w base spare held fuel t cs = some x) :
    ∃ y0 y1 y2 y3 y4 y5 n, DataW.trod enc P w base spare held n f0.type ((cs.drop f0.offset).take (P.cellsOf f0.type)) = some y0 ∧
      DataW.trod enc P w base spare held n f1.type ((cs.drop f1.offset).take (P.cellsOf f1.type)) = some y1 ∧ DataW.trod enc P w base spare held n f2.type ((cs.drop f2.offset).take (P.cellsOf f2.type)) = some y2 ∧
      DataW.trod enc P w base spare held n f3.type ((cs.drop f3.offset).take (P.cellsOf f3.type)) = some y3 ∧ DataW.trod enc P w base spare held n f4.type ((cs.drop f4.offset).take (P.cellsOf f4.type)) = some y4 ∧ DataW.trod enc P w base spare held n f5.type ((cs.drop f5.offset).take (P.cellsOf f5.type)) = some y5 := by
  obtain ⟨xs, n, _, rfl, hl, hlen, hf⟩ := DataW.trod_struct ht h
  match xs, hlen with
  | [y0, y1, y2, y3, y4, y5], _ => exact ⟨y0, y1, y2, y3, y4, y5, n, by simpa using hf 0 f0 rfl, by simpa using hf 1 f1 rfl, by simpa using hf 2 f2 rfl, by simpa using hf 3 f3 rfl, by simpa using hf 4 f4 rfl, by simpa using hf 5 f5 rfl⟩
set_option maxRecDepth 100000 in
theorem open_rowF {H : Type} {enc : TypeId × Value → H} {W : World} {sp : Nat → Bool} {a : Option Addr} {len cap : Nat} {d : DataW H} {p : List MemPlace}
    (h : DataW.Trod enc Tryz.prog W 0 sp true 22 (.slice a len cap) d p) : ∃ xs : List LF, (∀ x ∈ xs, x.ok) ∧ LFS W (.slice a len cap) xs := by
  obtain ⟨fuel, hf⟩ := h
  rcases Deep.open_slice Tryz.underlying22 hf with ⟨hcs, _⟩ | ⟨x, l, c, m, n, D, Pl, hcs, _, hl, hm, hmm, _, hx⟩
  · simp [Value.cells] at hcs
    obtain ⟨rfl, rfl, rfl⟩ := hcs
    exact ⟨[], by simp, none, 0, rfl, Nat.le_refl _, by simp [maxLen], fun h => absurd h (by simp)⟩
  · simp [Value.cells] at hcs
    obtain ⟨rfl, rfl, rfl⟩ := hcs
    by_cases hz : len = 0
    · subst hz
      exact ⟨[], by simp, some x, cap, rfl, Nat.zero_le _, hm, fun h => absurd h (by simp)⟩
    have hlm : len ≤ m := by rw [hmm]; split <;> omega
    rw [cellsF] at hx
    have each : ∀ i, i < len → ∃ q : LF, q.ok ∧ ∃ hv iv, H8S W hv q.h ∧ LCS W iv q.cd ∧ W.cell? (x.add (i * 6)) = some (.int .i8 q.p) ∧ W.cell? (x.add (i * 6 + 1)) = some (.int .i8 q.r) ∧ W.cell? (x.add (i * 6 + 2)) = some hv ∧ W.cell? (x.add (i * 6 + 3)) = some (.int .u8 (q.n : Int)) ∧ W.cell? (x.add (i * 6 + 4)) = some iv ∧ W.cell? (x.add (i * 6 + 5)) = some (.bool q.e) := by
      intro i hi
      obtain ⟨cs', h1, h2⟩ := hx i (by omega)
      obtain ⟨_, hlen, hcell⟩ := World.cells?_some h1
      obtain ⟨y0, y1, y2, y3, y4, y5, n', g0, g1, g2, g3, g4, g5⟩ := trod_struct6 Tryz.underlying28 h2
      match cs', hlen with
      | [v0, v1, v2, v3, v4, v5], _ =>
        simp [cells8, cellsU8, cellsS8, cellsSC, cellsB] at g0 g1 g2 g3 g4 g5
        obtain ⟨k0, hk0, _, w0⟩ := DataW.trod_int Tryz.underlying24 g0
        obtain ⟨k1, hk1, _, w1⟩ := DataW.trod_int Tryz.underlying24 g1
        obtain ⟨hv, xs, hk2, hH, hHo⟩ := open_row8 g2
        obtain ⟨k3, hk3, _, w3⟩ := DataW.trod_int Tryz.underlying5 g3
        obtain ⟨iv, ys, hk4, hC, hCo⟩ := open_rowC g4
        obtain ⟨b5, hk5, _⟩ := DataW.trod_bool Tryz.underlying4 g5
        simp at hk0 hk1 hk2 hk3 hk4 hk5
        subst hk0 hk1 hk2 hk3 hk4 hk5
        have b3 := bounds_u8 w3
        have e0 := hcell 0 (by omega)
        have e1 := hcell 1 (by omega)
        have e2 := hcell 2 (by omega)
        have e3 := hcell 3 (by omega)
        have e4 := hcell 4 (by omega)
        have e5 := hcell 5 (by omega)
        rw [add_twoV] at e0 e1 e2 e3 e4 e5
        obtain ⟨m3, rfl⟩ : ∃ m : Nat, k3 = (m : Int) := ⟨k3.toNat, by omega⟩
        exact ⟨⟨k0, k1, xs, m3, ys, b5⟩, ⟨bounds_i8 w0, bounds_i8 w1, hHo, by show m3 ≤ 255; omega, hCo⟩, _, _, hH, hC, by simpa using e0, by simpa using e1, by simpa using e2, by simpa using e3, by simpa using e4, by simpa using e5⟩
    obtain ⟨b, off, spot⟩ := x
    obtain ⟨q0, _, _, _, _, _, h00, _⟩ := each 0 (by omega)
    have hspot : spot = none := by simpa [Addr.add] using World.cell?_spot h00
    subst hspot
    have hbl : b < W.heap.size := World.block_lt_of_cell? _ _ (by simpa [Addr.add] using h00)
    simp only [add_plain, ← Nat.add_assoc] at each
    obtain ⟨L, hL1, hL2⟩ := choose_rowsV len _ each
    refine ⟨L, fun y hy => ?_, ⟨some ⟨b, off, none⟩, cap, by rw [hL1], by rw [hL1]; exact hl, hm, fun _ => ⟨b, off, rfl, hbl, fun j y hj => (hL2 j y hj).2⟩⟩⟩
    obtain ⟨i, hi⟩ := List.getElem?_of_mem hy
    exact (hL2 i y hi).1
set_option linter.unusedSimpArgs false
section
variable {w w' : World} {base base2 size size2 n n2 : Nat} {e e2 : TypeId} {v v2 : Value} {xs xs2 : List Value}
theorem rown_ne (h : w.ownsRow base e size v n xs) {b : Nat} {cs : Array Value} {t : TypeId} {fz : Nat × Nat} (hb : w.heap[b]? = some (.cells cs t fz)) (h1 : e ≠ t) : v.ownBlock ≠ some b := by
  rcases h.2 with ⟨rfl, _⟩ | ⟨g, cap, cur, rfl, hbg, hg, r⟩
  · simp [Value.ownBlock]
  · simp only [Value.ownBlock]
    intro e
    injection e with e
    subst e
    rw [hg] at hb
    injection hb with hb
    injection hb with _ hb _
    exact h1 hb
theorem rown_set (h : w.ownsRow base e size v n xs) {b i : Nat} {cs : Array Value} {t : TypeId} {fz : Nat × Nat} (hb : w.heap[b]? = some (.cells cs t fz)) (h1 : e ≠ t) (u : Value) : (w.setCell ⟨b, i, none⟩ u).ownsRow base e size v n xs := by
  have hn := rown_ne h hb h1
  refine ⟨h.1, ?_⟩
  rcases h.2 with h0 | ⟨g, cap, cur, rfl, hbg, hg, r⟩
  · exact .inl h0
  · refine .inr ⟨g, cap, cur, rfl, hbg, ?_, r⟩
    rw [Below.heap_setCell _ _ _ _ (by rintro rfl; exact hn rfl)]
    exact hg
theorem rown_grown (h : w.ownsRow base e size v n xs) (k : w.ownsRow base2 e2 size2 v2 n2 xs2) (h1 : e ≠ e2) (hg : w.grownBy w' v2.ownBlock) : w'.ownsRow base e size v n xs := by
  refine ⟨h.1, ?_⟩
  rcases h.2 with h0 | ⟨g, cap, cur, rfl, hbg, hgg, r⟩
  · exact .inl h0
  · refine .inr ⟨g, cap, cur, rfl, hbg, ?_, r⟩
    rw [hg.block g (lt_of_block hgg) (fun e9 => rown_ne k hgg (fun h => h1 h.symm) e9.symm)]
    exact hgg
theorem rown_below (h : w.ownsRow base e size v n xs) (hb : Below w.heap.size w w') : w'.ownsRow base e size v n xs := by
  refine ⟨h.1, ?_⟩
  rcases h.2 with h0 | ⟨g, cap, cur, rfl, hbg, hgg, r⟩
  · exact .inl h0
  · exact .inr ⟨g, cap, cur, rfl, hbg, (hb.block g (lt_of_block hgg)).trans hgg, r⟩
theorem rown_shape (h : w.ownsRow base e size v n xs) : ∃ ad cap, v = .slice ad n cap ∧ (∀ l c, v = .slice none l c → c = 0) := by
  rcases h.2 with ⟨rfl, rfl⟩ | ⟨g, cap, cur, rfl, _⟩
  · exact ⟨_, _, rfl, by rintro l c h; cases h; rfl⟩
  · exact ⟨_, _, rfl, by rintro l c h; cases h⟩
end
def icell (x : VI) : List Value := [.int .u8 (x.op : Int), .int .i64 x.a, .int .i64 x.b, .int .i64 x.c]
def icells (l : List VI) : List Value := l.flatMap icell
theorem icells_len (l : List VI) : (icells l).length = l.length * 4 := by
  induction l with
  | nil => rfl
  | cons q l ih => rw [icells, List.flatMap_cons, List.length_append, ← icells, ih]; simp [icell]; omega
theorem icells_get {l : List VI} {j : Nat} {q : VI} (h : l[j]? = some q) : ∀ i, i < 4 → (icells l)[j * 4 + i]? = (icell q)[i]? := by
  intro i hi
  induction l generalizing j with
  | nil => simp at h
  | cons p l ih =>
    rw [icells, List.flatMap_cons, ← icells]
    cases j with
    | zero =>
      simp at h; subst h
      rw [List.getElem?_append_left (by simp [icell]; omega)]
      simp
    | succ j =>
      rw [List.getElem?_append_right (by simp [icell]; omega), show (j + 1) * 4 + i - (icell p).length = j * 4 + i from by simp [icell]; omega]
      exact ih (by simpa using h)
theorem row_zsl {w : World} {base : Nat} {v : Value} {l : List Int} (hown : w.ownsRow base 3 1 v l.length (zrow l)) : ZSl w v l := by
  rcases hown.2 with ⟨rfl, h0⟩ | ⟨g, cap, cur, rfl, _, hg, h1, h2, h3, h4⟩
  · have : l = [] := List.length_eq_zero_iff.1 h0
    subst this
    exact zsl_nil _
  · refine ⟨_, cap, rfl, h1, h2, fun _ => ⟨g, 0, rfl, lt_of_block hg, fun k n hk => ?_⟩⟩
    simp only [World.cell?, hg, Nat.zero_add]
    have hkl : k < l.length := (List.getElem?_eq_some_iff.1 hk).1
    have e : (zrow l)[k]? = some (.int .i64 n) := by rw [zrow, List.getElem?_map, hk]; rfl
    rw [← h4, List.getElem?_take, if_pos (by omega), Array.getElem?_toList] at e
    exact e
theorem row_iss {w : World} {base : Nat} {v : Value} {l : List VI} (hown : w.ownsRow base 51 4 v l.length (icells l)) : ISs w v l := by
  rcases hown.2 with ⟨rfl, h0⟩ | ⟨g, cap, cur, rfl, _, hg, h1, h2, h3, h4⟩
  · have : l = [] := List.length_eq_zero_iff.1 h0
    subst this
    exact ⟨none, 0, rfl, Nat.le_refl _, Nat.zero_le _, fun h => absurd h (by simp)⟩
  · refine ⟨_, cap, rfl, h1, h2, fun _ => ⟨g, 0, rfl, lt_of_block hg, fun j x hj => ?_⟩⟩
    have hjl : j < l.length := (List.getElem?_eq_some_iff.1 hj).1
    have key : ∀ i v, i < 4 → (icell x)[i]? = some v → w.cell? ⟨g, 0 + j * 4 + i, none⟩ = some v := by
      intro i v hi hv
      simp only [World.cell?, hg, Nat.zero_add]
      have e := icells_get hj i hi
      rw [← h4, hv, List.getElem?_take, if_pos (by omega), Array.getElem?_toList] at e
      exact e
    exact ⟨by simpa using key 0 _ (by decide) rfl, key 1 _ (by decide) rfl, key 2 _ (by decide) rfl, key 3 _ (by decide) rfl⟩
theorem rown_ty {w : World} {base size n : Nat} {e : TypeId} {xs : List Value} {ad : Option Addr} {cap : Nat} (h : w.ownsRow base e size (.slice ad n cap) n xs) : TyIn w ad n e := fun _ g o s ha => by
  subst ha
  rcases h.2 with ⟨e1, _⟩ | ⟨g2, cap2, cur, e1, _, hg, _⟩
  · cases e1
  · cases e1; exact ⟨_, _, hg⟩
theorem infoInS : (Tryz.prog.info? 51).map (fun i => (i.zero, i.size, i.bytes)) = some (some (.agg #[.int .u8 0, .int .i64 0, .int .i64 0, .int .i64 0]), 4, 32) := by kernel_rfl
theorem wpList_app_z {ops : Array Oper} {rest : List Oper} {o : Oper} {a : Act} {w : World} {Q : Exit → Act → World → Prop} (hgd : o.guard = none) (s x : Operand)
    (ho : o.op = .call { callee := .builtin .append, args := #[s, x], argTypes := #[43, 43] }) (base : Nat) (v : Value) (l : List Int)
    (hs : a.eval s = v) (hown : w.ownsRow base 3 1 v l.length (zrow l)) (q : Int) {g : Nat} (hx : a.eval x = .slice (some ⟨g, 0, none⟩) 1 1) {fz : Nat × Nat} (hg : w.heap[g]? = some (.cells #[.int .i64 q] 3 fz)) (hl : l.length ≤ 1000) (hbase : base ≤ w.heap.size)
    (hK : ∀ v' w', w'.ownsRow base 3 1 v' (l.length + 1) (zrow (l ++ [q])) → w.grownBy w' v.ownBlock → wpList Tryz.prog ops Q rest (a.put o.dst v') w') : wpList Tryz.prog ops Q (o :: rest) a w := by
  obtain ⟨i0, hi, hz0, hz1, hz2⟩ := info_parts infoInt
  refine wpList_append_own2 hgd s x 43 ho base 3 i0 _ 1 8 Tryz.underlying43 hi hz0 hz1 hz2 rfl (by decide) v l.length (zrow l) hs hown ⟨g, 0, none⟩ 1 1 [.int .i64 q] hx rfl (fun j u hj => addr_cell hg (by simpa using hj)) (by intro u hu; simp at hu; subst hu; rfl) (by decide) (by unfold maxLen; omega) (by omega) hbase ?_
  intro v' w' h1 h2 h3
  refine hK v' w' ?_ h2
  rw [show zrow (l ++ [q]) = zrow l ++ [.int .i64 q] from by simp [zrow]]
  exact h1
theorem wpList_app_i {ops : Array Oper} {rest : List Oper} {o : Oper} {a : Act} {w : World} {Q : Exit → Act → World → Prop} (hgd : o.guard = none) (s x : Operand)
    (ho : o.op = .call { callee := .builtin .append, args := #[s, x], argTypes := #[45, 45] }) (base : Nat) (v : Value) (l : List VI)
    (hs : a.eval s = v) (hown : w.ownsRow base 51 4 v l.length (icells l)) (q : VI) {g : Nat} (hx : a.eval x = .slice (some ⟨g, 0, none⟩) 1 1) {fz : Nat × Nat} {cs : Array Value} (hg : w.heap[g]? = some (.cells cs 51 fz)) (hcs : cs.toList = icell q) (hl : l.length ≤ 1000) (hbase : base ≤ w.heap.size)
    (hK : ∀ v' w', w'.ownsRow base 51 4 v' (l.length + 1) (icells (l ++ [q])) → w.grownBy w' v.ownBlock → wpList Tryz.prog ops Q rest (a.put o.dst v') w') : wpList Tryz.prog ops Q (o :: rest) a w := by
  obtain ⟨i0, hi, hz0, hz1, hz2⟩ := info_parts infoInS
  refine wpList_append_own2 hgd s x 45 ho base 51 i0 _ 4 32 Tryz.underlying45 hi hz0 hz1 hz2 rfl (by decide) v l.length (icells l) hs hown ⟨g, 0, none⟩ 1 1 (icell q) hx rfl (fun j u hj => addr_cell hg (by rw [← Array.getElem?_toList, hcs]; exact hj)) (by intro u hu; simp only [icell, List.mem_cons, List.not_mem_nil, or_false] at hu; rcases hu with rfl | rfl | rfl | rfl <;> rfl) (by decide) (by unfold maxLen; omega) (by omega) hbase ?_
  intro v' w' h1 h2 h3
  refine hK v' w' ?_ h2
  rw [show icells (l ++ [q]) = icells l ++ icell q from by simp [icells]]
  exact h1
end Go.Proofs.YtpboencfnjmmbaaGreatDoor

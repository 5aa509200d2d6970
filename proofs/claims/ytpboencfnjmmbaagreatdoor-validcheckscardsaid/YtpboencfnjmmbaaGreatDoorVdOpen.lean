/-
  From an argument of the law ValidChecks, a slice of functions by small numbers, to its cells.
  Conditions: none beyond the argument's reading.
-/
import Derived.Test.YtpboencfnjmmbaaGreatDoorVdRow
import Derived.ProofKit
import Derived.OpenShut
import Derived.Deep.Strs
import Derived.Deep.Slices
import Derived.Lib.SmallJoins
import Derived.Carry
namespace Go.Proofs.YtpboencfnjmmbaaGreatDoor
open Go.ChangeShapes Go.WideShapes Go.ChangeAt Go.RowKit
set_option linter.unusedVariables false
theorem cells8 : Tryz.prog.cellsOf 24 = 1 := by kernel_rfl
theorem cellsU8 : Tryz.prog.cellsOf 5 = 1 := by kernel_rfl
theorem cellsB : Tryz.prog.cellsOf 4 = 1 := by kernel_rfl
theorem cellsS8 : Tryz.prog.cellsOf 25 = 1 := by kernel_rfl
theorem cellsC : Tryz.prog.cellsOf 86 = 4 := by kernel_rfl
theorem cellsSC : Tryz.prog.cellsOf 26 = 1 := by kernel_rfl
theorem cellsF : Tryz.prog.cellsOf 28 = 6 := by kernel_rfl
def I8 (n : Int) : Prop := -128 ≤ n ∧ n ≤ 127
/-- An instruction, a function by small numbers. -/
structure LC where
  op : Nat
  a : Int
  b : Int
  c : Int
structure LF where
  p : Int
  r : Int
  h : List Int
  n : Nat
  cd : List LC
  e : Bool
def LC.ok (x : LC) : Prop := x.op ≤ 255 ∧ I8 x.a ∧ I8 x.b ∧ I8 x.c
structure LF.ok (f : LF) : Prop where
  p : I8 f.p
  r : I8 f.r
  h : ∀ n ∈ f.h, I8 n
  n : f.n ≤ 255
  cd : ∀ x ∈ f.cd, x.ok
def H8At (w : World) (l : List Int) (g o : Nat) : Prop := ∀ k n, l[k]? = some n → w.cell? ⟨g, o + k, none⟩ = some (.int .i8 n)
def LCAt (w : World) (l : List LC) (g o : Nat) : Prop := ∀ j x, l[j]? = some x → w.cell? ⟨g, o + j * 4, none⟩ = some (.int .u8 (x.op : Int)) ∧ w.cell? ⟨g, o + j * 4 + 1, none⟩ = some (.int .i8 x.a) ∧ w.cell? ⟨g, o + j * 4 + 2, none⟩ = some (.int .i8 x.b) ∧ w.cell? ⟨g, o + j * 4 + 3, none⟩ = some (.int .i8 x.c)
def H8S (w : World) (v : Value) (l : List Int) : Prop := VSl w v l.length (H8At w l)
def LCS (w : World) (v : Value) (l : List LC) : Prop := VSl w v l.length (LCAt w l)
def LFAt (w : World) (l : List LF) (g o : Nat) : Prop := ∀ j f, l[j]? = some f → ∃ hv iv, H8S w hv f.h ∧ LCS w iv f.cd ∧ w.cell? ⟨g, o + j * 6, none⟩ = some (.int .i8 f.p) ∧ w.cell? ⟨g, o + j * 6 + 1, none⟩ = some (.int .i8 f.r) ∧ w.cell? ⟨g, o + j * 6 + 2, none⟩ = some hv ∧ w.cell? ⟨g, o + j * 6 + 3, none⟩ = some (.int .u8 (f.n : Int)) ∧ w.cell? ⟨g, o + j * 6 + 4, none⟩ = some iv ∧ w.cell? ⟨g, o + j * 6 + 5, none⟩ = some (.bool f.e)
def LFS (w : World) (v : Value) (l : List LF) : Prop := VSl w v l.length (LFAt w l)
theorem H8S.up {w w' : World} {v : Value} {l : List Int} (h : H8S w v l) (hb : Below w.heap.size w w') : H8S w' v l :=
  VSl.up h hb.size fun g o hg hA k n hk => (vcell (hb.block g hg)).trans (hA k n hk)
theorem LCS.up {w w' : World} {v : Value} {l : List LC} (h : LCS w v l) (hb : Below w.heap.size w w') : LCS w' v l :=
  VSl.up h hb.size fun g o hg hA j x hj => by
    obtain ⟨h1, h2, h3, h4⟩ := hA j x hj
    have e : ∀ o, w'.cell? ⟨g, o, none⟩ = w.cell? ⟨g, o, none⟩ := fun o => vcell (hb.block g hg)
    exact ⟨(e _).trans h1, (e _).trans h2, (e _).trans h3, (e _).trans h4⟩
theorem LFS.up {w w' : World} {v : Value} {l : List LF} (h : LFS w v l) (hb : Below w.heap.size w w') : LFS w' v l :=
  VSl.up h hb.size fun g o hg hA j f hj => by
    obtain ⟨hv, iv, a, b, h1, h2, h3, h4, h5, h6⟩ := hA j f hj
    have e : ∀ o, w'.cell? ⟨g, o, none⟩ = w.cell? ⟨g, o, none⟩ := fun o => vcell (hb.block g hg)
    exact ⟨hv, iv, a.up hb, b.up hb, (e _).trans h1, (e _).trans h2, (e _).trans h3, (e _).trans h4, (e _).trans h5, (e _).trans h6⟩
theorem add_twoV {a : Addr} (i j : Nat) : (a.add i).add j = a.add (i + j) := by
  unfold Addr.add
  by_cases h : i = 0
  · subst h; simp
  · by_cases h' : j = 0
    · subst h'; simp
    · simp [h, h', Nat.add_assoc]
theorem choose_rowsV {α : Type} (n : Nat) (p : Nat → α → Prop) (h : ∀ i, i < n → ∃ x, p i x) : ∃ l : List α, l.length = n ∧ ∀ i x, l[i]? = some x → p i x := by
  induction n with
  | zero => exact ⟨[], rfl, by simp⟩
  | succ n ih =>
    obtain ⟨l, h1, h2⟩ := ih (fun i hi => h i (by omega))
    obtain ⟨x, hx⟩ := h n (by omega)
    refine ⟨l ++ [x], by simp [h1], fun i y hy => ?_⟩
    by_cases e : i < l.length
    · rw [List.getElem?_append_left e] at hy
      exact h2 i y hy
    · have hi : i = n := by
        have := (List.getElem?_eq_some_iff.1 hy).1
        simp at this
        omega
      subst hi
      rw [List.getElem?_append_right (by omega), h1] at hy
      simp at hy
      subst hy
      exact hx
set_option maxRecDepth 100000 in
theorem open_row8 {H : Type} {enc : TypeId × Value → H} {W : World} {sp : Nat → Bool} {fuel : Nat} {cs : List Value} {y : DataW H × List MemPlace}
    (hf : DataW.trod enc Tryz.prog W 0 sp true fuel 25 cs = some y) : ∃ iv xs, cs = [iv] ∧ H8S W iv xs ∧ ∀ x ∈ xs, I8 x := by
  rcases Deep.open_slice Tryz.underlying25 hf with ⟨rfl, _⟩ | ⟨x, len, cap, m, n, D, Pl, rfl, _, hl, hm, hmm, _, hx⟩
  · exact ⟨_, [], rfl, ⟨none, 0, rfl, Nat.le_refl _, by simp [maxLen], fun h => absurd h (by simp)⟩, by simp⟩
  · by_cases hz : len = 0
    · subst hz
      exact ⟨_, [], rfl, ⟨some x, cap, rfl, Nat.zero_le _, hm, fun h => absurd h (by simp)⟩, by simp⟩
    have hlm : len ≤ m := by rw [hmm]; split <;> omega
    rw [cells8] at hx
    have each : ∀ i, i < len → ∃ q : Int, I8 q ∧ W.cell? (x.add i) = some (.int .i8 q) := by
      intro i hi
      obtain ⟨cs', h1, h2⟩ := hx i (by omega)
      obtain ⟨k0, hk0, _, w0⟩ := DataW.trod_int Tryz.underlying24 h2
      subst hk0
      obtain ⟨_, hlen, hcell⟩ := World.cells?_some h1
      have e0 := hcell 0 (by omega)
      rw [add_twoV] at e0
      exact ⟨k0, bounds_i8 w0, by simpa using e0⟩
    obtain ⟨b, off, spot⟩ := x
    obtain ⟨q0, _, h00⟩ := each 0 (by omega)
    have hspot : spot = none := by simpa [Addr.add] using World.cell?_spot h00
    subst hspot
    have hbl : b < W.heap.size := World.block_lt_of_cell? _ _ (by simpa [Addr.add] using h00)
    simp only [add_plain] at each
    obtain ⟨L, hL1, hL2⟩ := choose_rowsV len _ each
    refine ⟨_, L, rfl, ⟨some ⟨b, off, none⟩, cap, by rw [hL1], by rw [hL1]; exact hl, hm, fun _ => ⟨b, off, rfl, hbl, fun j y hj => (hL2 j y hj).2⟩⟩, fun y hy => ?_⟩
    obtain ⟨i, hi⟩ := List.getElem?_of_mem hy
    exact (hL2 i y hi).1
set_option maxRecDepth 100000 in
theorem open_rowC {H : Type} {enc : TypeId × Value → H} {W : World} {sp : Nat → Bool} {fuel : Nat} {cs : List Value} {y : DataW H × List MemPlace}
    (hf : DataW.trod enc Tryz.prog W 0 sp true fuel 26 cs = some y) : ∃ iv xs, cs = [iv] ∧ LCS W iv xs ∧ ∀ x ∈ xs, x.ok := by
  rcases Deep.open_slice Tryz.underlying26 hf with ⟨rfl, _⟩ | ⟨x, len, cap, m, n, D, Pl, rfl, _, hl, hm, hmm, _, hx⟩
  · exact ⟨_, [], rfl, ⟨none, 0, rfl, Nat.le_refl _, by simp [maxLen], fun h => absurd h (by simp)⟩, by simp⟩
  · by_cases hz : len = 0
    · subst hz
      exact ⟨_, [], rfl, ⟨some x, cap, rfl, Nat.zero_le _, hm, fun h => absurd h (by simp)⟩, by simp⟩
    have hlm : len ≤ m := by rw [hmm]; split <;> omega
    rw [cellsC] at hx
    have each : ∀ i, i < len → ∃ q : LC, q.ok ∧ W.cell? (x.add (i * 4)) = some (.int .u8 (q.op : Int)) ∧ W.cell? (x.add (i * 4 + 1)) = some (.int .i8 q.a) ∧ W.cell? (x.add (i * 4 + 2)) = some (.int .i8 q.b) ∧ W.cell? (x.add (i * 4 + 3)) = some (.int .i8 q.c) := by
      intro i hi
      obtain ⟨cs', h1, h2⟩ := hx i (by omega)
      obtain ⟨_, hlen, hcell⟩ := World.cells?_some h1
      obtain ⟨y0, y1, y2, y3, n', _, _, g0, g1, g2, g3⟩ := Go.Joins.trod_struct4 Tryz.underlying86 h2
      match cs', hlen with
      | [v0, v1, v2, v3], _ =>
        simp [cells8, cellsU8] at g0 g1 g2 g3
        obtain ⟨k0, hk0, _, w0⟩ := DataW.trod_int Tryz.underlying5 g0
        obtain ⟨k1, hk1, _, w1⟩ := DataW.trod_int Tryz.underlying24 g1
        obtain ⟨k2, hk2, _, w2⟩ := DataW.trod_int Tryz.underlying24 g2
        obtain ⟨k3, hk3, _, w3⟩ := DataW.trod_int Tryz.underlying24 g3
        simp at hk0 hk1 hk2 hk3
        subst hk0 hk1 hk2 hk3
        have b0 := bounds_u8 w0
        have e0 := hcell 0 (by omega)
        have e1 := hcell 1 (by omega)
        have e2 := hcell 2 (by omega)
        have e3 := hcell 3 (by omega)
        rw [add_twoV] at e0 e1 e2 e3
        obtain ⟨m0, rfl⟩ : ∃ m : Nat, k0 = (m : Int) := ⟨k0.toNat, by omega⟩
        exact ⟨⟨m0, k1, k2, k3⟩, ⟨by show m0 ≤ 255; omega, bounds_i8 w1, bounds_i8 w2, bounds_i8 w3⟩, by simpa using e0, by simpa using e1, by simpa using e2, by simpa using e3⟩
    obtain ⟨b, off, spot⟩ := x
    obtain ⟨q0, _, h00, _⟩ := each 0 (by omega)
    have hspot : spot = none := by simpa [Addr.add] using World.cell?_spot h00
    subst hspot
    have hbl : b < W.heap.size := World.block_lt_of_cell? _ _ (by simpa [Addr.add] using h00)
    simp only [add_plain, ← Nat.add_assoc] at each
    obtain ⟨L, hL1, hL2⟩ := choose_rowsV len _ each
    refine ⟨_, L, rfl, ⟨some ⟨b, off, none⟩, cap, by rw [hL1], by rw [hL1]; exact hl, hm, fun _ => ⟨b, off, rfl, hbl, fun j y hj => (hL2 j y hj).2⟩⟩, fun y hy => ?_⟩
    obtain ⟨i, hi⟩ := List.getElem?_of_mem hy
    exact (hL2 i y hi).1
theorem trod_struct6 {P : Program} {H : Type} {enc : TypeId × Value → H} {w : World} {base : Nat} {spare : Nat → Bool} {held : Bool} {t : TypeId} {f0 f1 f2 f3 f4 f5 : Field} {fuel : Nat} {cs : List Value} {x : DataW H × List MemPlace} (ht : P.underlying t = some (.struct #[f0, f1, f2, f3, f4, f5])) (h : DataW.trod enc P w base spare held fuel t cs = some x) :
    ∃ y0 y1 y2 y3 y4 y5 n, DataW.trod enc P w base spare held n f0.type ((cs.drop f0.offset).take (P.cellsOf f0.type)) = some y0 ∧
      DataW.trod enc P w base spare held n f1.type ((cs.drop f1.offset).take (P.cellsOf f1.type)) = some y1 ∧ DataW.trod enc P w base spare held n f2.type ((cs.drop f2.offset).take (P.cellsOf f2.type)) = some y2 ∧
      DataW.trod enc P w base spare held n f3.type ((cs.drop f3.offset).take (P.cellsOf f3.type)) = some y3 ∧ DataW.trod enc P w base spare held n f4.type ((cs.drop f4.offset).take (P.cellsOf f4.type)) = some y4 ∧ DataW.trod enc P w base spare held n f5.type ((cs.drop f5.offset).take (P.cellsOf f5.type)) = some y5 := by
  obtain ⟨xs, n, _, rfl, hl, hlen, hf⟩ := DataW.trod_struct ht h
  match xs, hlen with
  | [y0, y1, y2, y3, y4, y5], _ => exact ⟨y0, y1, y2, y3, y4, y5, n, by simpa using hf 0 f0 rfl, by simpa using hf 1 f1 rfl, by simpa using hf 2 f2 rfl, by simpa using hf 3 f3 rfl, by simpa using hf 4 f4 rfl, by simpa using hf 5 f5 rfl⟩
set_option maxRecDepth 100000 in
theorem open_rowF {H : Type} {enc : TypeId × Value → H} {W : World} {sp : Nat → Bool} {a : Option Addr} {len cap : Nat} {d : DataW H} {p : List MemPlace}
    (h : DataW.Trod enc Tryz.prog W 0 sp true 22 (.slice a len cap) d p) : ∃ xs : List LF, (∀ x ∈ xs, x.ok) ∧ LFS W (.slice a len cap) xs := by
  obtain ⟨fuel, hf⟩ := h
  rcases Deep.open_slice Tryz.underlying22 hf with ⟨hcs, _⟩ | ⟨x, l, c, m, n, D, Pl, hcs, _, hl, hm, hmm, _, hx⟩
  · simp [Value.cells] at hcs
    obtain ⟨rfl, rfl, rfl⟩ := hcs
    exact ⟨[], by simp, none, 0, rfl, Nat.le_refl _, by simp [maxLen], fun h => absurd h (by simp)⟩
  · simp [Value.cells] at hcs
    obtain ⟨rfl, rfl, rfl⟩ := hcs
    by_cases hz : len = 0
    · subst hz
      exact ⟨[], by simp, some x, cap, rfl, Nat.zero_le _, hm, fun h => absurd h (by simp)⟩
    have hlm : len ≤ m := by rw [hmm]; split <;> omega
    rw [cellsF] at hx
    have each : ∀ i, i < len → ∃ q : LF, q.ok ∧ ∃ hv iv, H8S W hv q.h ∧ LCS W iv q.cd ∧ W.cell? (x.add (i * 6)) = some (.int .i8 q.p) ∧ W.cell? (x.add (i * 6 + 1)) = some (.int .i8 q.r) ∧ W.cell? (x.add (i * 6 + 2)) = some hv ∧ W.cell? (x.add (i * 6 + 3)) = some (.int .u8 (q.n : Int)) ∧ W.cell? (x.add (i * 6 + 4)) = some iv ∧ W.cell? (x.add (i * 6 + 5)) = some (.bool q.e) := by
      intro i hi
      obtain ⟨cs', h1, h2⟩ := hx i (by omega)
      obtain ⟨_, hlen, hcell⟩ := World.cells?_some h1
      obtain ⟨y0, y1, y2, y3, y4, y5, n', g0, g1, g2, g3, g4, g5⟩ := trod_struct6 Tryz.underlying28 h2
      match cs', hlen with
      | [v0, v1, v2, v3, v4, v5], _ =>
        simp [cells8, cellsU8, cellsS8, cellsSC, cellsB] at g0 g1 g2 g3 g4 g5
        obtain ⟨k0, hk0, _, w0⟩ := DataW.trod_int Tryz.underlying24 g0
        obtain ⟨k1, hk1, _, w1⟩ := DataW.trod_int Tryz.underlying24 g1
        obtain ⟨hv, xs, hk2, hH, hHo⟩ := open_row8 g2
        obtain ⟨k3, hk3, _, w3⟩ := DataW.trod_int Tryz.underlying5 g3
        obtain ⟨iv, ys, hk4, hC, hCo⟩ := open_rowC g4
        obtain ⟨b5, hk5, _⟩ := DataW.trod_bool Tryz.underlying4 g5
        simp at hk0 hk1 hk2 hk3 hk4 hk5
        subst hk0 hk1 hk2 hk3 hk4 hk5
        have b3 := bounds_u8 w3
        have e0 := hcell 0 (by omega)
        have e1 := hcell 1 (by omega)
        have e2 := hcell 2 (by omega)
        have e3 := hcell 3 (by omega)
        have e4 := hcell 4 (by omega)
        have e5 := hcell 5 (by omega)
        rw [add_twoV] at e0 e1 e2 e3 e4 e5
        obtain ⟨m3, rfl⟩ : ∃ m : Nat, k3 = (m : Int) := ⟨k3.toNat, by omega⟩
        exact ⟨⟨k0, k1, xs, m3, ys, b5⟩, ⟨bounds_i8 w0, bounds_i8 w1, hHo, by show m3 ≤ 255; omega, hCo⟩, _, _, hH, hC, by simpa using e0, by simpa using e1, by simpa using e2, by simpa using e3, by simpa using e4, by simpa using e5⟩
    obtain ⟨b, off, spot⟩ := x
    obtain ⟨q0, _, _, _, _, _, h00, _⟩ := each 0 (by omega)
    have hspot : spot = none := by simpa [Addr.add] using World.cell?_spot h00
    subst hspot
    have hbl : b < W.heap.size := World.block_lt_of_cell? _ _ (by simpa [Addr.add] using h00)
    simp only [add_plain, ← Nat.add_assoc] at each
    obtain ⟨L, hL1, hL2⟩ := choose_rowsV len _ each
    refine ⟨L, fun y hy => ?_, ⟨some ⟨b, off, none⟩, cap, by rw [hL1], by rw [hL1]; exact hl, hm, fun _ => ⟨b, off, rfl, hbl, fun j y hj => (hL2 j y hj).2⟩⟩⟩
    obtain ⟨i, hi⟩ := List.getElem?_of_mem hy
    exact (hL2 i y hi).1
end Go.Proofs.YtpboencfnjmmbaaGreatDoor

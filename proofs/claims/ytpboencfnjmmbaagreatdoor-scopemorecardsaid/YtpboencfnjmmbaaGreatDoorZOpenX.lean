/-
 From an argument of the laws of layer 6 and on, a slice of rows of numbers, to its cells.
 Conditions: none beyond the argument's reading.
-/
import Derived.Test.YtpboencfnjmmbaaGreatDoorZJSo
import Derived.Lib.SmallJoins
set_option maxRecDepth 100000
set_option linter.unusedVariables false
namespace Go.Proofs.YtpboencfnjmmbaaGreatDoor
open Go.ChangeShapes Go.WideShapes Go.ChangeAt Go.RowKit
theorem cellsX : Tryz.prog.cellsOf 69 = 4 := by kernel_rfl
theorem cellsX8 : Tryz.prog.cellsOf 5 = 1 := by kernel_rfl
theorem cellsX16 : Tryz.prog.cellsOf 54 = 1 := by kernel_rfl
theorem add_two {a : Addr} (i j : Nat) : (a.add i).add j = a.add (i + j) := by
 unfold Addr.add
 by_cases h : i = 0
 ·subst h; simp
 ·by_cases h' : j = 0
  ·subst h'; simp
  ·simp [h, h', Nat.add_assoc]
theorem choose_rows {α : Type} (n : Nat) (p : Nat → α → Prop) (h : ∀ i, i < n → ∃ x, p i x) : ∃ l : List α, l.length = n ∧ ∀ i x, l[i]? = some x → p i x := by
 induction n with
 | zero => exact ⟨[], rfl, by simp⟩
 | succ n ih =>
  obtain ⟨l, h1, h2⟩ := ih (fun i hi => h i (by omega))
  obtain ⟨x, hx⟩ := h n (by omega)
  refine ⟨l ++ [x], by simp [h1], fun i y hy => ?_⟩
  by_cases e : i < l.length
  ·rw [List.getElem?_append_left e] at hy
   exact h2 i y hy
  ·have hi : i = n := by
    have := (List.getElem?_eq_some_iff.1 hy).1
    simp at this
    omega
   subst hi
   rw [List.getElem?_append_right (by omega), h1] at hy
   simp at hy
   subst hy
   exact hx
theorem open_rowX {H : Type} {enc : TypeId × Value → H} {W : World} {sp : Nat → Bool} {a : Option Addr} {len cap : Nat} {d : DataW H} {p : List MemPlace}
 (h : DataW.Trod enc Tryz.prog W 0 sp true 37 (.slice a len cap) d p) : ∃ xs : List XX, (∀ x ∈ xs, x.ok) ∧ XSl W (.slice a len cap) xs := by
 obtain ⟨fuel, hf⟩ := h
 rcases Deep.open_slice Tryz.underlying37 hf with ⟨hcs, _⟩ | ⟨x, l, c, m, n, D, Pl, hcs, _, hl, hm, hmm, _, hx⟩
 ·simp [Value.cells] at hcs
  obtain ⟨rfl, rfl, rfl⟩ := hcs
  exact ⟨[], by simp, none, 0, rfl, Nat.le_refl _, by simp [maxLen], fun h => absurd h (by simp)⟩
 ·simp [Value.cells] at hcs
  obtain ⟨rfl, rfl, rfl⟩ := hcs
  by_cases hz : len = 0
  ·subst hz
   exact ⟨[], by simp, some x, cap, rfl, Nat.zero_le _, hm, fun h => absurd h (by simp)⟩
  have hlm : len ≤ m := by rw [hmm]; split <;> omega
  rw [cellsX] at hx
  have each : ∀ i, i < len → ∃ q : XX, q.ok ∧ W.cell? (x.add (i * 4)) = some (.int .u8 (q.d : Int)) ∧ W.cell? (x.add (i * 4 + 1)) = some (.int .u8 (q.a : Int)) ∧ W.cell? (x.add (i * 4 + 2)) = some (.int .u16 (q.n : Int)) ∧ W.cell? (x.add (i * 4 + 3)) = some (.int .u8 (q.s : Int)) := by
   intro i hi
   obtain ⟨cs', h1, h2⟩ := hx i (by omega)
   obtain ⟨_, hlen, hcell⟩ := World.cells?_some h1
   obtain ⟨y0, y1, y2, y3, n', _, _, g0, g1, g2, g3⟩ := Go.Joins.trod_struct4 Tryz.underlying69 h2
   match cs', hlen with
   | [v0, v1, v2, v3], _ =>
    simp [cellsX8, cellsX16] at g0 g1 g2 g3
    obtain ⟨k0, hk0, _, w0⟩ := DataW.trod_int Tryz.underlying5 g0
    obtain ⟨k1, hk1, _, w1⟩ := DataW.trod_int Tryz.underlying5 g1
    obtain ⟨k2, hk2, _, w2⟩ := DataW.trod_int Tryz.underlying54 g2
    obtain ⟨k3, hk3, _, w3⟩ := DataW.trod_int Tryz.underlying5 g3
    simp at hk0 hk1 hk2 hk3
    subst hk0 hk1 hk2 hk3
    have b0 := bounds_u8 w0
    have b1 := bounds_u8 w1
    have b2 := bounds_u16 w2
    have b3 := bounds_u8 w3
    have e0 := hcell 0 (by omega)
    have e1 := hcell 1 (by omega)
    have e2 := hcell 2 (by omega)
    have e3 := hcell 3 (by omega)
    rw [add_two] at e0 e1 e2 e3
    obtain ⟨m0, rfl⟩ : ∃ m : Nat, k0 = (m : Int) := ⟨k0.toNat, by omega⟩
    obtain ⟨m1, rfl⟩ : ∃ m : Nat, k1 = (m : Int) := ⟨k1.toNat, by omega⟩
    obtain ⟨m2, rfl⟩ : ∃ m : Nat, k2 = (m : Int) := ⟨k2.toNat, by omega⟩
    obtain ⟨m3, rfl⟩ : ∃ m : Nat, k3 = (m : Int) := ⟨k3.toNat, by omega⟩
    exact ⟨⟨m0, m1, m2, m3⟩, ⟨by show m0 ≤ 255; omega, by show m1 ≤ 255; omega, by show m2 ≤ 65535; omega, by show m3 ≤ 255; omega⟩, by simpa using e0, by simpa using e1, by simpa using e2, by simpa using e3⟩
  obtain ⟨b, off, spot⟩ := x
  obtain ⟨q0, _, h00, _⟩ := each 0 (by omega)
  have hspot : spot = none := by simpa [Addr.add] using World.cell?_spot h00
  subst hspot
  have hbl : b < W.heap.size := World.block_lt_of_cell? _ _ (by simpa [Addr.add] using h00)
  simp only [add_plain, ← Nat.add_assoc] at each
  obtain ⟨L, hL1, hL2⟩ := choose_rows len _ each
  refine ⟨L, fun y hy => ?_, some ⟨b, off, none⟩, cap, by rw [hL1], by rw [hL1]; exact hl, hm, fun _ => ⟨b, off, rfl, hbl, fun j y hj => (hL2 j y hj).2⟩⟩
  obtain ⟨i, hi⟩ := List.getElem?_of_mem hy
  exact (hL2 i y hi).1
end Go.Proofs.YtpboencfnjmmbaaGreatDoor

/-
  From arguments of layer 4's laws, read as data, to their cells: rows of bytes; rows of objects, each with a row of bytes within.
  Conditions: none beyond the argument's reading.
-/
import Derived.Test.YtpgbfkdknggceaaGreatDoorRows
import Derived.Test.YtpgbfkdknggceaaGreatDoorMakeP
import Derived.WalkKit
import Derived.ProofKit
import Derived.OpenShut
import Derived.Deep.Strs
import Derived.Deep.Slices
import Derived.Lib.SmallJoins
import Derived.Carry
namespace Go.Proofs.YtpgbfkdknggceaaGreatDoor
open Go.ChangeShapes Go.WideShapes Go.ChangeAt Go.RowKit
set_option linter.unusedVariables false
/-- A row of bytes that is only looked at. -/
def BRow (w : World) (v : Value) (l : List Int) : Prop :=
  ∃ a cap, v = .slice a l.length cap ∧ l.length ≤ cap ∧ cap ≤ maxLen ∧ (∀ x ∈ l, 0 ≤ x ∧ x ≤ 255) ∧ (l ≠ [] → ∃ g off, a = some ⟨g, off, none⟩ ∧ g < w.heap.size ∧ ∀ j x, l[j]? = some x → w.cell? ⟨g, off + j, none⟩ = some (.int .u8 x))
theorem BRow.below {w w' : World} {v : Value} {l : List Int} (h : BRow w v l) (hb : Below w.heap.size w w') : BRow w' v l := by
  obtain ⟨a, cap, h1, h2, h3, h4, h5⟩ := h
  refine ⟨a, cap, h1, h2, h3, h4, fun hne => ?_⟩
  obtain ⟨g, off, e1, e2, e3⟩ := h5 hne
  exact ⟨g, off, e1, Nat.lt_of_lt_of_le e2 hb.size, fun j x hj => (hb.cell (p := ⟨g, off + j, none⟩) e2).trans (e3 j x hj)⟩
theorem cellsU8 : Tryz.prog.cellsOf 5 = 1 := by kernel_rfl
theorem cellsBool : Tryz.prog.cellsOf 4 = 1 := by kernel_rfl
theorem cellsBytes : Tryz.prog.cellsOf 38 = 1 := by kernel_rfl
theorem cellsO : Tryz.prog.cellsOf 86 = 3 := by kernel_rfl
theorem open_bytes {H : Type} {enc : TypeId × Value → H} {W : World} {base : Nat} {sp : Nat → Bool} {held : Bool} {fuel : Nat} {v : Value} {x : DataW H × List MemPlace}
    (h : DataW.trod enc Tryz.prog W base sp held fuel 38 [v] = some x) : ∃ l, BRow W v l := by
  rcases open_ints Tryz.underlying38 Tryz.underlying5 (by kernel_rfl) h with ⟨hcs, _⟩ | ⟨y, l, c, zs, hcs, _, hl, hm, hz, _, hcell, hwz⟩
  · simp at hcs
    subst hcs
    exact ⟨[], none, 0, rfl, by simp, by simp [maxLen], by simp, by simp⟩
  · simp at hcs
    subst hcs
    have hzl : l ≤ zs.length := by rw [hz]; split <;> omega
    have htl : (zs.take l).length = l := by simp; omega
    refine ⟨zs.take l, some y, c, by rw [htl], by rw [htl]; exact hl, hm, fun n hn => bounds_u8 (hwz n (List.mem_of_mem_take hn)), fun hne => ?_⟩
    have h0 : 0 < l := by
      rcases Nat.eq_zero_or_pos l with h | h
      · subst h; simp at hne
      · exact h
    obtain ⟨b, off, rfl, hc⟩ := ints_at hcell (by omega)
    refine ⟨b, off, rfl, World.block_lt_of_cell? _ _ (hc 0 (by omega)), fun j n hj => ?_⟩
    have hjl : j < l := by
      have := (List.getElem?_eq_some_iff.1 hj).1
      omega
    rw [List.getElem?_take_of_lt hjl] at hj
    rw [hc j (by omega)]
    simp [List.getD_eq_getElem?_getD, hj]
theorem add_mul {a : Addr} (i j : Nat) : (a.add i).add j = a.add (i + j) := by
  unfold Addr.add
  by_cases h : i = 0
  · subst h; simp
  · by_cases h' : j = 0
    · subst h'; simp
    · simp [h, h', Nat.add_assoc]
/-- A row of objects of the laws that is only looked at. -/
def ORowU (w : World) (v : Value) (L : List OO) : Prop :=
  ∃ b off cap, v = .slice (some ⟨b, off, none⟩) L.length cap ∧ L.length ≤ cap ∧ cap ≤ maxLen ∧ ∀ i oo, L[i]? = some oo → OAt w b (off + i * 3) oo
theorem choose_list {α : Type} (n : Nat) (p : Nat → α → Prop) (h : ∀ i, i < n → ∃ x, p i x) : ∃ l : List α, l.length = n ∧ ∀ i x, l[i]? = some x → p i x := by
  induction n with
  | zero => exact ⟨[], rfl, by simp⟩
  | succ n ih =>
    obtain ⟨l, h1, h2⟩ := ih (fun i hi => h i (by omega))
    obtain ⟨x, hx⟩ := h n (by omega)
    refine ⟨l ++ [x], by simp [h1], fun i y hy => ?_⟩
    by_cases e : i < l.length
    · rw [List.getElem?_append_left e] at hy
      exact h2 i y hy
    · have hi : i = n := by
        have := (List.getElem?_eq_some_iff.1 hy).1
        simp at this
        omega
      subst hi
      rw [List.getElem?_append_right (by omega), h1] at hy
      simp at hy
      subst hy
      exact hx
set_option maxRecDepth 100000 in
theorem open_rowO {H : Type} {enc : TypeId × Value → H} {W : World} {sp : Nat → Bool} {a : Option Addr} {len cap : Nat} {d : DataW H} {p : List MemPlace}
    (h : DataW.Trod enc Tryz.prog W 0 sp true 87 (.slice a len cap) d p) : len ≤ maxLen ∧ (len = 0 ∨ ∃ L, L.length = len ∧ ORowU W (.slice a len cap) L) := by
  obtain ⟨fuel, hf⟩ := h
  rcases Deep.open_slice Tryz.underlying87 hf with ⟨hcs, _⟩ | ⟨x, l, c, m, n, D, Pl, hcs, _, hl, hm, hmm, _, hx⟩
  · simp [Value.cells] at hcs
    obtain ⟨rfl, rfl, rfl⟩ := hcs
    exact ⟨Nat.zero_le _, .inl rfl⟩
  · simp [Value.cells] at hcs
    obtain ⟨rfl, rfl, rfl⟩ := hcs
    refine ⟨Nat.le_trans hl hm, ?_⟩
    by_cases hz : len = 0
    · exact .inl hz
    right
    have hlm : len ≤ m := by rw [hmm]; split <;> omega
    rw [cellsO] at hx
    have each : ∀ i, i < len → ∃ (q : OO × Value), W.cell? (x.add (i * 3)) = some q.2 ∧ W.cell? (x.add (i * 3 + 1)) = some (.bool q.1.proxy) ∧ W.cell? (x.add (i * 3 + 2)) = some (.int .u8 q.1.mem) ∧ (0 ≤ q.1.mem ∧ q.1.mem ≤ 255) ∧ BRow W q.2 q.1.names := by
      intro i hi
      obtain ⟨cs', h1, h2⟩ := hx i (by omega)
      obtain ⟨_, hlen, hcell⟩ := World.cells?_some h1
      obtain ⟨y0, y1, y2, n', _, _, g0, g1, g2⟩ := Deep.trod_struct3 Tryz.underlying86 h2
      match cs', hlen with
      | [v0, v1, v2], _ =>
        simp [cellsU8, cellsBool, cellsBytes] at g0 g1 g2
        obtain ⟨ns, hns⟩ := open_bytes g0
        obtain ⟨pb, hpb, _⟩ := DataW.trod_bool Tryz.underlying4 g1
        obtain ⟨k2, hk2, _, wk2⟩ := DataW.trod_int Tryz.underlying5 g2
        simp at hpb hk2
        subst hpb hk2
        have e0 := hcell 0 (by omega)
        have e1 := hcell 1 (by omega)
        have e2 := hcell 2 (by omega)
        rw [add_mul] at e0 e1 e2
        exact ⟨(⟨ns, pb, k2⟩, v0), by simpa using e0, by simpa using e1, by simpa using e2, bounds_u8 wk2, hns⟩
    obtain ⟨b, off, spot⟩ := x
    obtain ⟨q0, h00, _⟩ := each 0 (by omega)
    have hspot : spot = none := by simpa [Addr.add] using World.cell?_spot h00
    subst hspot
    have hbl : b < W.heap.size := World.block_lt_of_cell? _ _ (by simpa [Addr.add] using h00)
    obtain ⟨L, hL1, hL2⟩ := choose_list len (fun i oo => OAt W b (off + i * 3) oo) (fun i hi => by
      obtain ⟨⟨oo, v⟩, e0, e1, e2, e3, a, cp, hv, r1, r2, r3, r4⟩ := each i hi
      simp only [add_plain, ← Nat.add_assoc] at e0 e1 e2
      simp only at hv
      subst hv
      exact ⟨oo, hbl, a, cp, e0, e1, e2, e3.1, e3.2, r1, r2, r3, r4⟩)
    exact ⟨L, hL1, b, off, cap, by rw [hL1], by rw [hL1]; exact hl, hm, hL2⟩
end Go.Proofs.YtpgbfkdknggceaaGreatDoor

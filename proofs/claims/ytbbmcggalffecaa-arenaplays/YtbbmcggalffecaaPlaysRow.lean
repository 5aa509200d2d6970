/-
  From a slice argument of ArenaPlays's steps, read as1 data, to its cells.
  Conditions: none beyond the argument's reading.
-/
import Derived.Test.YtbbmcggalffecaaRows
import Derived.WalkKit
import Derived.ProofKit
import Derived.OpenShut
import Derived.Deep.Strs
import Derived.Lib.SmallJoins
import Derived.Carry
namespace Go.Proofs.Ytbbmcggalffecaa
open Go.ChangeShapes Go.WideShapes Go.ChangeAt Go.RowKit
set_option linter.unusedVariables false
/-- What the walk is told of a slice of steps that came in. -/
def IsRowS (w : World) (a : Option Addr) (len cap : Nat) (ds as1 bs ns : Nat → Int) : Prop :=
  len = 0 ∨
  ∃ b off, a = some ⟨b, off, none⟩ ∧ len ≤ cap ∧ cap ≤ maxLen ∧ b < w.heap.size ∧ ∀ j, j < len → (w.cell? ⟨b, off + j * 4, none⟩ = some (.int .u8 (ds j)) ∧ w.cell? ⟨b, off + j * 4 + 1, none⟩ = some (.int .u8 (as1 j)) ∧ w.cell? ⟨b, off + j * 4 + 2, none⟩ = some (.int .u8 (bs j)) ∧ w.cell? ⟨b, off + j * 4 + 3, none⟩ = some (.int .i8 (ns j))) ∧
    (0 ≤ ds j ∧ ds j ≤ 255) ∧ (0 ≤ as1 j ∧ as1 j ≤ 255) ∧ (0 ≤ bs j ∧ bs j ≤ 255) ∧ (-128 ≤ ns j ∧ ns j ≤ 127)
theorem add_mul {a : Addr} (i j : Nat) : (a.add i).add j = a.add (i + j) := by
  unfold Addr.add
  by_cases h : i = 0
  · subst h; simp
  · by_cases h' : j = 0
    · subst h'; simp
    · simp [h, h', Nat.add_assoc]
theorem choose_four {p : Nat → Int → Int → Int → Int → Prop} (n : Nat) (h : ∀ i, i < n → ∃ a b c d, p i a b c d) : ∃ (f g r s : Nat → Int), ∀ i, i < n → p i (f i) (g i) (r i) (s i) := by
  classical
  refine ⟨fun i => if hi : i < n then (h i hi).choose else 0, fun i => if hi : i < n then (h i hi).choose_spec.choose else 0, fun i => if hi : i < n then (h i hi).choose_spec.choose_spec.choose else 0, fun i => if hi : i < n then (h i hi).choose_spec.choose_spec.choose_spec.choose else 0, fun i hi => ?_⟩
  simp only [dif_pos hi]
  exact (h i hi).choose_spec.choose_spec.choose_spec.choose_spec
theorem cells34 : Try.prog.cellsOf 34 = 4 := by kernel_rfl
theorem cells_5 : Try.prog.cellsOf 5 = 1 := by kernel_rfl
theorem cells_32 : Try.prog.cellsOf 32 = 1 := by kernel_rfl
theorem bounds_i8 {n : Int} (h : (Lit.int .i8 n).wf = true) : -128 ≤ n ∧ n ≤ 127 := by
  simp [Lit.wf, IntKind.min, IntKind.max, IntKind.bits, IntKind.signed] at h
  omega
set_option maxRecDepth 100000 in
theorem open_rowS {H : Type} {enc : TypeId × Value → H} {W : World} {sp : Nat → Bool} {a : Option Addr} {len cap : Nat} {d : DataW H} {p : List MemPlace}
    (h : DataW.Trod enc Try.prog W 0 sp true 22 (.slice a len cap) d p) : len ≤ maxLen ∧ ∃ ds as1 bs ns, IsRowS W a len cap ds as1 bs ns := by
  obtain ⟨fuel, hf⟩ := h
  rcases Deep.open_slice Try.underlying22 hf with ⟨hcs, _⟩ | ⟨x, l, c, m, n, D, Pl, hcs, _, hl, hm, hmm, _, hx⟩
  · simp [Value.cells] at hcs
    obtain ⟨rfl, rfl, rfl⟩ := hcs
    exact ⟨Nat.zero_le _, fun _ => 0, fun _ => 0, fun _ => 0, fun _ => 0, .inl rfl⟩
  · simp [Value.cells] at hcs
    obtain ⟨rfl, rfl, rfl⟩ := hcs
    refine ⟨Nat.le_trans hl hm, ?_⟩
    have hlm : len ≤ m := by rw [hmm]; split <;> omega
    rw [cells34] at hx
    have each : ∀ i, i < len → ∃ (k1 k2 k3 k4 : Int), (W.cell? (x.add (i * 4)) = some (.int .u8 k1) ∧ W.cell? (x.add (i * 4 + 1)) = some (.int .u8 k2) ∧ W.cell? (x.add (i * 4 + 2)) = some (.int .u8 k3) ∧ W.cell? (x.add (i * 4 + 3)) = some (.int .i8 k4)) ∧
        (0 ≤ k1 ∧ k1 ≤ 255) ∧ (0 ≤ k2 ∧ k2 ≤ 255) ∧ (0 ≤ k3 ∧ k3 ≤ 255) ∧ (-128 ≤ k4 ∧ k4 ≤ 127) := by
      intro i hi
      obtain ⟨cs', h1, h2⟩ := hx i (by omega)
      obtain ⟨_, hlen, hcell⟩ := World.cells?_some h1
      obtain ⟨y0, y1, y2, y3, n', _, _, g0, g1, g2, g3⟩ := Joins.trod_struct4 Try.underlying34 h2
      match cs', hlen with
      | [v0, v1, v2, v3], _ =>
        simp [cells_5, cells_32] at g0 g1 g2 g3
        obtain ⟨k1, hk1, _, wk1⟩ := DataW.trod_int Try.underlying5 g0
        obtain ⟨k2, hk2, _, wk2⟩ := DataW.trod_int Try.underlying5 g1
        obtain ⟨k3, hk3, _, wk3⟩ := DataW.trod_int Try.underlying5 g2
        obtain ⟨k4, hk4, _, wk4⟩ := DataW.trod_int Try.underlying32 g3
        simp at hk1 hk2 hk3 hk4
        subst hk1 hk2 hk3 hk4
        have e0 := hcell 0 (by omega)
        have e1 := hcell 1 (by omega)
        have e2 := hcell 2 (by omega)
        have e3 := hcell 3 (by omega)
        rw [add_mul] at e0 e1 e2 e3
        exact ⟨k1, k2, k3, k4, ⟨by simpa using e0, by simpa using e1, by simpa using e2, by simpa using e3⟩, bounds_u8 wk1, bounds_u8 wk2, bounds_u8 wk3, bounds_i8 wk4⟩
    obtain ⟨ds, as1, bs, ns, hall⟩ := choose_four len each
    refine ⟨ds, as1, bs, ns, ?_⟩
    by_cases hz : len = 0
    · exact .inl hz
    · right
      obtain ⟨b, off, spot⟩ := x
      have h00 := (hall 0 (by omega)).1.1
      have hspot : spot = none := by simpa [Addr.add] using World.cell?_spot h00
      subst hspot
      refine ⟨b, off, rfl, hl, hm, World.block_lt_of_cell? _ _ (by simpa [Addr.add] using h00), fun j hj => ?_⟩
      have := hall j hj
      simp only [add_plain, ← Nat.add_assoc] at this
      exact this
end Go.Proofs.Ytbbmcggalffecaa

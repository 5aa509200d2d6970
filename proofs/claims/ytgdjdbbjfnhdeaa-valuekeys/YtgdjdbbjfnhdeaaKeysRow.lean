/-
  From a slice argument of the laws' type V, read as data, to its cells; and the walk of ValueKeys at every such slice.
  Conditions: none beyond the argument's reading.
-/
import Derived.Test.YtgdjdbbjfnhdeaaKeys
namespace Go.Proofs.Ytgdjdbbjfnhdeaa
open Go.ChangeShapes Go.WideShapes Go.ChangeAt Go.RowKit
set_option linter.unusedVariables false
/-- What the walk is told of a slice of the laws' type V that came in. -/
def IsRowV (w : World) (a : Option Addr) (len cap : Nat) (ks ns : Nat → Int) (ss : Nat → ByteArray) : Prop :=
  len = 0 ∨
  ∃ b off, a = some ⟨b, off, none⟩ ∧ len ≤ cap ∧ cap ≤ maxLen ∧ b < w.heap.size ∧ ∀ j, j < len → w.cell? ⟨b, off + j * 3, none⟩ = some (.int .u8 (ks j)) ∧ w.cell? ⟨b, off + j * 3 + 1, none⟩ = some (.int .i64 (ns j)) ∧ w.cell? ⟨b, off + j * 3 + 2, none⟩ = some (.string (ss j)) ∧
    (Lit.int .u8 (ks j)).wf = true ∧ (Lit.int .i64 (ns j)).wf = true ∧ (ss j).size ≤ maxLen
theorem add_mul {a : Addr} (i j : Nat) : (a.add i).add j = a.add (i + j) := by
  unfold Addr.add
  by_cases h : i = 0
  · subst h; simp
  · by_cases h' : j = 0
    · subst h'; simp
    · simp [h, h', Nat.add_assoc]
theorem choose_three {p : Nat → Int → Int → ByteArray → Prop} (n : Nat) (h : ∀ i, i < n → ∃ a b c, p i a b c) : ∃ (f g : Nat → Int) (s : Nat → ByteArray), ∀ i, i < n → p i (f i) (g i) (s i) := by
  classical
  refine ⟨fun i => if hi : i < n then (h i hi).choose else 0, fun i => if hi : i < n then (h i hi).choose_spec.choose else 0, fun i => if hi : i < n then (h i hi).choose_spec.choose_spec.choose else ByteArray.empty, fun i hi => ?_⟩
  simp only [dif_pos hi]
  exact (h i hi).choose_spec.choose_spec.choose_spec
theorem open_rowV {H : Type} {enc : TypeId × Value → H} {W : World} {sp : Nat → Bool} {a : Option Addr} {len cap : Nat} {d : DataW H} {p : List MemPlace}
    (h : DataW.Trod enc Try.prog W 0 sp true 38 (.slice a len cap) d p) : len ≤ maxLen ∧ ∃ ks ns ss, IsRowV W a len cap ks ns ss := by
  obtain ⟨fuel, hf⟩ := h
  rcases Deep.open_slice Try.underlying38 hf with ⟨hcs, _⟩ | ⟨x, l, c, m, n, D, Pl, hcs, _, hl, hm, hmm, _, hx⟩
  · simp [Value.cells] at hcs
    obtain ⟨rfl, rfl, rfl⟩ := hcs
    exact ⟨Nat.zero_le _, fun _ => 0, fun _ => 0, fun _ => ByteArray.empty, .inl rfl⟩
  · simp [Value.cells] at hcs
    obtain ⟨rfl, rfl, rfl⟩ := hcs
    refine ⟨Nat.le_trans hl hm, ?_⟩
    have hlm : len ≤ m := by rw [hmm]; split <;> omega
    rw [cells35] at hx
    have each : ∀ i, i < len → ∃ (k q : Int) (s : ByteArray), W.cell? (x.add (i * 3)) = some (.int .u8 k) ∧ W.cell? (x.add (i * 3 + 1)) = some (.int .i64 q) ∧ W.cell? (x.add (i * 3 + 2)) = some (.string s) ∧
        (Lit.int .u8 k).wf = true ∧ (Lit.int .i64 q).wf = true ∧ s.size ≤ maxLen := by
      intro i hi
      obtain ⟨cs', h1, h2⟩ := hx i (by omega)
      obtain ⟨_, hlen, hcell⟩ := World.cells?_some h1
      obtain ⟨y0, y1, y2, n', _, _, g0, g1, g2⟩ := Deep.trod_struct3 Try.underlying35 h2
      match cs', hlen with
      | [v0, v1, v2], _ =>
        simp [cells5, cells2, cells9] at g0 g1 g2
        obtain ⟨k, hk, _, wk⟩ := DataW.trod_int Try.underlying5 g0
        obtain ⟨q, hq, _, wq⟩ := DataW.trod_int Try.underlying2 g1
        obtain ⟨s, hs, _, ws⟩ := DataW.trod_string Try.underlying9 g2
        simp at hk hq hs
        subst hk hq hs
        have e0 := hcell 0 (by omega)
        have e1 := hcell 1 (by omega)
        have e2 := hcell 2 (by omega)
        rw [add_mul] at e0 e1 e2
        exact ⟨k, q, s, by simpa using e0, by simpa using e1, by simpa using e2, wk, wq, ws⟩
    obtain ⟨ks, ns, ss, hall⟩ := choose_three len each
    refine ⟨ks, ns, ss, ?_⟩
    by_cases hz : len = 0
    · exact .inl hz
    · right
      obtain ⟨b, off, spot⟩ := x
      have h00 := (hall 0 (by omega)).1
      have hspot : spot = none := by simpa [Addr.add] using World.cell?_spot h00
      subst hspot
      refine ⟨b, off, rfl, hl, hm, World.block_lt_of_cell? _ _ (by simpa [Addr.add] using h00), fun j hj => ?_⟩
      have := hall j hj
      simp only [add_plain, ← Nat.add_assoc] at this
      exact this
theorem mkN_wf (k n : Int) (hn : (Lit.int .i64 n).wf = true) : (Lit.int .i64 (mkN k n)).wf = true := by
  have := bounds_i64 hn
  unfold mkN
  split
  · exact wf_bits _ _ _ _
  · split
    · exact hn
    · split
      · refine WalkArith.wf_i64 ?_
        have h1 := Int.tmod_lt_of_pos (wrap64 (n.tmod 6 + 6)) (show (0 : Int) < 6 by decide)
        have h2 := Int.lt_tmod_of_pos (wrap64 (n.tmod 6 + 6)) (show (0 : Int) < 6 by decide)
        omega
      · decide
theorem mkS_size (k : Int) (s : ByteArray) (h : s.size ≤ maxLen) : (mkS k s).size ≤ maxLen := by
  unfold mkS
  split
  · exact h
  · exact Nat.zero_le _
theorem mod_wf (k : Int) (h : (Lit.int .u8 k).wf = true) : (Lit.int .u8 (k % 5)).wf = true := by
  have := bounds_u8 h
  exact WalkArith.wf_u8 (by omega)
theorem keys_row (a : Option Addr) (len cap : Nat) (w : World) (hm : len ≤ maxLen) (h : ∃ ks ns ss, IsRowV w a len cap ks ns ss) :
    Calls Try.prog 5 #[.slice a len cap] w fun e w' => e = .returned (.bool true) ∧ Below w.heap.size w w' := by
  obtain ⟨ks, ns, ss, h⟩ := h
  by_cases c0 : 40 < len
  · exact keys_long a len cap w c0 hm
  · rcases h with rfl | ⟨b, off, rfl, hl, hm2, hb, hall⟩
    · exact keys_none a cap w
    · let f : Nat → Nat := fun j => if j < len then j else 0
      by_cases c1 : len = 0
      · subst c1
        exact keys_none _ cap w
      · have hf : ∀ j, f j < len := fun j => by simp only [f]; split <;> omega
        have hfe : ∀ j, j < len → f j = j := fun j hj => by simp only [f]; rw [if_pos hj]
        refine keys_any b off len cap (fun j => ks (f j)) (fun j => ns (f j)) (fun j => ss (f j)) (fun j => keyBytes [.int .u8 (ks (f j) % 5), .int .i64 (mkN (ks (f j)) (ns (f j))), .string (mkS (ks (f j)) (ss (f j))).data.toList]) w (by omega) hb hl hm2
          (fun j hj => by rw [hfe j hj]; exact (hall j hj).1) (fun j hj => by rw [hfe j hj]; exact (hall j hj).2.1) (fun j hj => by rw [hfe j hj]; exact (hall j hj).2.2.1)
          (fun j => bounds_u8 (hall _ (hf j)).2.2.2.1) (fun j => bounds_i64 (hall _ (hf j)).2.2.2.2.1) (fun j => ?_)
        have hj := hall _ (hf j)
        exact key26 _ _ _ (mod_wf _ hj.2.2.2.1) (mkN_wf _ _ hj.2.2.2.2.1) (mkS_size _ _ hj.2.2.2.2.2)
end Go.Proofs.Ytgdjdbbjfnhdeaa

/-
  A region that draws its order and in which a row of bytes grows, call by call: what has been put behind it so far; a row of new bytes that waits to be put behind.
  Conditions: as each theorem says.
-/
import Derived.Test.YtpgbfkdknggceaaGreatDoorTrInt
import Derived.Test.YtpgbfkdknggceaaGreatDoorRgn
namespace Go.Proofs.YtpgbfkdknggceaaGreatDoor
open Go.RowKit TM
set_option linter.unusedVariables false
/-- A chain of operations (number, slot, bytes that it puts behind): the row as it is now, and its bytes. -/
def cur (l : Nat → Bool) (a : Act) : Value → List (Nat × Nat × Bs) → Value
  | v, [] => v
  | v, x :: C => if l x.1 then cur l a (a.eval (.tmp x.2.1)) C else v
def curX (l : Nat → Bool) : Bs → List (Nat × Nat × Bs) → Bs
  | s, [] => s
  | s, x :: C => if l x.1 then curX l (s ++ x.2.2) C else s
theorem cur_pure {l : Nat → Bool} {a : Act} {i d : Nat} {u : Value} : ∀ {C : List (Nat × Nat × Bs)} {v : Value}, (∀ x ∈ C, x.1 ≠ i ∧ x.2.1 ≠ d) → cur (more l i) (a.put (some d) u) v C = cur l a v C
  | [], v, h => rfl
  | x :: C, v, h => by
    have hx := h x (by simp)
    simp only [cur, more_ne l hx.1, eval_other hx.2]
    rw [cur_pure (fun y hy => h y (by simp [hy]))]
theorem curX_pure {l : Nat → Bool} {i : Nat} : ∀ {C : List (Nat × Nat × Bs)} {s : Bs}, (∀ x ∈ C, x.1 ≠ i) → curX (more l i) s C = curX l s C
  | [], s, h => rfl
  | x :: C, s, h => by
    simp only [curX, more_ne l (h x (by simp))]
    rw [curX_pure (fun y hy => h y (by simp [hy]))]
/-- All ahead of it is done, nothing behind it. -/
theorem cur_step {l : Nat → Bool} {a : Act} {i d : Nat} {m : Bs} {u : Value} (hd : d < a.tmps.size) : ∀ {C1 C2 : List (Nat × Nat × Bs)} {v : Value}, (∀ x ∈ C1, l x.1 = true) → (∀ x ∈ C2, l x.1 = false ∧ x.1 ≠ i) → cur (more l i) (a.put (some d) u) v (C1 ++ (i, d, m) :: C2) = u
  | [], C2, v, h1, h2 => by
    simp only [List.nil_append, cur, more_self, if_true]
    rw [eval_put _ _ _ _ hd, if_pos rfl]
    cases C2 with
    | nil => rfl
    | cons x C2 =>
      have := h2 x (by simp)
      simp only [cur, more_ne l this.2, this.1, Bool.false_eq_true, if_false]
  | x :: C1, C2, v, h1, h2 => by
    simp only [List.cons_append, cur, more_of l (h1 x (by simp)), if_true]
    exact cur_step hd (fun y hy => h1 y (by simp [hy])) h2
theorem curX_step {l : Nat → Bool} {i d : Nat} {m : Bs} : ∀ {C1 C2 : List (Nat × Nat × Bs)} {s : Bs}, (∀ x ∈ C1, l x.1 = true) → l i = false → (∀ x ∈ C2, l x.1 = false ∧ x.1 ≠ i) → curX (more l i) s (C1 ++ (i, d, m) :: C2) = curX l s (C1 ++ (i, d, m) :: C2) ++ m
  | [], C2, s, h1, hi, h2 => by
    simp only [List.nil_append, curX, more_self, if_true, hi, Bool.false_eq_true, if_false]
    cases C2 with
    | nil => rfl
    | cons x C2 =>
      have := h2 x (by simp)
      simp only [curX, more_ne l this.2, this.1, Bool.false_eq_true, if_false]
  | x :: C1, C2, s, h1, hi, h2 => by
    simp only [List.cons_append, curX, more_of l (h1 x (by simp)), h1 x (by simp), if_true]
    exact curX_step (fun y hy => h1 y (by simp [hy])) hi h2
/-- What holds within such a region: the row; the new bytes m (laid by operation bi into slot bd, put behind by operation bc). -/
structure JC (B : Nat) (w0 : World) (v0 : Value) (x0 : Bs) (C : List (Nat × Nat × Bs)) (bi bd bc : Nat) (m : Bs) (z zs : Nat) (l : Nat → Bool) (a : Act) (W : World) : Prop where
  gr : Gr w0 W v0 (cur l a v0 C)
  row : Bt B W (cur l a v0 C) (curX l x0 C)
  bld : l bi = true → l bc = false → ∃ g, a.eval (.tmp bd) = .slice (some ⟨g, 0, none⟩) m.length m.length ∧ W.heap[g]? = some (.cells (Lib.byteCells m).toArray 5 (0, 0)) ∧ (cur l a v0 C).ownBlock ≠ some g
  s0 : l z = false → a.eval (.tmp zs) = v0
section
variable {B : Nat} {w0 : World} {v0 : Value} {x0 : Bs} {C C1 C2 : List (Nat × Nat × Bs)} {bi bd bc z zs : Nat} {m : Bs} {l : Nat → Bool} {a : Act} {W W' : World}
theorem JC.start (h : Bt B w0 v0 x0) (a : Act) (ha : a.eval (.tmp zs) = v0) : JC B w0 v0 x0 C bi bd bc m z zs (fun _ => false) a w0.drew := by
  have e1 : cur (fun _ => false) a v0 C = v0 := by cases C <;> rfl
  have e2 : curX (fun _ => false) x0 C = x0 := by cases C <;> rfl
  refine ⟨?_, ?_, fun h => by simp at h, fun _ => ha⟩
  · rw [e1]; exact (Gr.refl _ _).drew
  · rw [e1, e2]; exact h
theorem JC.pureB (h : JC B w0 v0 x0 C bi bd bc m z zs l a W) {i d : Nat} {u : Value} (hC : ∀ x ∈ C, x.1 ≠ i ∧ x.2.1 ≠ d) (hb : bi ≠ i ∧ bc ≠ i ∧ bd ≠ d ∧ z ≠ i ∧ zs ≠ d) (hw : Below W.heap.size W W') : JC B w0 v0 x0 C bi bd bc m z zs (more l i) (a.put (some d) u) W' := by
  have e1 := cur_pure (l := l) (a := a) (i := i) (d := d) (u := u) (v := v0) hC
  have e2 := curX_pure (l := l) (i := i) (s := x0) (fun x hx => (hC x hx).1)
  refine ⟨?_, ?_, fun h1 h2 => ?_, fun h1 => by rw [more_ne _ hb.2.2.2.1] at h1; rw [eval_other hb.2.2.2.2]; exact h.s0 h1⟩
  · rw [e1]; exact h.gr.below hw
  · rw [e1, e2]; exact h.row.below hw
  · rw [more_ne _ hb.1] at h1
    rw [more_ne _ hb.2.1] at h2
    obtain ⟨g, g1, g2, g3⟩ := h.bld h1 h2
    exact ⟨g, by rw [eval_other hb.2.2.1]; exact g1, (hw.block g (Array.getElem?_eq_some_iff.1 g2).1).trans g2, by rw [e1]; exact g3⟩
theorem JC.pure (h : JC B w0 v0 x0 C bi bd bc m z zs l a W) {i d : Nat} {u : Value} (hC : ∀ x ∈ C, x.1 ≠ i ∧ x.2.1 ≠ d) (hb : bi ≠ i ∧ bc ≠ i ∧ bd ≠ d ∧ z ≠ i ∧ zs ≠ d) : JC B w0 v0 x0 C bi bd bc m z zs (more l i) (a.put (some d) u) W :=
  h.pureB hC hb (Below.refl _ _)
theorem JC.build (h : JC B w0 v0 x0 C bi bd bc m z zs l a W) (hC : ∀ x ∈ C, x.1 ≠ bi ∧ x.2.1 ≠ bd) (hz : z ≠ bi ∧ zs ≠ bd) (hd : bd < a.tmps.size) {cs : Array Value} (hcs : cs.toList = Lib.byteCells m) {n : Nat} (hn : n = m.length) :
    JC B w0 v0 x0 C bi bd bc m z zs (more l bi) (a.put (some bd) (.slice (some ⟨W.heap.size, 0, none⟩) n n)) (W.alloc (.cells cs 5)) := by
  subst hn
  obtain rfl : cs = (Lib.byteCells m).toArray := by rw [← hcs]
  have e1 := cur_pure (l := l) (a := a) (i := bi) (d := bd) (u := .slice (some ⟨W.heap.size, 0, none⟩) m.length m.length) (v := v0) hC
  have e2 := curX_pure (l := l) (i := bi) (s := x0) (fun x hx => (hC x hx).1)
  refine ⟨?_, ?_, fun h1 h2 => ⟨W.heap.size, ?_, heap_alloc_new _ _, ?_⟩, fun h1 => by rw [more_ne _ hz.1] at h1; rw [eval_other hz.2]; exact h.s0 h1⟩
  · rw [e1]; exact h.gr.alloc _
  · rw [e1, e2]; exact h.row.alloc _
  · rw [eval_put _ _ _ _ hd, if_pos rfl]
  · rw [e1]
    intro e
    have := (h.row.lt _ e).2
    omega
/-- The row grows by what operation i puts behind it. -/
theorem JC.step {i d : Nat} {k : Bs} (h : JC B w0 v0 x0 (C1 ++ (i, d, k) :: C2) bi bd bc m z zs l a W) (hd : d < a.tmps.size) (h1 : ∀ x ∈ C1, l x.1 = true) (hi : l i = false) (h2 : ∀ x ∈ C2, l x.1 = false ∧ x.1 ≠ i) (hb : bi ≠ i ∧ bd ≠ d ∧ (z = i ∨ zs ≠ d)) {u : Value}
    (hr : Bt B W' u (curX l x0 (C1 ++ (i, d, k) :: C2) ++ k)) (hg : Gr W W' (cur l a v0 (C1 ++ (i, d, k) :: C2)) u) : JC B w0 v0 x0 (C1 ++ (i, d, k) :: C2) bi bd bc m z zs (more l i) (a.put (some d) u) W' := by
  have e1 := cur_step (l := l) (a := a) (i := i) (d := d) (m := k) (u := u) hd (v := v0) h1 h2
  have e2 := curX_step (l := l) (i := i) (d := d) (m := k) (s := x0) h1 hi h2
  refine ⟨?_, ?_, fun q1 q2 => ?_, fun q1 => ?_⟩
  · rw [e1]; exact h.gr.trans hg
  · rw [e1, e2]; exact hr
  · rw [more_ne _ hb.1] at q1
    have q3 : l bc = false := by
      by_cases e : bc = i
      · rw [e]; exact hi
      · rwa [more_ne _ e] at q2
    obtain ⟨g, g1, g2, g3⟩ := h.bld q1 q3
    have hlt := (Array.getElem?_eq_some_iff.1 g2).1
    refine ⟨g, by rw [eval_other hb.2.1]; exact g1, (hg.g.block g hlt (fun e => g3 e.symm)).trans g2, ?_⟩
    rw [e1]
    intro e
    rcases hg.o g e with h5 | h5
    · exact g3 h5
    · omega
  · rcases hb.2.2 with hz | hz
    · rw [hz, more_self] at q1; cases q1
    · rw [eval_other hz]
      by_cases hz2 : z = i
      · rw [hz2, more_self] at q1; cases q1
      · rw [more_ne _ hz2] at q1; exact h.s0 q1
/-- The row is handed on to another slot. -/
theorem JC.hand {i d : Nat} (h : JC B w0 v0 x0 (C1 ++ (i, d, []) :: C2) bi bd bc m z zs l a W) (hd : d < a.tmps.size) (h1 : ∀ x ∈ C1, l x.1 = true) (hi : l i = false) (h2 : ∀ x ∈ C2, l x.1 = false ∧ x.1 ≠ i) (hb : bi ≠ i ∧ bd ≠ d ∧ (z = i ∨ zs ≠ d)) {u : Value} (hc : cur l a v0 (C1 ++ (i, d, []) :: C2) = u) :
    JC B w0 v0 x0 (C1 ++ (i, d, []) :: C2) bi bd bc m z zs (more l i) (a.put (some d) u) W := by
  subst hc
  exact h.step hd h1 hi h2 hb (by rw [List.append_nil]; exact h.row) (Gr.refl _ _)
/-- A string is put behind: the step's run. -/
theorem JC.str {i d : Nat} {s : ByteArray} (h : JC B w0 v0 x0 (C1 ++ (i, d, s.data.toList) :: C2) bi bd bc m z zs l a W) (hB : B ≤ w0.heap.size) (hd : d < a.tmps.size) (h1 : ∀ x ∈ C1, l x.1 = true) (hi : l i = false) (h2 : ∀ x ∈ C2, l x.1 = false ∧ x.1 ≠ i) (hb : bi ≠ i ∧ bd ≠ d ∧ (z = i ∨ zs ≠ d)) {vc : Value} (hc : cur l a v0 (C1 ++ (i, d, s.data.toList) :: C2) = vc) (hl : (curX l x0 (C1 ++ (i, d, s.data.toList) :: C2)).length + s.size ≤ 1000000000000) (ty : TypeId) :
    ∃ u W', (Builtin.append_ #[38, 9] ty #[vc, .string s]).run Tryz.prog W = .ok u W' ∧ JC B w0 v0 x0 (C1 ++ (i, d, s.data.toList) :: C2) bi bd bc m z zs (more l i) (a.put (some d) u) W' := by
  subst hc
  obtain ⟨u, W', hr, r1, r2⟩ := run_app_str (P := Tryz.prog) rfl h.row (Nat.le_trans hB h.gr.size) s hl ty
  exact ⟨u, W', hr, h.step hd h1 hi h2 hb r1 r2⟩
/-- The waiting bytes are put behind. -/
theorem JC.put {d : Nat} (h : JC B w0 v0 x0 (C1 ++ (bc, d, m) :: C2) bi bd bc m z zs l a W) (hB : B ≤ w0.heap.size) (hd : d < a.tmps.size) (h1 : ∀ x ∈ C1, l x.1 = true) (hi : l bc = false) (hbi : l bi = true) (h2 : ∀ x ∈ C2, l x.1 = false ∧ x.1 ≠ bc) (hb : bi ≠ bc ∧ bd ≠ d ∧ (z = bc ∨ zs ≠ d)) {k : Nat} (hk : m.length = k) (hm : 0 < k) {vc : Value} (hc : cur l a v0 (C1 ++ (bc, d, m) :: C2) = vc) (hl : (curX l x0 (C1 ++ (bc, d, m) :: C2)).length + m.length ≤ 1000000000000) (ty : TypeId) :
    ∃ g u W', a.eval (.tmp bd) = .slice (some ⟨g, 0, none⟩) k k ∧ (Builtin.append_ #[38, 38] ty #[vc, .slice (some ⟨g, 0, none⟩) k k]).run Tryz.prog W = .ok u W' ∧ JC B w0 v0 x0 (C1 ++ (bc, d, m) :: C2) bi bd bc m z zs (more l bc) (a.put (some d) u) W' := by
  subst hc
  subst hk
  obtain ⟨g, g1, g2, g3⟩ := h.bld hbi hi
  obtain ⟨u, W', hr, r1, r2⟩ := run_app_row (P := Tryz.prog) rfl h.row (Nat.le_trans hB h.gr.size) m (g := g) (n := m.length) (c := m.length) (cs := (Lib.byteCells m).toArray) rfl g2 rfl hm hl ty
  exact ⟨g, u, W', g1, hr, h.step hd h1 hi h2 hb r1 r2⟩
end
end Go.Proofs.YtpgbfkdknggceaaGreatDoor

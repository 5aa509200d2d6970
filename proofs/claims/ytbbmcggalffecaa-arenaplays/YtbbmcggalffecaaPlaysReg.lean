/-
  M of ArenaPlays while three of its rows are being turned in an order that is drawn: what each row and each of M's cells is by what has been done.
  Conditions: as each theorem says.
-/
import Derived.Test.YtbbmcggalffecaaPlaysStep
import Derived.Test.YtbbmcggalffecaaRgn
namespace Go.Proofs.Ytbbmcggalffecaa
open Go.ChangeShapes Go.WideShapes Go.ChangeAt Go.RowKit
set_option linter.unusedVariables false
def isM (t : Nat) : Bool := only 51 t || only 3 t || only 2 t || only 31 t
/-- M's block: its five cells; its five rows, three of which are turned. -/
structure WR (base mb : Nat) (qs gs : List Int) (vq vg y1 y2 y3 c1 c2 c3 : Value) (z1 z2 z3 : List Int) (w0 w : World) : Prop where
  hb : base ≤ mb
  cell : w.heap[mb]? = some (.cells #[vq, y1, y2, y3, vg] 31 (0, 0))
  q : w.ownsRow base 3 1 vq qs.length (qs.map (Value.int .i64))
  g : w.ownsRow base 51 1 vg gs.length (gs.map (Value.int .u64))
  r1 : w.ownsRow base 51 1 c1 z1.length (z1.map (Value.int .u64))
  r2 : w.ownsRow base 3 1 c2 z2.length (z2.map (Value.int .i64))
  r3 : w.ownsRow base 2 1 c3 z3.length (z3.map (Value.int .i64))
  aq : vq.ownBlock = none ∨ vq.ownBlock ≠ c2.ownBlock
  ag : c1.ownBlock = none ∨ c1.ownBlock ≠ vg.ownBlock
  fr : Fr isM base w0 w
section
variable {base mb : Nat} {qs gs : List Int} {vq vg y1 y2 y3 c1 c2 c3 : Value} {z1 z2 z3 : List Int} {w0 w w' : World}
theorem WR.alloc (h : WR base mb qs gs vq vg y1 y2 y3 c1 c2 c3 z1 z2 z3 w0 w) (o : Obj) : WR base mb qs gs vq vg y1 y2 y3 c1 c2 c3 z1 z2 z3 w0 (w.alloc o) :=
  ⟨h.hb, block_alloc h.cell o, h.q.alloc o, h.g.alloc o, h.r1.alloc o, h.r2.alloc o, h.r3.alloc o, h.aq, h.ag, h.fr.alloc o⟩
theorem WR.row1 (h : WR base mb qs gs vq vg y1 y2 y3 c1 c2 c3 z1 z2 z3 w0 w) {v' : Value} {z' : List Int} (hg : w.grownBy w' c1.ownBlock) (ho : w'.ownsRow base 51 1 v' z'.length (z'.map (Value.int .u64))) (hl : v'.ownBlock = c1.ownBlock ∨ v'.ownBlock = some w.heap.size) : WR base mb qs gs vq vg y1 y2 y3 v' c2 c3 z' z2 z3 w0 w' :=
  ⟨h.hb, block_grown hg h.cell (own_ne h.r1 h.cell (by decide)), h.q.kept hg (own_own h.q h.r1 (by decide)), h.g.kept hg (ne_swap h.ag), ho, h.r2.kept hg (own_own h.r2 h.r1 (by decide)), h.r3.kept hg (own_own h.r3 h.r1 (by decide)), h.aq, own_apart h.g (Nat.le_refl _) h.ag hl, h.fr.grown hg (fun k hk => mine_row h.r1 (by decide) k hk)⟩
theorem WR.row2 (h : WR base mb qs gs vq vg y1 y2 y3 c1 c2 c3 z1 z2 z3 w0 w) {v' : Value} {z' : List Int} (hg : w.grownBy w' c2.ownBlock) (ho : w'.ownsRow base 3 1 v' z'.length (z'.map (Value.int .i64))) (hl : v'.ownBlock = c2.ownBlock ∨ v'.ownBlock = some w.heap.size) : WR base mb qs gs vq vg y1 y2 y3 c1 v' c3 z1 z' z3 w0 w' :=
  ⟨h.hb, block_grown hg h.cell (own_ne h.r2 h.cell (by decide)), h.q.kept hg h.aq, h.g.kept hg (own_own h.g h.r2 (by decide)), h.r1.kept hg (own_own h.r1 h.r2 (by decide)), ho, h.r3.kept hg (own_own h.r3 h.r2 (by decide)), ne_swap (own_apart h.q (Nat.le_refl _) (ne_swap h.aq) hl), h.ag, h.fr.grown hg (fun k hk => mine_row h.r2 (by decide) k hk)⟩
theorem WR.row3 (h : WR base mb qs gs vq vg y1 y2 y3 c1 c2 c3 z1 z2 z3 w0 w) {v' : Value} {z' : List Int} (hg : w.grownBy w' c3.ownBlock) (ho : w'.ownsRow base 2 1 v' z'.length (z'.map (Value.int .i64))) : WR base mb qs gs vq vg y1 y2 y3 c1 c2 v' z1 z2 z' w0 w' :=
  ⟨h.hb, block_grown hg h.cell (own_ne h.r3 h.cell (by decide)), h.q.kept hg (own_own h.q h.r3 (by decide)), h.g.kept hg (own_own h.g h.r3 (by decide)), h.r1.kept hg (own_own h.r1 h.r3 (by decide)), h.r2.kept hg (own_own h.r2 h.r3 (by decide)), ho, h.aq, h.ag, h.fr.grown hg (fun k hk => mine_row h.r3 (by decide) k hk)⟩
theorem WR.set1 (h : WR base mb qs gs vq vg y1 y2 y3 c1 c2 c3 z1 z2 z3 w0 w) (u : Value) : WR base mb qs gs vq vg u y2 y3 c1 c2 c3 z1 z2 z3 w0 (w.setCell ⟨mb, 1, none⟩ u) :=
  ⟨h.hb, heap_setCell_same _ _ _ _ _ _ h.cell, setRow_other h.q h.cell (by decide), setRow_other h.g h.cell (by decide), setRow_other h.r1 h.cell (by decide), setRow_other h.r2 h.cell (by decide), setRow_other h.r3 h.cell (by decide), h.aq, h.ag, h.fr.setCell ⟨h.hb, _, _, _, h.cell, rfl⟩ _⟩
theorem WR.set2 (h : WR base mb qs gs vq vg y1 y2 y3 c1 c2 c3 z1 z2 z3 w0 w) (u : Value) : WR base mb qs gs vq vg y1 u y3 c1 c2 c3 z1 z2 z3 w0 (w.setCell ⟨mb, 2, none⟩ u) :=
  ⟨h.hb, heap_setCell_same _ _ _ _ _ _ h.cell, setRow_other h.q h.cell (by decide), setRow_other h.g h.cell (by decide), setRow_other h.r1 h.cell (by decide), setRow_other h.r2 h.cell (by decide), setRow_other h.r3 h.cell (by decide), h.aq, h.ag, h.fr.setCell ⟨h.hb, _, _, _, h.cell, rfl⟩ _⟩
theorem WR.set3 (h : WR base mb qs gs vq vg y1 y2 y3 c1 c2 c3 z1 z2 z3 w0 w) (u : Value) : WR base mb qs gs vq vg y1 y2 u c1 c2 c3 z1 z2 z3 w0 (w.setCell ⟨mb, 3, none⟩ u) :=
  ⟨h.hb, heap_setCell_same _ _ _ _ _ _ h.cell, setRow_other h.q h.cell (by decide), setRow_other h.g h.cell (by decide), setRow_other h.r1 h.cell (by decide), setRow_other h.r2 h.cell (by decide), setRow_other h.r3 h.cell (by decide), h.aq, h.ag, h.fr.setCell ⟨h.hb, _, _, _, h.cell, rfl⟩ _⟩
theorem WR.done {L : List Lv} {G : List (Nat × Nat)} (h : WR base mb qs (goneL G) vq vg c1 c2 c3 c1 c2 c3 (refL L) (owL L) (moL L) w0 w) : MI base mb w qs L G :=
  ⟨h.hb, vq, c1, c2, c3, vg, h.cell, h.q, h.r1, h.r2, h.r3, h.g, h.aq, h.ag⟩
theorem MI.toWR {L : List Lv} {G : List (Nat × Nat)} (h : MI base mb w qs L G) : ∃ vq vr vo vm vg, WR base mb qs (goneL G) vq vg vr vo vm vr vo vm (refL L) (owL L) (moL L) w w := by
  obtain ⟨vq, vr, vo, vm, vg, m0, m1, m2, m3, m4, m5, m6, m7⟩ := h.rows
  exact ⟨vq, vr, vo, vm, vg, h.hb, m0, m1, m5, m2, m3, m4, m6, m7, Fr.refl _ _ _⟩
theorem WR.drew (h : WR base mb qs gs vq vg y1 y2 y3 c1 c2 c3 z1 z2 z3 w0 w) : WR base mb qs gs vq vg y1 y2 y3 c1 c2 c3 z1 z2 z3 w0 w.drew :=
  ⟨h.hb, h.cell, row_below h.q ((Below.refl _ _).drew), row_below h.g ((Below.refl _ _).drew), row_below h.r1 ((Below.refl _ _).drew), row_below h.r2 ((Below.refl _ _).drew), row_below h.r3 ((Below.refl _ _).drew), h.aq, h.ag, h.fr.drew⟩
end
/-- The same, by what has been done: rows at the operations k, slots t, cells at the operations p. -/
def WI (k1 k2 k3 t1 t2 t3 p1 p2 p3 : Nat) (base mb : Nat) (qs gs : List Int) (vq vg vr vo vm : Value) (z1 z2 z3 x1 x2 x3 : List Int) (w0 : World) (l : Nat → Bool) (a : Act) (w : World) : Prop :=
  WR base mb qs gs vq vg (if l p1 then a.eval (.tmp t1) else vr) (if l p2 then a.eval (.tmp t2) else vo) (if l p3 then a.eval (.tmp t3) else vm) (if l k1 then a.eval (.tmp t1) else vr) (if l k2 then a.eval (.tmp t2) else vo) (if l k3 then a.eval (.tmp t3) else vm) (if l k1 then x1 else z1) (if l k2 then x2 else z2) (if l k3 then x3 else z3) w0 w
section
variable {k1 k2 k3 t1 t2 t3 p1 p2 p3 base mb : Nat} {qs gs : List Int} {vq vg vr vo vm : Value} {z1 z2 z3 x1 x2 x3 : List Int} {w0 : World} {l : Nat → Bool} {a : Act} {w w' : World}
theorem WI.pure (h : WI k1 k2 k3 t1 t2 t3 p1 p2 p3 base mb qs gs vq vg vr vo vm z1 z2 z3 x1 x2 x3 w0 l a w) {i d : Nat} {v : Value} (hi : k1 ≠ i ∧ k2 ≠ i ∧ k3 ≠ i ∧ p1 ≠ i ∧ p2 ≠ i ∧ p3 ≠ i) (hd : t1 ≠ d ∧ t2 ≠ d ∧ t3 ≠ d) : WI k1 k2 k3 t1 t2 t3 p1 p2 p3 base mb qs gs vq vg vr vo vm z1 z2 z3 x1 x2 x3 w0 (more l i) (a.put (some d) v) w := by
  obtain ⟨a1, a2, a3, a4, a5, a6⟩ := hi
  obtain ⟨b1, b2, b3⟩ := hd
  unfold WI
  rw [more_ne _ a1, more_ne _ a2, more_ne _ a3, more_ne _ a4, more_ne _ a5, more_ne _ a6, eval_other b1, eval_other b2, eval_other b3]
  exact h
theorem WI.allocs (h : WI k1 k2 k3 t1 t2 t3 p1 p2 p3 base mb qs gs vq vg vr vo vm z1 z2 z3 x1 x2 x3 w0 l a w) (o : Obj) : WI k1 k2 k3 t1 t2 t3 p1 p2 p3 base mb qs gs vq vg vr vo vm z1 z2 z3 x1 x2 x3 w0 l a (w.alloc o) := WR.alloc h o
theorem WI.call1 (h : WI k1 k2 k3 t1 t2 t3 p1 p2 p3 base mb qs gs vq vg vr vo vm z1 z2 z3 x1 x2 x3 w0 l a w) (hsz : t1 < a.tmps.size) (hl : l k1 = false) (hp : l p1 = false) (hk : k2 ≠ k1 ∧ k3 ≠ k1 ∧ p1 ≠ k1 ∧ p2 ≠ k1 ∧ p3 ≠ k1) (ht : t2 ≠ t1 ∧ t3 ≠ t1) {v' : Value} (hg : w.grownBy w' vr.ownBlock) (ho : w'.ownsRow base 51 1 v' x1.length (x1.map (Value.int .u64))) (hb : v'.ownBlock = vr.ownBlock ∨ v'.ownBlock = some w.heap.size) :
    WI k1 k2 k3 t1 t2 t3 p1 p2 p3 base mb qs gs vq vg vr vo vm z1 z2 z3 x1 x2 x3 w0 (more l k1) (a.put (some t1) v') w' := by
  obtain ⟨a2, a3, a4, a5, a6⟩ := hk
  unfold WI at h ⊢
  rw [hl, hp] at h
  simp only [Bool.false_eq_true, if_false] at h
  rw [more_self, more_ne _ a2, more_ne _ a3, more_ne _ a4, more_ne _ a5, more_ne _ a6, eval_other ht.1, eval_other ht.2, eval_put _ _ _ _ hsz, if_pos rfl, hp]
  simp only [Bool.false_eq_true, if_false, if_true]
  exact h.row1 hg ho hb
theorem WI.call2 (h : WI k1 k2 k3 t1 t2 t3 p1 p2 p3 base mb qs gs vq vg vr vo vm z1 z2 z3 x1 x2 x3 w0 l a w) (hsz : t2 < a.tmps.size) (hl : l k2 = false) (hp : l p2 = false) (hk : k1 ≠ k2 ∧ k3 ≠ k2 ∧ p1 ≠ k2 ∧ p2 ≠ k2 ∧ p3 ≠ k2) (ht : t1 ≠ t2 ∧ t3 ≠ t2) {v' : Value} (hg : w.grownBy w' vo.ownBlock) (ho : w'.ownsRow base 3 1 v' x2.length (x2.map (Value.int .i64))) (hb : v'.ownBlock = vo.ownBlock ∨ v'.ownBlock = some w.heap.size) :
    WI k1 k2 k3 t1 t2 t3 p1 p2 p3 base mb qs gs vq vg vr vo vm z1 z2 z3 x1 x2 x3 w0 (more l k2) (a.put (some t2) v') w' := by
  obtain ⟨a2, a3, a4, a5, a6⟩ := hk
  unfold WI at h ⊢
  rw [hl, hp] at h
  simp only [Bool.false_eq_true, if_false] at h
  rw [more_self, more_ne _ a2, more_ne _ a3, more_ne _ a4, more_ne _ a5, more_ne _ a6, eval_other ht.1, eval_other ht.2, eval_put _ _ _ _ hsz, if_pos rfl, hp]
  simp only [Bool.false_eq_true, if_false, if_true]
  exact h.row2 hg ho hb
theorem WI.call3 (h : WI k1 k2 k3 t1 t2 t3 p1 p2 p3 base mb qs gs vq vg vr vo vm z1 z2 z3 x1 x2 x3 w0 l a w) (hsz : t3 < a.tmps.size) (hl : l k3 = false) (hp : l p3 = false) (hk : k1 ≠ k3 ∧ k2 ≠ k3 ∧ p1 ≠ k3 ∧ p2 ≠ k3 ∧ p3 ≠ k3) (ht : t1 ≠ t3 ∧ t2 ≠ t3) {v' : Value} (hg : w.grownBy w' vm.ownBlock) (ho : w'.ownsRow base 2 1 v' x3.length (x3.map (Value.int .i64))) :
    WI k1 k2 k3 t1 t2 t3 p1 p2 p3 base mb qs gs vq vg vr vo vm z1 z2 z3 x1 x2 x3 w0 (more l k3) (a.put (some t3) v') w' := by
  obtain ⟨a2, a3, a4, a5, a6⟩ := hk
  unfold WI at h ⊢
  rw [hl, hp] at h
  simp only [Bool.false_eq_true, if_false] at h
  rw [more_self, more_ne _ a2, more_ne _ a3, more_ne _ a4, more_ne _ a5, more_ne _ a6, eval_other ht.1, eval_other ht.2, eval_put _ _ _ _ hsz, if_pos rfl, hp]
  simp only [Bool.false_eq_true, if_false, if_true]
  exact h.row3 hg ho
theorem WI.store1 (h : WI k1 k2 k3 t1 t2 t3 p1 p2 p3 base mb qs gs vq vg vr vo vm z1 z2 z3 x1 x2 x3 w0 l a w) (hk : k1 ≠ p1 ∧ k2 ≠ p1 ∧ k3 ≠ p1 ∧ p2 ≠ p1 ∧ p3 ≠ p1) :
    WI k1 k2 k3 t1 t2 t3 p1 p2 p3 base mb qs gs vq vg vr vo vm z1 z2 z3 x1 x2 x3 w0 (more l p1) a (w.setCell ⟨mb, 1, none⟩ (a.eval (.tmp t1))) := by
  obtain ⟨a2, a3, a4, a5, a6⟩ := hk
  unfold WI at h ⊢
  rw [more_self, more_ne _ a2, more_ne _ a3, more_ne _ a4, more_ne _ a5, more_ne _ a6]
  simp only [if_true]
  exact h.set1 _
theorem WI.store2 (h : WI k1 k2 k3 t1 t2 t3 p1 p2 p3 base mb qs gs vq vg vr vo vm z1 z2 z3 x1 x2 x3 w0 l a w) (hk : k1 ≠ p2 ∧ k2 ≠ p2 ∧ k3 ≠ p2 ∧ p1 ≠ p2 ∧ p3 ≠ p2) :
    WI k1 k2 k3 t1 t2 t3 p1 p2 p3 base mb qs gs vq vg vr vo vm z1 z2 z3 x1 x2 x3 w0 (more l p2) a (w.setCell ⟨mb, 2, none⟩ (a.eval (.tmp t2))) := by
  obtain ⟨a2, a3, a4, a5, a6⟩ := hk
  unfold WI at h ⊢
  rw [more_self, more_ne _ a2, more_ne _ a3, more_ne _ a4, more_ne _ a5, more_ne _ a6]
  simp only [if_true]
  exact h.set2 _
theorem WI.store3 (h : WI k1 k2 k3 t1 t2 t3 p1 p2 p3 base mb qs gs vq vg vr vo vm z1 z2 z3 x1 x2 x3 w0 l a w) (hk : k1 ≠ p3 ∧ k2 ≠ p3 ∧ k3 ≠ p3 ∧ p1 ≠ p3 ∧ p2 ≠ p3) :
    WI k1 k2 k3 t1 t2 t3 p1 p2 p3 base mb qs gs vq vg vr vo vm z1 z2 z3 x1 x2 x3 w0 (more l p3) a (w.setCell ⟨mb, 3, none⟩ (a.eval (.tmp t3))) := by
  obtain ⟨a2, a3, a4, a5, a6⟩ := hk
  unfold WI at h ⊢
  rw [more_self, more_ne _ a2, more_ne _ a3, more_ne _ a4, more_ne _ a5, more_ne _ a6]
  simp only [if_true]
  exact h.set3 _
theorem WI.cells (h : WI k1 k2 k3 t1 t2 t3 p1 p2 p3 base mb qs gs vq vg vr vo vm z1 z2 z3 x1 x2 x3 w0 l a w) : (l p1 = false → w.cell? ⟨mb, 1, none⟩ = some vr) ∧ (l p2 = false → w.cell? ⟨mb, 2, none⟩ = some vo) ∧ (l p3 = false → w.cell? ⟨mb, 3, none⟩ = some vm) ∧ (∃ u, w.cell? ⟨mb, 1, none⟩ = some u) ∧ (∃ u, w.cell? ⟨mb, 2, none⟩ = some u) ∧ (∃ u, w.cell? ⟨mb, 3, none⟩ = some u) ∧ (∀ j, w.frozen? ⟨mb, j, none⟩ = false) := by
  obtain ⟨c0, c1, c2, c3, c4, cf⟩ := five (WR.cell h)
  refine ⟨fun e => ?_, fun e => ?_, fun e => ?_, ⟨_, c1⟩, ⟨_, c2⟩, ⟨_, c3⟩, cf⟩
  · rw [e] at c1; simpa using c1
  · rw [e] at c2; simpa using c2
  · rw [e] at c3; simpa using c3
theorem WI.rows (h : WI k1 k2 k3 t1 t2 t3 p1 p2 p3 base mb qs gs vq vg vr vo vm z1 z2 z3 x1 x2 x3 w0 l a w) : (l k1 = false → w.ownsRow base 51 1 vr z1.length (z1.map (Value.int .u64))) ∧ (l k2 = false → w.ownsRow base 3 1 vo z2.length (z2.map (Value.int .i64))) ∧ (l k3 = false → w.ownsRow base 2 1 vm z3.length (z3.map (Value.int .i64))) := by
  have c1 := WR.r1 h
  have c2 := WR.r2 h
  have c3 := WR.r3 h
  refine ⟨fun e => ?_, fun e => ?_, fun e => ?_⟩
  · rw [e] at c1; simpa using c1
  · rw [e] at c2; simpa using c2
  · rw [e] at c3; simpa using c3
theorem WI.now (h : WI k1 k2 k3 t1 t2 t3 p1 p2 p3 base mb qs gs vq vg vr vo vm z1 z2 z3 x1 x2 x3 w0 l a w) : (l k1 = true → w.ownsRow base 51 1 (a.eval (.tmp t1)) x1.length (x1.map (Value.int .u64))) ∧ (l k2 = true → w.ownsRow base 3 1 (a.eval (.tmp t2)) x2.length (x2.map (Value.int .i64))) ∧ (l k3 = true → w.ownsRow base 2 1 (a.eval (.tmp t3)) x3.length (x3.map (Value.int .i64))) := by
  have c1 := WR.r1 h
  have c2 := WR.r2 h
  have c3 := WR.r3 h
  refine ⟨fun e => ?_, fun e => ?_, fun e => ?_⟩
  · rw [e] at c1; simpa using c1
  · rw [e] at c2; simpa using c2
  · rw [e] at c3; simpa using c3
theorem WI.start (h : WR base mb qs gs vq vg vr vo vm vr vo vm z1 z2 z3 w0 w) : WI k1 k2 k3 t1 t2 t3 p1 p2 p3 base mb qs gs vq vg vr vo vm z1 z2 z3 x1 x2 x3 w0 (fun _ => false) a w := by
  unfold WI
  simpa using h
theorem WI.final (h : WI k1 k2 k3 t1 t2 t3 p1 p2 p3 base mb qs gs vq vg vr vo vm z1 z2 z3 x1 x2 x3 w0 l a w) (hl : l k1 = true ∧ l k2 = true ∧ l k3 = true ∧ l p1 = true ∧ l p2 = true ∧ l p3 = true) : WR base mb qs gs vq vg (a.eval (.tmp t1)) (a.eval (.tmp t2)) (a.eval (.tmp t3)) (a.eval (.tmp t1)) (a.eval (.tmp t2)) (a.eval (.tmp t3)) x1 x2 x3 w0 w := by
  obtain ⟨a1, a2, a3, a4, a5, a6⟩ := hl
  unfold WI at h
  rw [a1, a2, a3, a4, a5, a6] at h
  simpa using h
end
/-- A call of three arguments, by a contract, as one step of a region. -/
theorem step_call3R {P : Program} {ops : Array Oper} {o : Oper} {a : Act} {w : World} {K : Act → World → Prop} {Q : Exit → Act → World → Prop} {E : Prop} {R : Value → World → Prop}
    (hg : o.guard = none) (s s2 s3 : Operand) (f t t2 t3 : Nat) (hop : o.op = Op.call { callee := Callee.value (.func f), args := #[s, s2, s3], argTypes := #[t, t2, t3] })
    (x x2 x3 : Value) (hs : a.eval s = x) (hs2 : a.eval s2 = x2) (hs3 : a.eval s3 = x3) (eg : ∀ (args : Array Value) (w : World), (callFunc f args).run P w = .ok (.enter f args) w) (hc : Calls P f #[x, x2, x3] w fun e w' => ∃ v, e = .returned v ∧ R v w')
    (hK : ∀ v w', R v w' → K (a.put o.dst v) w') :
    if Region.wanted o (yielded ops a.tmps) = true then Oper.wp P o a w K Q else E := by
  have hw : Region.wanted o (yielded ops a.tmps) = true := by simp [Region.wanted, hg]
  rw [if_pos hw]
  unfold Oper.wp
  have e1 : ∀ w, (Deferred.ofValue (a.eval (Operand.func f)) #[x, x2, x3]).run P w = .ok ⟨.fn (.func f) #[], #[x, x2, x3]⟩ w := fun w => rfl
  simp [execOp, hop, resolve, invoke, builtin, hs, hs2, hs3, Result.andThen, e1, eg]
  rw [Oper.upon_enter]
  refine hc.mono ?_
  rintro e w' ⟨v, rfl, hR⟩
  exact hK v w' hR
end Go.Proofs.Ytbbmcggalffecaa

/-
  Two appends, each of one element on a row of the call's own, in one region that draws its order: what holds in between, whatever the order.
  Conditions: as each theorem says. (No program is named here.)
-/
import Derived.Test.YtebcojkeblpbjaaRgn
import Derived.Test.YtebcojkeblpbjaaLaw
import Derived.Test.YtebcojkeblpbjaaMem
import Derived.Below
namespace Go.Proofs.Ytebcojkeblpbjaa
open Go.RowKit
set_option linter.unusedVariables false
theorem add_at (w : World) (g j : Nat) : w.cell? ((⟨g, 0, none⟩ : Addr).add j) = w.cell? ⟨g, j, none⟩ := by
  by_cases h : j = 0 <;> simp [Addr.add, h]
/-- append: besides, what the old row held it holds still. -/
theorem run_append_keep {P : Program} (w : World) (base : Nat) (t ty e : TypeId) (i : TypeInfo) (z : Value) (size bytes : Nat) (ht : P.underlying t = some (.slice e)) (hi : P.info? e = some i) (hz : i.zero = some z)
    (hsize : i.size = size) (hby : i.bytes = bytes) (hzs : z.cells.size = size) (hsz : 0 < size)
    (v : Value) (n : Nat) (xs : List Value) (hown : w.ownsRow base e size v n xs)
    (a : Addr) (m c : Nat) (news : List Value) (hl : news.length = m * size) (hnews : ∀ j u, news[j]? = some u → w.cell? (a.add j) = some u) (h1 : ∀ u ∈ news, u.oneCell' = true) (hm0 : 0 < m)
    (h63 : n + m ≤ maxLen) (hbytes : (n + m) * bytes ≤ 140737488355328) (hbase : base ≤ w.heap.size) :
    ∃ v' w', (Builtin.append_ #[t, t] ty #[v, .slice (some a) m c]).run P w = .ok v' w' ∧ w'.ownsRow base e size v' (n + m) (xs ++ news) ∧ w.grownBy w' v.ownBlock ∧ (v'.ownBlock = v.ownBlock ∨ v'.ownBlock = some w.heap.size) ∧
      (∀ g, v.ownBlock = some g → ∀ j u, xs[j]? = some u → w'.cell? ⟨g, j, none⟩ = some u) := by
  obtain ⟨v', w', hr, r1, r2, r3⟩ := run_append_own2 (P := P) w base t ty e i z size bytes ht hi hz hsize hby hzs hsz v n xs hown a m c news hl hnews h1 hm0 h63 hbytes hbase
  refine ⟨v', w', hr, r1, r2, r3, ?_⟩
  subst hsize
  subst hby
  rcases hown.2 with ⟨rfl, rfl⟩ | ⟨g, cap, cur, rfl, hbg, hg, hnc, hcm, hcs, htake⟩
  · intro g hg
    simp [Value.ownBlock] at hg
  · intro g' hg' j u hu
    have hgg : g = g' := by simpa [Value.ownBlock] using hg'
    subst hgg
    have hju : (xs ++ news)[j]? = some u := by
      have hj : j < xs.length := by obtain ⟨hh, _⟩ := List.getElem?_eq_some_iff.1 hu; exact hh
      rw [List.getElem?_append_left hj]; exact hu
    by_cases hroom : n + m ≤ cap
    · have hfit : n * i.size + news.length ≤ cur.size := by rw [hl, hcs, ← Nat.add_mul]; exact Nat.mul_le_mul_right _ hroom
      have hr2 := run_append_room (P := P) w t ty e i ht hi g n cap cur hg a m c news hl hnews h1 hroom hfit
      rw [hr] at hr2
      injection hr2 with e1 e2
      have := r1.cells (g := g) (by rw [e1]; rfl) j u hju
      rwa [add_at] at this
    · have holds : ∀ j u, xs[j]? = some u → w.cell? ((⟨g, 0, none⟩ : Addr).add j) = some u := hown.cells (g := g) rfl
      have hr2 := run_append_grow (P := P) w t ty e i z ht hi hz ⟨g, 0, none⟩ n cap xs hown.1 holds a m c news hl hnews (by omega) (by unfold maxLen at h63; omega) (growslice_fits (by omega) hbytes)
      rw [hr] at hr2
      injection hr2 with e1 e2
      have h0 := holds j u hu
      have h1' : w.cell? ⟨g, j, none⟩ = some u := by rwa [add_at] at h0
      rw [e2]
      have hgl := lt_of_block hg
      exact (((Below.refl w.heap.size w).drew).alloc (Nat.le_refl _) _).cell (p := ⟨g, j, none⟩) hgl |>.trans h1'
theorem wpList_append_keep {P : Program} {ops : Array Oper} {rest : List Oper} {o : Oper} {a : Act} {w : World} {Q : Exit → Act → World → Prop} (hg : o.guard = none) (s x : Operand) (t : TypeId)
    (hop : o.op = .call { callee := .builtin .append, args := #[s, x], argTypes := #[t, t] })
    (base : Nat) (e : TypeId) (i : TypeInfo) (z : Value) (size bytes : Nat) (h1 : P.underlying t = some (.slice e)) (h2 : P.info? e = some i) (h3 : i.zero = some z) (h4 : i.size = size) (h5 : i.bytes = bytes) (h6 : z.cells.size = size) (h7 : 0 < size)
    (v : Value) (n : Nat) (xs : List Value) (hs : a.eval s = v) (hown : w.ownsRow base e size v n xs)
    (ad : Addr) (m c : Nat) (news : List Value) (hx : a.eval x = .slice (some ad) m c) (hn : news.length = m * size) (hc : ∀ j u, news[j]? = some u → w.cell? (ad.add j) = some u) (h1c : ∀ u ∈ news, u.oneCell' = true) (hm0 : 0 < m)
    (b1 : n + m ≤ maxLen) (b2 : (n + m) * bytes ≤ 140737488355328) (hb : base ≤ w.heap.size)
    (hK : ∀ v' w', w'.ownsRow base e size v' (n + m) (xs ++ news) → w.grownBy w' v.ownBlock → (∀ g, v.ownBlock = some g → ∀ j u, xs[j]? = some u → w'.cell? ⟨g, j, none⟩ = some u) → wpList P ops Q rest (a.put o.dst v') w') :
    wpList P ops Q (o :: rest) a w := by
  refine wpList_plain hg fun K' hK' => ?_
  obtain ⟨v', w', hrun, r1, r2, _, r3⟩ := run_append_keep (P := P) w base t o.type e i z size bytes h1 h2 h3 h4 h5 h6 h7 v n xs hown ad m c news hn hc h1c hm0 b1 b2 hb
  unfold Oper.wp
  simp [execOp, hop, resolve, invoke, builtin, hs, hx, hrun, Result.andThen]
  exact hK' _ _ (hK v' w' r1 r2 r3)
structure Tw (base : Nat) (w0 : World) (eF eA : TypeId) (vf va : Value) (k1 k2 : Nat) (P A : List Value) (x y : Value) (i1 j1 i2 j2 s1 t1 s2 t2 : Nat) (l : Nat → Bool) (a : Act) (W : World) : Prop where
  below : Below base w0 W
  row1 : W.ownsRow base eF 1 (if l j1 then a.eval (.tmp t1) else vf) (if l j1 then k1 + 1 else k1) (if l j1 then P ++ [x] else P)
  row2 : W.ownsRow base eA 1 (if l j2 then a.eval (.tmp t2) else va) (if l j2 then k2 + 1 else k2) (if l j2 then A ++ [y] else A)
  apart : ∀ b, (if l j1 then a.eval (.tmp t1) else vf).ownBlock = some b → (if l j2 then a.eval (.tmp t2) else va).ownBlock ≠ some b
  lit1 : l i1 = true → l j1 = false → ∃ g, a.eval (.tmp s1) = .slice (some ⟨g, 0, none⟩) 1 1 ∧ W.heap[g]? = some (.cells #[x] eF (0, 0)) ∧ vf.ownBlock ≠ some g ∧ (if l j2 then a.eval (.tmp t2) else va).ownBlock ≠ some g
  lit2 : l i2 = true → l j2 = false → ∃ g, a.eval (.tmp s2) = .slice (some ⟨g, 0, none⟩) 1 1 ∧ W.heap[g]? = some (.cells #[y] eA (0, 0)) ∧ va.ownBlock ≠ some g ∧ (if l j1 then a.eval (.tmp t1) else vf).ownBlock ≠ some g
  lits : ∀ g h, l i1 = true → l j1 = false → l i2 = true → l j2 = false → a.eval (.tmp s1) = .slice (some ⟨g, 0, none⟩) 1 1 → a.eval (.tmp s2) = .slice (some ⟨h, 0, none⟩) 1 1 → g ≠ h
section
variable {base : Nat} {w0 : World} {eF eA : TypeId} {vf va : Value} {k1 k2 : Nat} {P A : List Value} {x y : Value} {i1 j1 i2 j2 s1 t1 s2 t2 : Nat} {l : Nat → Bool} {a : Act} {W : World}
theorem Tw.swap (h : Tw base w0 eF eA vf va k1 k2 P A x y i1 j1 i2 j2 s1 t1 s2 t2 l a W) : Tw base w0 eA eF va vf k2 k1 A P y x i2 j2 i1 j1 s2 t2 s1 t1 l a W :=
  ⟨h.below, h.row2, h.row1, fun b h1 h2 => h.apart b h2 h1, h.lit2, h.lit1, fun g g' a1 a2 a3 a4 a5 a6 => fun e => h.lits g' g a3 a4 a1 a2 a6 a5 e.symm⟩
theorem Tw.start {w : World} (hb : Below base w0 w) (h1 : w.ownsRow base eF 1 vf k1 P) (h2 : w.ownsRow base eA 1 va k2 A) (ha : ∀ b, vf.ownBlock = some b → va.ownBlock ≠ some b) : Tw base w0 eF eA vf va k1 k2 P A x y i1 j1 i2 j2 s1 t1 s2 t2 (fun _ => false) a w.drew :=
  ⟨⟨hb.os, hb.tape, hb.output, hb.size, hb.block⟩, h1.drew, h2.drew, ha, fun h => by simp at h, fun h => by simp at h, fun _ _ h => by simp at h⟩
theorem Tw.pure {i d : Nat} {v : Value} (h : Tw base w0 eF eA vf va k1 k2 P A x y i1 j1 i2 j2 s1 t1 s2 t2 l a W) (hi : i1 ≠ i ∧ j1 ≠ i ∧ i2 ≠ i ∧ j2 ≠ i) (hd : s1 ≠ d ∧ t1 ≠ d ∧ s2 ≠ d ∧ t2 ≠ d) : Tw base w0 eF eA vf va k1 k2 P A x y i1 j1 i2 j2 s1 t1 s2 t2 (more l i) (a.put (some d) v) W := by
  obtain ⟨h1, h2, h3, h4, h5, h6, h7⟩ := h
  constructor
  · exact h1
  all_goals simp only [more_ne _ hi.1, more_ne _ hi.2.1, more_ne _ hi.2.2.1, more_ne _ hi.2.2.2, eval_other hd.1, eval_other hd.2.1, eval_other hd.2.2.1, eval_other hd.2.2.2]
  · exact h2
  · exact h3
  · exact h4
  · exact h5
  · exact h6
  · exact h7
theorem Tw.alloc1 (h : Tw base w0 eF eA vf va k1 k2 P A x y i1 j1 i2 j2 s1 t1 s2 t2 l a W) (hb : base ≤ w0.heap.size) (hl : l i1 = false) (hlj : l j1 = false) (hi : i1 ≠ j1 ∧ i1 ≠ i2 ∧ i1 ≠ j2) (hd : s1 ≠ t1 ∧ s1 ≠ s2 ∧ s1 ≠ t2) (hs : s1 < a.tmps.size) :
    Tw base w0 eF eA vf va k1 k2 P A x y i1 j1 i2 j2 s1 t1 s2 t2 (more l i1) (a.put (some s1) (.slice (some ⟨W.heap.size, 0, none⟩) 1 1)) (W.alloc (.cells #[x] eF)) := by
  obtain ⟨h1, h2, h3, h4, h5, h6, h7⟩ := h
  have m1 : more l i1 j1 = l j1 := more_ne _ (Ne.symm hi.1)
  have m2 : more l i1 i2 = l i2 := more_ne _ (Ne.symm hi.2.1)
  have m3 : more l i1 j2 = l j2 := more_ne _ (Ne.symm hi.2.2)
  have o1 : ∀ v, (a.put (some s1) v).eval (.tmp t1) = a.eval (.tmp t1) := fun v => eval_other (Ne.symm hd.1)
  have o2 : ∀ v, (a.put (some s1) v).eval (.tmp s2) = a.eval (.tmp s2) := fun v => eval_other (Ne.symm hd.2.1)
  have o3 : ∀ v, (a.put (some s1) v).eval (.tmp t2) = a.eval (.tmp t2) := fun v => eval_other (Ne.symm hd.2.2)
  have o0 : ∀ v, (a.put (some s1) v).eval (.tmp s1) = v := fun v => by rw [eval_put _ _ _ _ hs, if_pos rfl]
  have hw : base ≤ W.heap.size := Nat.le_trans hb h1.size
  rw [hlj] at h2
  have f1 : ∀ b, vf.ownBlock = some b → b < W.heap.size := fun b hb' => (h2.lt b hb').2
  have f2 : ∀ b, (if l j2 then a.eval (.tmp t2) else va).ownBlock = some b → b < W.heap.size := fun b hb' => (h3.lt b hb').2
  constructor
  · exact h1.alloc hw _
  all_goals simp only [m1, m2, m3, o0, o1, o2, o3, hlj, Bool.false_eq_true, if_false] at *
  · exact h2.alloc _
  · exact h3.alloc _
  · exact h4
  · exact fun _ _ => ⟨_, rfl, heap_alloc_new W _, fun e => Nat.lt_irrefl _ (f1 _ e), fun e => Nat.lt_irrefl _ (f2 _ e)⟩
  · intro q1 q2
    obtain ⟨g, g1, g2, g3, g4⟩ := h6 q1 q2
    exact ⟨g, g1, block_alloc g2 _, g3, g4⟩
  · intro g g' _ _ q3 q4 q5 q6 e
    obtain ⟨g0, g1, g2, _⟩ := h6 q3 q4
    rw [q6] at g1
    have := lt_of_block g2
    simp at q5 g1
    omega
theorem Tw.app1 {Pg : Program} {t ty : TypeId} {i : TypeInfo} {z : Value} {bytes : Nat} (h : Tw base w0 eF eA vf va k1 k2 P A x y i1 j1 i2 j2 s1 t1 s2 t2 l a W) (hb : base ≤ w0.heap.size) (ht : Pg.underlying t = some (.slice eF)) (hti : Pg.info? eF = some i) (hz : i.zero = some z) (hz1 : i.size = 1) (hz2 : i.bytes = bytes) (hz3 : z.cells.size = 1) (hx : x.oneCell' = true)
    (b1 : k1 + 1 ≤ maxLen) (b2 : (k1 + 1) * bytes ≤ 140737488355328) (hli : l i1 = true) (hlj : l j1 = false) (hi : j1 ≠ i1 ∧ j1 ≠ i2 ∧ j1 ≠ j2) (hd : t1 ≠ s1 ∧ t1 ≠ s2 ∧ t1 ≠ t2) (hs : t1 < a.tmps.size) :
    ∃ g v' w', a.eval (.tmp s1) = .slice (some ⟨g, 0, none⟩) 1 1 ∧ (Builtin.append_ #[t, t] ty #[vf, .slice (some ⟨g, 0, none⟩) 1 1]).run Pg W = .ok v' w' ∧
      Tw base w0 eF eA vf va k1 k2 P A x y i1 j1 i2 j2 s1 t1 s2 t2 (more l j1) (a.put (some t1) v') w' := by
  obtain ⟨h1, h2, h3, h4, h5, h6, h7⟩ := h
  obtain ⟨g, g1, g2, g3, g4⟩ := h5 hli hlj
  have hw : base ≤ W.heap.size := Nat.le_trans hb h1.size
  simp only [hlj, Bool.false_eq_true, if_false] at h2 h4 h6
  obtain ⟨v', w', hr, r1, r2, r3⟩ := run_append_own2 (P := Pg) W base t ty eF i z 1 bytes ht hti hz hz1 hz2 hz3 (by decide) vf k1 P h2 ⟨g, 0, none⟩ 1 1 [x] rfl (fun j u hj => by
    match j, hj with
    | 0, hj => simp at hj; subst hj; simp [Addr.add]; rw [cell_of_row _ _ _ _ _ _ g2]; rfl) (by intro u hu; simp at hu; subst hu; exact hx) (by decide) b1 b2 hw
  refine ⟨g, v', w', g1, hr, ?_⟩
  have m0 : more l j1 j1 = true := more_self _ _
  have m1 : more l j1 i1 = l i1 := more_ne _ (Ne.symm hi.1)
  have m2 : more l j1 i2 = l i2 := more_ne _ (Ne.symm hi.2.1)
  have m3 : more l j1 j2 = l j2 := more_ne _ (Ne.symm hi.2.2)
  have o0 : ∀ v, (a.put (some t1) v).eval (.tmp t1) = v := fun v => by rw [eval_put _ _ _ _ hs, if_pos rfl]
  have o1 : ∀ v, (a.put (some t1) v).eval (.tmp s1) = a.eval (.tmp s1) := fun v => eval_other (Ne.symm hd.1)
  have o2 : ∀ v, (a.put (some t1) v).eval (.tmp s2) = a.eval (.tmp s2) := fun v => eval_other (Ne.symm hd.2.1)
  have o3 : ∀ v, (a.put (some t1) v).eval (.tmp t2) = a.eval (.tmp t2) := fun v => eval_other (Ne.symm hd.2.2)
  have f2 : ∀ b, (if l j2 then a.eval (.tmp t2) else va).ownBlock = some b → b < W.heap.size := fun b hb' => (h3.lt b hb').2
  have ap : (if l j2 then a.eval (.tmp t2) else va).ownBlock = none ∨ (if l j2 then a.eval (.tmp t2) else va).ownBlock ≠ vf.ownBlock := by
    cases hv : (if l j2 then a.eval (.tmp t2) else va).ownBlock with
    | none => exact .inl rfl
    | some b => exact .inr fun e => h4 b e.symm hv
  constructor
  · exact h1.grown r2 hw (fun j e => (h2.lt j e).1)
  all_goals simp only [m0, m1, m2, m3, o0, o1, o2, o3, if_true]
  · exact r1
  · exact h3.kept r2 ap
  · intro b e1 e2
    rcases r3 with r3 | r3
    · exact h4 b (r3.symm.trans e1) e2
    · rw [r3] at e1
      cases e1
      exact Nat.lt_irrefl _ (f2 _ e2)
  · intro _ q; cases q
  · intro q1 q2
    obtain ⟨g', e1, e2, e3, e4⟩ := h6 q1 q2
    refine ⟨g', e1, block_grown r2 e2 e4, e3, fun e => ?_⟩
    rcases r3 with r3 | r3
    · exact e4 (r3.symm.trans e)
    · rw [r3] at e
      cases e
      exact Nat.lt_irrefl _ (lt_of_block e2)
  · intro _ _ _ q; cases q
/-- The same, with the two slots into which the new rows go. -/
def Tx (base : Nat) (w0 : World) (eF eA : TypeId) (vf va : Value) (k1 k2 : Nat) (P A : List Value) (x y : Value) (i1 j1 i2 j2 s1 t1 s2 t2 f g i3 i4 : Nat) (l : Nat → Bool) (a : Act) (W : World) : Prop :=
  Tw base w0 eF eA vf va k1 k2 P A x y i1 j1 i2 j2 s1 t1 s2 t2 l a W ∧ a.eval (.tmp f) = (if l i3 then a.eval (.tmp t1) else vf) ∧ a.eval (.tmp g) = (if l i4 then a.eval (.tmp t2) else va)
theorem Tx.swap {f g i3 i4 : Nat} (h : Tx base w0 eF eA vf va k1 k2 P A x y i1 j1 i2 j2 s1 t1 s2 t2 f g i3 i4 l a W) : Tx base w0 eA eF va vf k2 k1 A P y x i2 j2 i1 j1 s2 t2 s1 t1 g f i4 i3 l a W := ⟨h.1.swap, h.2.2, h.2.1⟩
theorem Tx.pure {f g i3 i4 i d : Nat} {v : Value} (h : Tx base w0 eF eA vf va k1 k2 P A x y i1 j1 i2 j2 s1 t1 s2 t2 f g i3 i4 l a W) (hi : (i1 ≠ i ∧ j1 ≠ i ∧ i2 ≠ i ∧ j2 ≠ i) ∧ i3 ≠ i ∧ i4 ≠ i) (hd : (s1 ≠ d ∧ t1 ≠ d ∧ s2 ≠ d ∧ t2 ≠ d) ∧ f ≠ d ∧ g ≠ d) :
    Tx base w0 eF eA vf va k1 k2 P A x y i1 j1 i2 j2 s1 t1 s2 t2 f g i3 i4 (more l i) (a.put (some d) v) W := by
  refine ⟨h.1.pure hi.1 hd.1, ?_, ?_⟩
  · rw [eval_other hd.2.1, eval_other hd.1.2.1, more_ne _ hi.2.1]; exact h.2.1
  · rw [eval_other hd.2.2, eval_other hd.1.2.2.2, more_ne _ hi.2.2]; exact h.2.2
theorem Tx.alloc1 {f g i3 i4 : Nat} (h : Tx base w0 eF eA vf va k1 k2 P A x y i1 j1 i2 j2 s1 t1 s2 t2 f g i3 i4 l a W) (hb : base ≤ w0.heap.size) (hl : l i1 = false) (hlj : l j1 = false) (hi : (i1 ≠ j1 ∧ i1 ≠ i2 ∧ i1 ≠ j2) ∧ i3 ≠ i1 ∧ i4 ≠ i1) (hd : (s1 ≠ t1 ∧ s1 ≠ s2 ∧ s1 ≠ t2) ∧ f ≠ s1 ∧ g ≠ s1) (hs : s1 < a.tmps.size) :
    Tx base w0 eF eA vf va k1 k2 P A x y i1 j1 i2 j2 s1 t1 s2 t2 f g i3 i4 (more l i1) (a.put (some s1) (.slice (some ⟨W.heap.size, 0, none⟩) 1 1)) (W.alloc (.cells #[x] eF)) := by
  refine ⟨h.1.alloc1 hb hl hlj hi.1 hd.1 hs, ?_, ?_⟩
  · rw [eval_other hd.2.1, eval_other (Ne.symm hd.1.1), more_ne _ hi.2.1]; exact h.2.1
  · rw [eval_other hd.2.2, eval_other (Ne.symm hd.1.2.2), more_ne _ hi.2.2]; exact h.2.2
theorem Tx.app1 {Pg : Program} {t ty : TypeId} {i : TypeInfo} {z : Value} {bytes f g i3 i4 : Nat} (h : Tx base w0 eF eA vf va k1 k2 P A x y i1 j1 i2 j2 s1 t1 s2 t2 f g i3 i4 l a W) (hb : base ≤ w0.heap.size) (ht : Pg.underlying t = some (.slice eF)) (hti : Pg.info? eF = some i) (hz : i.zero = some z) (hz1 : i.size = 1) (hz2 : i.bytes = bytes) (hz3 : z.cells.size = 1) (hx : x.oneCell' = true)
    (b1 : k1 + 1 ≤ maxLen) (b2 : (k1 + 1) * bytes ≤ 140737488355328) (hli : l i1 = true) (hlj : l j1 = false) (hl3 : l i3 = false) (hi : (j1 ≠ i1 ∧ j1 ≠ i2 ∧ j1 ≠ j2) ∧ i3 ≠ j1 ∧ i4 ≠ j1) (hd : (t1 ≠ s1 ∧ t1 ≠ s2 ∧ t1 ≠ t2) ∧ f ≠ t1 ∧ g ≠ t1) (hs : t1 < a.tmps.size) :
    ∃ b v' w', a.eval (.tmp s1) = .slice (some ⟨b, 0, none⟩) 1 1 ∧ (Builtin.append_ #[t, t] ty #[vf, .slice (some ⟨b, 0, none⟩) 1 1]).run Pg W = .ok v' w' ∧
      Tx base w0 eF eA vf va k1 k2 P A x y i1 j1 i2 j2 s1 t1 s2 t2 f g i3 i4 (more l j1) (a.put (some t1) v') w' := by
  obtain ⟨b, v', w', h1, h2, h3⟩ := h.1.app1 (Pg := Pg) (t := t) (ty := ty) (i := i) (z := z) (bytes := bytes) hb ht hti hz hz1 hz2 hz3 hx b1 b2 hli hlj hi.1 hd.1 hs
  refine ⟨b, v', w', h1, h2, h3, ?_, ?_⟩
  · rw [eval_other hd.2.1, more_ne _ hi.2.1, hl3]; have := h.2.1; rw [hl3] at this; exact this
  · rw [eval_other hd.2.2, eval_other (Ne.symm hd.1.2.2), more_ne _ hi.2.2]; exact h.2.2
theorem Tx.set1 {f g i3 i4 : Nat} (h : Tx base w0 eF eA vf va k1 k2 P A x y i1 j1 i2 j2 s1 t1 s2 t2 f g i3 i4 l a W) (hi : (i1 ≠ i3 ∧ j1 ≠ i3 ∧ i2 ≠ i3 ∧ j2 ≠ i3) ∧ i4 ≠ i3) (hd : (s1 ≠ f ∧ t1 ≠ f ∧ s2 ≠ f ∧ t2 ≠ f) ∧ g ≠ f) (hs : f < a.tmps.size) :
    Tx base w0 eF eA vf va k1 k2 P A x y i1 j1 i2 j2 s1 t1 s2 t2 f g i3 i4 (more l i3) (a.put (some f) (a.eval (.tmp t1))) W := by
  refine ⟨h.1.pure hi.1 hd.1, ?_, ?_⟩
  · rw [more_self, if_pos rfl, eval_other hd.1.2.1, eval_put _ _ _ _ hs, if_pos rfl]
  · rw [eval_other hd.2, eval_other hd.1.2.2.2, more_ne _ hi.2]; exact h.2.2
end
end Go.Proofs.Ytebcojkeblpbjaa

/-
  What the operations do, by names of blocks: parts, structs, equality.
  Conditions: as each theorem says. (No program is named here.)
-/
import Derived.Test.YtpboencfnjmmbaaGreatDoorXC
namespace Go.Ex
set_option linter.unusedVariables false
open Go.RowKit

theorem leaf_eq {p : Rn} {v v' : Value} (h : leaf v = true) (k : VR p v v') : v' = v := by
  have i := k.inv
  unfold leaf at h
  split at h <;> first | exact i | cases h
theorem leafs_eq {p : Rn} {x y : Array Value} (h : x.toList.all leaf = true) (k : Arr (VR p) x y) : y = x := by
  refine Array.ext k.1.symm fun i h1 h2 => ?_
  refine leaf_eq ?_ (k.2 i x[i] y[i] (by simp) (by simp))
  exact List.all_eq_true.1 h _ (by simp)
theorem flat_eq {p : Rn} {v v' : Value} (h : flat1 v = true) (k : VR p v v') : v' = v := by
  unfold flat1 at h
  rw [Bool.or_eq_true] at h
  rcases h with h | h
  · exact leaf_eq h k
  · have i := k.inv
    split at h
    · obtain ⟨y, rfl, a⟩ := i; rw [leafs_eq h a]
    · obtain ⟨y, rfl, a⟩ := i; rw [leafs_eq h a]
    · obtain ⟨y, rfl, a⟩ := i; rw [leaf_eq h a]
    · obtain ⟨x', y', rfl, _, a, b⟩ := i
      simp only [Bool.and_eq_true] at h
      rw [leafs_eq h.1.2 a, leafs_eq h.2 b]
    · cases h

section
variable {C : Cx} {α β : Type} {p : Rn} {A : Rn → α → α → Prop} {B : Rn → β → β → Prop}

def StepA {σ : Type} (R : Rn → σ → σ → Prop) : Rn → ForInStep σ → ForInStep σ → Prop
  | q, .yield a, .yield b => R q a b
  | q, .done a, .done b => R q a b
  | _, _, _ => False
theorem Sim.loop {γ σ : Type} {R : Rn → σ → σ → Prop} (mono : ∀ p q a b, Le p q → R p a b → R q a b) {f f' : γ → σ → Sem (ForInStep σ)} : ∀ (l : List γ) (b b' : σ), R p b b' →
    (∀ q, Le p q → ∀ x ∈ l, ∀ b b', R q b b' → Sim C q (StepA R) (f x b) (f' x b')) → Sim C p R (forIn l b f) (forIn l b' f') := by
  intro l
  induction l generalizing p with
  | nil => intro b b' h _; exact .pure fun q l => mono _ _ _ _ l h
  | cons x l ih =>
    intro b b' h k
    rw [List.forIn_cons, List.forIn_cons]
    refine (k p (Le.refl _) x (by simp) b b' h).bind fun q lq v v' hv => ?_
    cases v <;> cases v'
    · exact .pure fun q1 l1 => mono _ _ _ _ l1 hv
    · exact hv.elim
    · exact hv.elim
    · exact ih _ _ hv fun q1 l1 y hy => k q1 (lq.trans l1) y (by simp [hy])
theorem Sim.loopE {γ σ : Type} {f f' : γ → σ → Sem (ForInStep σ)} (l : List γ) (b : σ) (h : ∀ q, Le p q → ∀ x ∈ l, ∀ b, Sim C q EqA (f x b) (f' x b)) : Sim C p EqA (forIn l b f) (forIn l b f') := by
  refine Sim.loop (R := EqA) (fun _ _ _ _ _ h => h) l b b rfl fun q l x hx b b' e => ?_
  cases e
  refine (h q l x hx b).mono fun q v v' _ e => ?_
  cases e; cases v <;> rfl

theorem Sim.part {x y : Array Value} (h : Arr (VR p) x y) (t : TypeId) (off : Nat) : Sim C p VR (Go.part t x off) (Go.part t y off) := by
  unfold Go.part
  refine (Sim.isAgg t).bindE fun q l c => ?_
  refine .ite (fun _ => ?_) fun _ => ?_
  · exact (Sim.sizeOf t).bindE fun q1 l1 n => .pure fun q2 l2 => (VR.cl _).agg _ _ (((h.le l).le (l1.trans l2)).extract _ _)
  · cases e : x[off]? with
    | none => exact .stuck
    | some v =>
      obtain ⟨u, e2, hv⟩ := h.get e
      rw [e2]
      exact .pure fun q1 l1 => hv.le (l.trans l1)
/-- A part of a flat struct is flat. -/
theorem Sim.partE {x : Array Value} (h : x.toList.all leaf = true) (t : TypeId) (off : Nat) : Sim C p (fun _ a b => a = b ∧ flat1 a = true) (Go.part t x off) (Go.part t x off) := by
  unfold Go.part
  refine (Sim.isAgg t).bindE fun q l c => ?_
  refine .ite (fun _ => ?_) fun _ => ?_
  · refine (Sim.sizeOf t).bindE fun q1 l1 n => .pure fun q2 l2 => ⟨rfl, ?_⟩
    have : (x.extract off (off + n)).toList.all leaf = true := by
      refine List.all_eq_true.2 fun v hv => List.all_eq_true.1 h v ?_
      simp only [Array.toList_extract, List.extract] at hv
      exact List.mem_of_mem_drop (List.mem_of_mem_take hv)
    simp only [flat1, Bool.or_eq_true]
    exact .inr this
  · cases e : x[off]? with
    | none => exact .stuck
    | some v =>
      refine .pure fun q1 l1 => ⟨rfl, ?_⟩
      have hv : leaf v = true := List.all_eq_true.1 h v (List.mem_of_getElem? (l := x.toList) (i := off) (by simpa using e))
      simp only [flat1, Bool.or_eq_true]
      exact .inl hv

theorem Sim.typeStr (t : TypeId) : Sim C p EqA (Go.typeStr t) (Go.typeStr t) := by
  unfold Go.typeStr
  refine (Sim.infoE t).bindE fun q l i => ?_
  dsimp only
  split
  · exact .unsupported
  · exact .pure fun _ _ => rfl

theorem frozen_cases (P : Program) (G : Nat) (s : St) (a : Addr) : arun P G (Go.frozen a) s = none ∨ ∃ c e fr, s.h.get a.block = some (.cells c e fr) ∧ a.off < c.size ∧ arun P G (Go.frozen a) s = some (.ok false, s.read a.block) := by
  simp only [Go.frozen, arun]
  split
  · rename_i c e fr h
    split
    · rename_i hl; exact .inr ⟨c, e, fr, h, hl.1, rfl⟩
    · exact .inl rfl
  · exact .inl rfl
theorem shape_cases (P : Program) (G : Nat) (s : St) (r : Nat) : arun P G (Go.shape r) s = none ∨ ∃ c e, s.h.get r = some (.cells c e (0, 0)) ∧ arun P G (Go.shape r) s = some (.ok (some (e, c.size)), s.read r) := by
  simp only [Go.shape, arun]
  split
  · rename_i c e fr h
    split
    · rename_i hl
      have hl : fr = (0, 0) := by simpa using hl
      subst hl
      exact .inr ⟨c, e, h, rfl⟩
    · exact .inl rfl
  · exact .inl rfl

theorem stringish_none {P : Program} {G : Nat} (s : St) (a : Addr) : arun P G (Go.stringish a) s = none := by
  unfold Go.stringish
  rw [arun_bind]
  rcases frozen_cases P G s a with h | ⟨c, e, fr, h1, h2, h⟩
  · rw [h]
  · rw [h]
    simp only [Bool.false_eq_true, if_false]
    rw [arun_bind]
    rcases shape_cases P G (s.read a.block) a.block with h | ⟨c', e', h3, h⟩
    · rw [h]
    · rw [h]
      dsimp only
      rcases frozen_cases P G ((s.read a.block).read a.block) { block := a.block, off := c'.size } with h | ⟨c2, e2, fr2, h4, h5, h⟩
      · rw [h]
      · simp only [St.read] at h3 h4
        rw [h3] at h4; cases h4
        simp at h5

theorem mayBeOne_none {P : Program} {G : Nat} (s : St) (a b : Addr) : arun P G (Go.mayBeOne a b) s = none := by
  unfold Go.mayBeOne
  simp only [arun_bind, stringish_none]

theorem noView_cases (P : Program) (G : Nat) (s : St) (a : Addr) : arun P G (noView a) s = none ∨ arun P G (noView a) s = some (.ok (), s.read a.block) := by
  unfold noView viewAt
  rw [arun_bind, arun_bind]
  rcases shape_cases P G s a.block with h | ⟨c', e', h3, h⟩
  · rw [h]; exact .inl rfl
  · rw [h]; exact .inr rfl

theorem sameAddr_none {P : Program} {G : Nat} {a b : Addr} (h : a.block ≠ b.block) (s : St) : arun P G (Go.sameAddr a b) s = none := by
  unfold Go.sameAddr
  have h' : (a.block == b.block) = false := by simpa using h
  simp only [h', Bool.false_eq_true, if_false]
  rw [arun_bind]
  rcases frozen_cases P G s a with h | ⟨c, e, fr, h1, h2, h⟩
  · rw [h]
  · rw [h]
    dsimp only
    rw [arun_bind]
    rcases frozen_cases P G (s.read a.block) b with h | ⟨c, e, fr, h1, h2, h⟩
    · rw [h]
    · rw [h]
      dsimp only
      simp only [Bool.false_and, Bool.false_eq_true, if_false]
      rw [arun_bind]
      rcases noView_cases P G ((s.read a.block).read b.block) a with h | h
      · rw [h]
      · rw [h]
        dsimp only
        rw [arun_bind]
        rcases noView_cases P G (((s.read a.block).read b.block).read a.block) b with h | h
        · rw [h]
        · rw [h]
          dsimp only
          rw [arun_bind, mayBeOne_none]

theorem Sim.sameAddr {a a' b b' : Addr} (h : AR p a a') (k : AR p b b') : Sim C p EqA (Go.sameAddr a b) (Go.sameAddr a' b') := by
  by_cases e : a.block = b.block
  · unfold Go.sameAddr
    have e' : a'.block = b'.block := by
      obtain ⟨⟨k1, h1⟩, _⟩ := h
      obtain ⟨⟨k2, h2⟩, _⟩ := k
      rw [e, h2] at h1; injection h1 with h1; injection h1 with h1; exact h1.symm
    simp only [e, e', BEq.rfl, if_true]
    refine .pure fun _ _ => ?_
    show (a == b) = (a' == b')
    rw [Bool.eq_iff_iff, beq_iff_eq, beq_iff_eq]
    obtain ⟨_, h2, h3⟩ := h
    obtain ⟨_, k2, k3⟩ := k
    cases a; cases a'; cases b; cases b'
    simp only at *
    subst h2 h3 k2 k3
    simp [e, e']
  · exact .no (sameAddr_none e)

/-- Equality is asked of values that name no block, or of one that names none, or of pointers. -/
def EqOk (P : Program) (t : TypeId) (x y : Value) : Prop := (flat1 x = true ∧ flat1 y = true) ∨ leaf x = true ∨ leaf y = true ∨ ∃ e, P.underlying t = some (.pointer e)

theorem Sim.equalIn : ∀ (d : Nat) (t : TypeId) {x x' y y' : Value}, EqOk C.P t x y → VR p x x' → VR p y y' → Sim C p EqA (Op.equalIn d t x y) (Op.equalIn d t x' y') := by
  intro d
  induction d generalizing p with
  | zero => intros; exact .unsupported
  | succ d ih =>
    intro t x x' y y' hok hx hy
    unfold Op.equalIn
    refine (Sim.under t).bind fun q l d d' hd => ?_
    obtain ⟨rfl, hd⟩ := hd
    replace hx := hx.le l
    replace hy := hy.le l
    have ix := hx.inv
    have iy := hy.inv
    split
    · obtain rfl := ix; obtain rfl := iy; exact .pure fun _ _ => rfl
    · obtain rfl := ix; obtain rfl := iy
      exact .ite (fun _ => .pure fun _ _ => rfl) fun _ => .stuck
    · obtain ⟨b, rfl, _⟩ := ix; obtain rfl := iy; exact .pure fun _ _ => rfl
    · obtain ⟨b, rfl, _⟩ := iy; obtain rfl := ix; exact .pure fun _ _ => rfl
    · exfalso
      rcases hok with ⟨h, _⟩ | h | h | ⟨e, h⟩
      · cases h
      · cases h
      · cases h
      · rw [hd] at h; cases h
    · exact .unsupported
    · exact .unsupported
    · obtain rfl := ix; obtain rfl := iy
      exact .ite (fun _ => .pure fun _ _ => rfl) fun _ => .stuck
    · obtain rfl := ix; obtain rfl := iy
      exact .ite (fun _ => .pure fun _ _ => rfl) fun _ => .stuck
    · obtain rfl := ix; obtain rfl := iy; exact .pure fun _ _ => rfl
    · obtain rfl := ix
      rename_i b
      cases b with
      | none => obtain rfl := iy; exact .pure fun _ _ => rfl
      | some b => obtain ⟨b', rfl, _⟩ := iy; exact .pure fun _ _ => rfl
    · obtain rfl := iy
      rename_i a hno
      cases a with
      | none => simp at hno
      | some b => obtain ⟨b', rfl, _⟩ := ix; exact .pure fun _ _ => rfl
    · obtain ⟨b1, rfl, h1⟩ := ix
      obtain ⟨b2, rfl, h2⟩ := iy
      refine (Sim.sizeOf _).bindE fun q1 l1 n => ?_
      refine .ite (fun _ => Sim.sameAddr (h1.le l1) (h2.le l1)) fun _ => ?_
      rename_i elem a b hn
      by_cases hb : a.block = b.block
      · have e1 : (a == b) = (b1 == b2) := by
          rw [Bool.eq_iff_iff, beq_iff_eq, beq_iff_eq]
          obtain ⟨⟨k1, g1⟩, h2', h3⟩ := h1
          obtain ⟨⟨k2, g2⟩, k2', k3⟩ := h2
          rw [hb, g2] at g1; injection g1 with g1; injection g1 with g1
          cases a; cases b; cases b1; cases b2
          simp only at *
          subst h2' h3 k2' k3 g1
          simp [hb]
        rw [e1]
        refine .ite (fun _ => .pure fun _ _ => rfl) fun _ => ?_
        exact (Sim.choose _).bind (B := EqA) fun q l a b e => by cases e; exact .pure fun _ _ => rfl
      · refine .no fun s => ?_
        have : (a == b) = false := by
          rw [beq_eq_false_iff_ne]; intro e; exact hb (by rw [e])
        rw [this]
        rfl
    · rename_i a b
      cases a with
      | none =>
        obtain rfl := ix
        cases b with
        | none => obtain rfl := iy; exact .pure fun _ _ => rfl
        | some b => obtain ⟨b', rfl, _⟩ := iy; exact .pure fun _ _ => rfl
      | some a =>
        obtain ⟨a', rfl, ha⟩ := ix
        cases b with
        | none => obtain rfl := iy; exact .pure fun _ _ => rfl
        | some b => obtain ⟨b', rfl, hb⟩ := iy; exact Sim.sameAddr ha hb
    · rename_i a b
      cases a with
      | some a => exact ix.elim
      | none =>
        obtain rfl := ix
        cases b with
        | some b => exact iy.elim
        | none => obtain rfl := iy; exact .pure fun _ _ => rfl
    · obtain rfl := ix; obtain rfl := iy; exact .pure fun _ _ => rfl
    · obtain ⟨u, rfl, _⟩ := iy; obtain rfl := ix; exact .pure fun _ _ => rfl
    · obtain ⟨u, rfl, _⟩ := ix; obtain rfl := iy; exact .pure fun _ _ => rfl
    · obtain ⟨u, rfl, hu⟩ := ix
      obtain ⟨v, rfl, hv⟩ := iy
      refine .ite (fun _ => .pure fun _ _ => rfl) fun _ => ?_
      refine (Sim.infoE _).bindE fun q1 l1 i => ?_
      refine .ite (fun _ => ?_) fun _ => ?_
      · refine Sim.askProgram.bind fun q2 l2 P1 P2 hP => ?_
        obtain ⟨rfl, rfl⟩ := hP
        refine Sim.askProgram.bind fun q3 l3 P1 P2 hP => ?_
        obtain ⟨rfl, rfl⟩ := hP
        dsimp only
        split
        · exact .no fun s => rfl
        · exact (Sim.typeStr _).bindE fun q4 l4 s => Sim.runtimePanic _
      · refine ih _ ?_ (hu.le l1) (hv.le l1)
        rcases hok with ⟨h, k⟩ | h | h | ⟨e, h⟩
        · simp only [flat1, leaf, Bool.false_or] at h k
          exact .inr (.inl h)
        · cases h
        · cases h
        · rw [hd] at h; cases h
    · obtain ⟨u, rfl, hu⟩ := ix
      obtain ⟨v, rfl, hv⟩ := iy
      rename_i fields xs ys
      have hfl : xs.toList.all leaf = true ∧ ys.toList.all leaf = true := by
        rcases hok with ⟨h, k⟩ | h | h | ⟨e, h⟩
        · simpa only [flat1, leaf, Bool.false_or] using And.intro h k
        · cases h
        · cases h
        · rw [hd] at h; cases h
      obtain rfl := leafs_eq hfl.1 hu
      obtain rfl := leafs_eq hfl.2 hv
      refine Sim.askProgram.bind fun q2 l2 P1 P2 hP => ?_
      obtain ⟨rfl, rfl⟩ := hP
      dsimp only
      split
      · exact .no fun s => rfl
      · refine Sim.bindE (e := forIn fields (none, ()) _) ?_ fun q3 l3 r => ?_
        · rw [← Array.forIn_toList]
          refine Sim.loopE _ _ fun q3 l3 f _ b => ?_
          refine .ite (fun _ => ?_) fun _ => .pure fun _ _ => rfl
          refine (Sim.partE hfl.1 _ _).bind fun q4 l4 a a' h => ?_
          obtain ⟨rfl, ha⟩ := h
          refine (Sim.partE hfl.2 _ _).bind fun q4 l4 b b' h => ?_
          obtain ⟨rfl, hb⟩ := h
          exact (ih _ (.inl ⟨ha, hb⟩) (VR.of_flat ha) (VR.of_flat hb)).bindE fun q l r => .ite (fun _ => .pure fun _ _ => rfl) fun _ => .pure fun _ _ => rfl
        · split <;> exact .pure fun _ _ => rfl
    · obtain ⟨u, rfl, hu⟩ := ix
      obtain ⟨v, rfl, hv⟩ := iy
      rename_i len elem xs ys
      have hfl : xs.toList.all leaf = true ∧ ys.toList.all leaf = true := by
        rcases hok with ⟨h, k⟩ | h | h | ⟨e, h⟩
        · simpa only [flat1, leaf, Bool.false_or] using And.intro h k
        · cases h
        · cases h
        · rw [hd] at h; cases h
      obtain rfl := leafs_eq hfl.1 hu
      obtain rfl := leafs_eq hfl.2 hv
      refine (Sim.sizeOf _).bindE fun q2 l2 n => ?_
      refine Sim.bindE (e := forIn [:len] (none, ()) _) ?_ fun q3 l3 r => ?_
      · rw [Std.Legacy.Range.forIn_eq_forIn_range']
        refine Sim.loopE _ _ fun q3 l3 f _ b => ?_
        refine (Sim.partE hfl.1 _ _).bind fun q4 l4 a a' h => ?_
        obtain ⟨rfl, ha⟩ := h
        refine (Sim.partE hfl.2 _ _).bind fun q4 l4 b b' h => ?_
        obtain ⟨rfl, hb⟩ := h
        exact (ih _ (.inl ⟨ha, hb⟩) (VR.of_flat ha) (VR.of_flat hb)).bindE fun q l r => .ite (fun _ => .pure fun _ _ => rfl) fun _ => .pure fun _ _ => rfl
      · dsimp only
        split <;> exact .pure fun _ _ => rfl
    · obtain rfl := ix
      rename_i b _ _
      cases b with
      | none => obtain rfl := iy; exact .pure fun _ _ => rfl
      | some b => obtain ⟨b', c', rfl, _⟩ := iy; exact .pure fun _ _ => rfl
    · obtain rfl := iy
      rename_i a _ _ _ _ hno
      cases a with
      | none => simp at hno
      | some b => obtain ⟨b', c', rfl, _⟩ := ix; exact .pure fun _ _ => rfl
    · obtain rfl := ix
      rename_i b
      cases b with
      | none => obtain rfl := iy; exact .pure fun _ _ => rfl
      | some b => obtain ⟨b', c', rfl, _⟩ := iy; exact .pure fun _ _ => rfl
    · obtain rfl := iy
      rename_i a hno
      cases a with
      | none => simp at hno
      | some b => obtain ⟨b', c', rfl, _⟩ := ix; exact .pure fun _ _ => rfl
    · obtain rfl := ix; obtain rfl := iy; exact .pure fun _ _ => rfl
    · obtain ⟨_, _, rfl, _⟩ := iy; obtain rfl := ix; exact .pure fun _ _ => rfl
    · obtain ⟨_, _, rfl, _⟩ := ix; obtain rfl := iy; exact .pure fun _ _ => rfl
    · exact .stuck

theorem Sim.equal {t : TypeId} {x x' y y' : Value} (h : EqOk C.P t x y) (hx : VR p x x') (hy : VR p y y') : Sim C p EqA (Op.equal t x y) (Op.equal t x' y') := Sim.equalIn _ t h hx hy

theorem Sim.eqGuardIn : ∀ (d : Nat) (t : TypeId) {x y : Value}, flat1 x = true → flat1 y = true → Sim C p EqA (Op.eqGuardIn d t x y) (Op.eqGuardIn d t x y) := by
  intro d
  induction d generalizing p with
  | zero => intros; exact .unsupported
  | succ d ih =>
    intro t x y hx hy
    unfold Op.eqGuardIn
    refine (Sim.underE t).bindE fun q l d => ?_
    split
    · exact .pure fun _ _ => rfl
    · rename_i fields xs ys
      have hfl : xs.toList.all leaf = true ∧ ys.toList.all leaf = true := by simpa only [flat1, leaf, Bool.false_or] using And.intro hx hy
      refine Sim.bindE (e := forIn fields (none, ()) _) ?_ fun q3 l3 r => ?_
      · rw [← Array.forIn_toList]
        refine Sim.loopE _ _ fun q3 l3 f _ b => ?_
        refine .ite (fun _ => ?_) fun _ => .pure fun _ _ => rfl
        refine (Sim.partE hfl.1 _ _).bind fun q4 l4 a a' h => ?_
        obtain ⟨rfl, ha⟩ := h
        refine (Sim.partE hfl.2 _ _).bind fun q4 l4 b b' h => ?_
        obtain ⟨rfl, hb⟩ := h
        exact (ih _ ha hb).bindE fun q l r => .ite (fun _ => .pure fun _ _ => rfl) fun _ => .pure fun _ _ => rfl
      · dsimp only
        split <;> exact .pure fun _ _ => rfl
    · rename_i len elem xs ys
      have hfl : xs.toList.all leaf = true ∧ ys.toList.all leaf = true := by simpa only [flat1, leaf, Bool.false_or] using And.intro hx hy
      refine (Sim.sizeOf _).bindE fun q2 l2 n => ?_
      refine Sim.bindE (e := forIn [:len] (none, ()) _) ?_ fun q3 l3 r => ?_
      · rw [Std.Legacy.Range.forIn_eq_forIn_range']
        refine Sim.loopE _ _ fun q3 l3 f _ b => ?_
        refine (Sim.partE hfl.1 _ _).bind fun q4 l4 a a' h => ?_
        obtain ⟨rfl, ha⟩ := h
        refine (Sim.partE hfl.2 _ _).bind fun q4 l4 b b' h => ?_
        obtain ⟨rfl, hb⟩ := h
        exact (ih _ ha hb).bindE fun q l r => .ite (fun _ => .pure fun _ _ => rfl) fun _ => .pure fun _ _ => rfl
      · dsimp only
        split <;> exact .pure fun _ _ => rfl
    · exact .pure fun _ _ => rfl

end
end Go.Ex

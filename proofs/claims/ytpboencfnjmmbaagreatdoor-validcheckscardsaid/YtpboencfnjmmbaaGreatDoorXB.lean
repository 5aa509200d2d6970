/-
  A plain run of what an operation does to memory, by names of blocks; whatever it answers, the run in memory answers too.
  Conditions: as each theorem says. (No program is named here.)
-/
import Derived.Test.YtpboencfnjmmbaaGreatDoorXA
namespace Go.Ex
set_option linter.unusedVariables false
open Go.RowKit

structure Cx where
  P : Program
  G : Nat
  base : Nat
  w0 : World
  lo : Nat
  old : Nat → Prop

structure St where
  h : Tr Obj
  ctr : Nat
  top : Nat
  rd : List Nat
  wr : List Nat

def ER (p : Rn) (x y : Array MapEntry) : Prop := x.size = y.size ∧ ∀ (i : Nat) (u v : MapEntry), x[i]? = some u → y[i]? = some v → VR p u.key v.key ∧ VR p u.val v.val ∧ v.born = u.born
theorem ER.le {p q : Rn} {x y : Array MapEntry} (h : ER p x y) (l : Le p q) : ER q x y := ⟨h.1, fun i u v a b => ⟨(h.2 i u v a b).1.le l, (h.2 i u v a b).2.1.le l, (h.2 i u v a b).2.2⟩⟩

/-- A row of cells; one that the plain run may read alone is marked by (2, 0). -/
def OC (p : Rn) (k : Nat) (c : Array Value) (e : TypeId) (fr : Nat × Nat) (o' : Obj) : Prop :=
  ∃ c' fr', o' = .cells c' e fr' ∧ c.size ≤ c'.size ∧ (∀ (i : Nat) (u v : Value), c[i]? = some u → c'[i]? = some v → VR p u v) ∧ (∀ j, j < c'.size → ¬ (fr'.1 ≤ j ∧ j < fr'.2)) ∧ (fr = (0, 0) ∧ c'.size = c.size ∨ fr.1 = 1 ∧ c'.size = k * fr.2)
def OR (p : Rn) (k : Nat) : Obj → Obj → Prop
  | .cells c e fr, o' => OC p k c e fr o' ∨ fr.1 = 2 ∧ ∃ c' e' fr', o' = .cells c' e' fr' ∧ c.size ≤ c'.size ∧ (∀ (i : Nat) (u v : Value), c[i]? = some u → c'[i]? = some v → VR p u v)
  | .map es cl, o' => ∃ es', o' = .map es' cl ∧ ER p es es'
  | .mapIter none a b c, o' => o' = .mapIter none a b c
  | .mapIter (some r) a b c, o' => ∃ r' k', o' = .mapIter (some r') a b c ∧ p r = some (r', k')
  | .stringIter s n, o' => o' = .stringIter s n
  | _, _ => False

theorem OR.le {p q : Rn} {k : Nat} {o o' : Obj} (h : OR p k o o') (l : Le p q) : OR q k o o' := by
  cases o with
  | cells c e fr =>
    rcases h with ⟨c', fr', h1, h2, h3, h4⟩ | ⟨h0, c', e', fr', h1, h2, h3⟩
    · exact .inl ⟨c', fr', h1, h2, fun i u v a b => (h3 i u v a b).le l, h4⟩
    · exact .inr ⟨h0, c', e', fr', h1, h2, fun i u v a b => (h3 i u v a b).le l⟩
  | map es cl => obtain ⟨es', h1, h2⟩ := h; exact ⟨es', h1, h2.le l⟩
  | mapIter m a b c => cases m with
    | none => exact h
    | some r => obtain ⟨r', k', h1, h2⟩ := h; exact ⟨r', k', h1, l _ _ h2⟩
  | stringIter s n => exact h
  | _ => exact h.elim

theorem OR.oc {p : Rn} {k : Nat} {c : Array Value} {e : TypeId} {fr : Nat × Nat} {o' : Obj} (h : OR p k (.cells c e fr) o') (hf : fr.1 ≠ 2) : OC p k c e fr o' := by
  rcases h with h | ⟨h, _⟩
  · exact h
  · exact absurd h hf

structure WR (C : Cx) (p : Rn) (s : St) (w : World) : Prop where
  below : Below C.base C.w0 w
  base : C.base ≤ w.heap.size
  dom : ∀ n b k, p n = some (b, k) → (C.old n ∨ C.lo ≤ n ∧ n < s.ctr) ∧ b < w.heap.size
  heap : ∀ n o, s.h.get n = some o → ∃ b k o', p n = some (b, k) ∧ w.heap[b]? = some o' ∧ OR p k o o'
  inj : ∀ n m o o' b k k', s.h.get n = some o → s.h.get m = some o' → p n = some (b, k) → p m = some (b, k') → n = m
  own : ∀ n b k, C.G ≤ n → p n = some (b, k) → C.base ≤ b
  ctr : C.G ≤ s.ctr
  far : ∀ n, C.old n → n < C.lo ∨ s.top ≤ n
  lo : C.lo ≤ s.ctr
  room : s.ctr ≤ s.top

def St.read (s : St) (n : Nat) : St := { s with rd := n :: s.rd }
def St.write (s : St) (n : Nat) (o : Obj) : St := { s with h := s.h.put n (some o), rd := n :: s.rd, wr := n :: s.wr }
def St.fresh (s : St) (o : Obj) : St := { s with h := s.h.put s.ctr (some o), ctr := s.ctr + 1 }

theorem WR.read {C : Cx} {p : Rn} {s : St} {w : World} (h : WR C p s w) (n : Nat) : WR C p (s.read n) w := ⟨h.below, h.base, h.dom, h.heap, h.inj, h.own, h.ctr, h.far, h.lo, h.room⟩
theorem WR.drew {C : Cx} {p : Rn} {s : St} {w : World} (h : WR C p s w) : WR C p s w.drew := ⟨h.below.drew, h.base, h.dom, h.heap, h.inj, h.own, h.ctr, h.far, h.lo, h.room⟩

theorem WR.write {C : Cx} {p : Rn} {s : St} {w w' : World} (h : WR C p s w) {n b k : Nat} {o o0 o' : Obj} (hp : p n = some (b, k)) (h0 : s.h.get n = some o0) (hG : C.G ≤ n) (hw : Below C.base w w') (hs : w'.heap.size = w.heap.size)
    (hb : w'.heap[b]? = some o') (hk : ∀ i, i ≠ b → w'.heap[i]? = w.heap[i]?) (ho : OR p k o o') : WR C p (s.write n o) w' := by
  refine ⟨h.below.trans hw, hs ▸ h.base, fun m b' k' e => hs ▸ h.dom m b' k' e, ?_, ?_, h.own, h.ctr, h.far, h.lo, h.room⟩
  · intro m u e
    simp only [St.write, Tr.get_put] at e
    split at e
    · rename_i hm; subst hm; cases e; exact ⟨b, k, o', hp, hb, ho⟩
    · rename_i hm
      obtain ⟨b', k', u', h1, h2, h3⟩ := h.heap m u e
      refine ⟨b', k', u', h1, ?_, h3⟩
      rw [hk b' (fun e' => hm ?_)]; exact h2
      subst e'
      exact h.inj m n u o0 _ _ _ e h0 h1 hp
  · intro m m' u u' b' k1 k2 e e' f f'
    have look : ∀ m u, (s.write n o).h.get m = some u → ∃ u', s.h.get m = some u' := by
      intro m u e
      simp only [St.write, Tr.get_put] at e
      split at e
      · rename_i hm; subst hm; exact ⟨o0, h0⟩
      · exact ⟨u, e⟩
    obtain ⟨v, e⟩ := look m u e
    obtain ⟨v', e'⟩ := look m' u' e'
    exact h.inj m m' v v' b' k1 k2 e e' f f'

def ext (p : Rn) (n b k : Nat) : Rn := fun m => if m = n then some (b, k) else p m
theorem WR.nowhere {C : Cx} {p : Rn} {s : St} {w : World} (h : WR C p s w) (ht : s.ctr < s.top) : p s.ctr = none := by
  cases e : p s.ctr with
  | none => rfl
  | some x =>
    rcases (h.dom _ x.1 x.2 e).1 with h1 | h1
    · have := h.lo; rcases h.far _ h1 with h2 | h2 <;> omega
    · omega
theorem WR.extend {C : Cx} {p : Rn} {s : St} {w : World} (h : WR C p s w) (ht : s.ctr < s.top) (b k : Nat) : Le p (ext p s.ctr b k) := by
  intro n x e
  unfold Ex.ext
  split
  · rename_i hn; subst hn; rw [h.nowhere ht] at e; cases e
  · exact e
theorem ext_self (p : Rn) (n b k : Nat) : ext p n b k n = some (b, k) := by simp [ext]

theorem WR.fresh {C : Cx} {p : Rn} {s : St} {w : World} (h : WR C p s w) (ht : s.ctr < s.top) {k : Nat} {o o' : Obj} (ho : OR (Ex.ext p s.ctr w.heap.size k) k o o') :
    WR C (Ex.ext p s.ctr w.heap.size k) (s.fresh o) (w.alloc o') := by
  have hle := h.extend ht w.heap.size k
  have hsz : (w.alloc o').heap.size = w.heap.size + 1 := by simp
  have old : ∀ n b j, Ex.ext p s.ctr w.heap.size k n = some (b, j) → n ≠ s.ctr → p n = some (b, j) := by
    intro n b j e hn; simpa [Ex.ext, hn] using e
  refine ⟨h.below.alloc h.base o', by have := h.base; omega, ?_, ?_, ?_, ?_, by have := h.ctr; simp only [St.fresh]; omega, h.far, by have := h.lo; simp only [St.fresh]; omega, by simp only [St.fresh]; omega⟩
  · intro n b j e
    by_cases hn : n = s.ctr
    · subst hn; rw [ext_self] at e; cases e; simp only [St.fresh]; exact ⟨.inr (by have := h.lo; omega), by omega⟩
    · have := h.dom n b j (old n b j e hn); simp only [St.fresh]; exact ⟨this.1.imp id (fun h => by omega), by omega⟩
  · intro n u e
    simp only [St.fresh, Tr.get_put] at e
    split at e
    · rename_i hn; subst hn; cases e
      exact ⟨w.heap.size, k, o', ext_self _ _ _ _, heap_alloc_new w o', ho⟩
    · obtain ⟨b, j, u', h1, h2, h3⟩ := h.heap n u e
      exact ⟨b, j, u', hle _ _ h1, by rw [heap_alloc_old w o' (h.dom _ _ _ h1).2]; exact h2, h3.le hle⟩
  · intro n m u u' b k1 k2 e e' f f'
    simp only [St.fresh, Tr.get_put] at e e'
    by_cases hn : n = s.ctr <;> by_cases hm : m = s.ctr
    · rw [hn, hm]
    · subst hn; rw [ext_self] at f; cases f
      have := (h.dom _ _ _ (old _ _ _ f' hm)).2; omega
    · subst hm; rw [ext_self] at f'; cases f'
      have := (h.dom _ _ _ (old _ _ _ f hn)).2; omega
    · rw [if_neg hn] at e; rw [if_neg hm] at e'
      exact h.inj n m u u' b k1 k2 e e' (old _ _ _ f hn) (old _ _ _ f' hm)
  · intro n b j hG e
    by_cases hn : n = s.ctr
    · subst hn; rw [ext_self] at e; cases e; exact h.base
    · exact h.own n b j hG (old _ _ _ e hn)

def okNew : Obj → Bool
  | .cells _ _ fr => fr == (0, 0)
  | .map _ _ | .mapIter _ _ _ _ | .stringIter _ _ => true
  | _ => false
def okSet : Obj → Bool
  | .map es _ => es.toList.all fun e => flat1 e.key
  | .mapIter _ _ _ _ | .stringIter _ _ => true
  | _ => false

/-- What is panicked with names no block. -/
def flatP : Value → Bool
  | .iface _ u => flat1 u
  | v => flat1 v
theorem VR.of_flatP {p : Rn} {v : Value} (h : flatP v = true) : VR p v v := by
  unfold flatP at h
  split at h
  · exact (VR.cl p).ifc _ _ _ (VR.of_flat h)
  · exact VR.of_flat h

def arun {α : Type} (P : Program) (G : Nat) : Sem α → St → Option (Except Value α × St)
  | .pure a, s => some (.ok a, s)
  | .load _ a k, s => match s.h.get a.block with
    | some (.cells c _ _) => if a.spot.isSome then none else match c[a.off]? with
      | some v => arun P G (k v) (s.read a.block)
      | none => none
    | _ => none
  | .store _ a v k, s => match s.h.get a.block with
    | some (.cells c e fr) => if a.spot.isNone && decide (G ≤ a.block) && decide (a.off < c.size ∧ fr.1 ≠ 2) && v.oneCell' then arun P G k (s.write a.block (.cells (c.setIfInBounds a.off v) e fr)) else none
    | _ => none
  | .new o k, s => if okNew o && decide (s.ctr < s.top) then arun P G (k s.ctr) (s.fresh o) else none
  | .shape r k, s => match s.h.get r with
    | some (.cells c e fr) => if fr == (0, 0) then arun P G (k (some (e, c.size))) (s.read r) else none
    | _ => none
  | .freeze _ _ _, _ => none
  | .frozen a k, s => match s.h.get a.block with
    | some (.cells c _ fr) => if a.off < c.size ∧ fr.1 ≠ 2 then arun P G (k false) (s.read a.block) else none
    | _ => none
  | .getObj r k, s => match s.h.get r with
    | some o => if okSet o then arun P G (k o) (s.read r) else none
    | none => none
  | .setObj r o k, s => match s.h.get r with
    | some o0 => if okSet o0 && okSet o && decide (G ≤ r) then arun P G k (s.write r o) else none
    | none => none
  | .choose q k, s => if q.forced then arun P G (k 0) s else none
  | .sys _ _, _ => none
  | .program k, s => arun P G (k P) s
  | .mark _ k, s => arun P G k s
  | .halt (.panic v), s => if flatP v then some (.error v, s) else none
  | .halt _, _ => none

theorem arun_bind {α β : Type} (P : Program) (G : Nat) (e : Sem α) (f : α → Sem β) : ∀ s, arun P G (e >>= f) s = match arun P G e s with
    | some (.ok v, s1) => arun P G (f v) s1
    | some (.error x, s1) => some (.error x, s1)
    | none => none := by
  show ∀ s, arun P G (e.bind f) s = _
  induction e with
  | pure a => intro s; rfl
  | load m a k ih => intro s; simp only [Sem.bind, arun]; split <;> (try rfl); split <;> (try rfl); split <;> first | rfl | exact ih _ _
  | store m a v k ih => intro s; simp only [Sem.bind, arun]; split <;> (try rfl); split <;> first | rfl | exact ih _
  | new o k ih => intro s; simp only [Sem.bind, arun]; split <;> first | rfl | exact ih _ _
  | shape r k ih => intro s; simp only [Sem.bind, arun]; split <;> (try rfl); split <;> first | rfl | exact ih _ _
  | freeze a n k ih => intro s; rfl
  | frozen a k ih => intro s; simp only [Sem.bind, arun]; split <;> (try rfl); split <;> first | rfl | exact ih _ _
  | getObj r k ih => intro s; simp only [Sem.bind, arun]; split <;> (try rfl); split <;> first | rfl | exact ih _ _
  | setObj r o k ih => intro s; simp only [Sem.bind, arun]; split <;> (try rfl); split <;> first | rfl | exact ih _
  | choose q k ih => intro s; simp only [Sem.bind, arun]; split <;> first | rfl | exact ih _ _
  | sys c k ih => intro s; rfl
  | program k ih => intro s; exact ih _ _
  | mark m k ih => intro s; exact ih _
  | halt h => intro s; cases h <;> first | rfl | (simp only [Sem.bind, arun]; split <;> rfl)

def Fits (C : Cx) {α : Type} (A : Rn → α → α → Prop) (p : Rn) (w' : World) (r : Except Value α) (res : Result α) : Prop :=
  match r with
  | .ok v => ∃ v', res = .ok v' w' ∧ A p v v'
  | .error x => ∃ x', res = .halt (.panic x') w' ∧ VR p x x'

def Sim (C : Cx) {α : Type} (p : Rn) (A : Rn → α → α → Prop) (e e' : Sem α) : Prop :=
  ∀ q, Le p q → ∀ s w, WR C q s w → ∀ r s', arun C.P C.G e s = some (r, s') → ∃ q' w', Le q q' ∧ WR C q' s' w' ∧ Fits C A q' w' r (e'.run C.P w)

section
variable {C : Cx} {α β : Type} {p : Rn} {A : Rn → α → α → Prop} {B : Rn → β → β → Prop}

theorem Sim.le {q : Rn} {e e' : Sem α} (h : Sim C p A e e') (l : Le p q) : Sim C q A e e' := fun r lr => h r (l.trans lr)

theorem Sim.pure {v v' : α} (h : ∀ q, Le p q → A q v v') : Sim C p A (Pure.pure v) (Pure.pure v') := by
  intro q l s w hw r s' e
  cases e
  exact ⟨q, w, Le.refl _, hw, v', rfl, h q l⟩

theorem Sim.bind {e e' : Sem α} {f f' : α → Sem β} (h : Sim C p A e e') (k : ∀ q, Le p q → ∀ v v', A q v v' → Sim C q B (f v) (f' v')) : Sim C p B (e >>= f) (e' >>= f') := by
  intro q l s w hw r s' hr
  rw [arun_bind] at hr
  cases he : arun C.P C.G e s with
  | none => rw [he] at hr; cases hr
  | some x =>
    obtain ⟨r1, s1⟩ := x
    obtain ⟨q1, w1, l1, hw1, hf⟩ := h q l s w hw r1 s1 he
    rw [he] at hr
    cases r1 with
    | ok v =>
      obtain ⟨v', e1, hA⟩ := hf
      obtain ⟨q2, w2, l2, hw2, hf2⟩ := k q1 (l.trans l1) v v' hA q1 (Le.refl _) s1 w1 hw1 r s' hr
      refine ⟨q2, w2, l1.trans l2, hw2, ?_⟩
      rw [Sem.run_bind, e1]
      exact hf2
    | error x =>
      obtain ⟨x', e1, hA⟩ := hf
      cases hr
      refine ⟨q1, w1, l1, hw1, x', ?_, hA⟩
      rw [Sem.run_bind, e1]
      rfl

theorem Sim.mono {A' : Rn → α → α → Prop} {e e' : Sem α} (h : Sim C p A e e') (k : ∀ q v v', Le p q → A q v v' → A' q v v') : Sim C p A' e e' := by
  intro q l s w hw r s' hr
  obtain ⟨q1, w1, l1, hw1, hf⟩ := h q l s w hw r s' hr
  refine ⟨q1, w1, l1, hw1, ?_⟩
  cases r with
  | ok v => obtain ⟨v', e1, hA⟩ := hf; exact ⟨v', e1, k _ _ _ (l.trans l1) hA⟩
  | error x => exact hf

theorem Sim.no {e e' : Sem α} (h : ∀ s, arun C.P C.G e s = none) : Sim C p A e e' := by
  intro q l s w hw r s' hr; rw [h] at hr; cases hr
theorem Sim.stuck {why : String} {e' : Sem α} : Sim C p A (Go.stuck why) e' := Sim.no fun _ => rfl
theorem Sim.unsupported {u : Unsupported} {e' : Sem α} : Sim C p A (Go.unsupported u) e' := Sim.no fun _ => rfl
theorem Sim.program {k k' : Program → Sem α} (h : Sim C p A (k C.P) (k' C.P)) : Sim C p A (.program k) (.program k') := h
theorem Sim.askProgram : Sim C p (fun _ a b => a = C.P ∧ b = C.P) Go.program Go.program := by
  intro q l s w hw r s' hr
  cases hr
  exact ⟨q, w, Le.refl _, hw, C.P, rfl, rfl, rfl⟩
theorem Sim.mark {m m' : Mark} : Sim C p (fun _ _ _ => True) (Go.mark m) (Go.mark m') := by
  intro q l s w hw r s' hr
  cases hr
  exact ⟨q, w, Le.refl _, hw, (), rfl, trivial⟩
theorem Sim.panic {v v' : Value} (h : flatP v = true → ∀ q, Le p q → VR q v v') : Sim C p A (goPanic v) (goPanic v') := by
  intro q l s w hw r s' hr
  simp only [goPanic, arun] at hr
  split at hr <;> cases hr
  rename_i hv
  have h := h hv
  exact ⟨q, w, Le.refl _, hw, v', rfl, h q l⟩
theorem Sim.choose (q : Question) : Sim C p (fun _ a b => a = b) (Go.choose q) (Go.choose q) := by
  intro q' l s w hw r s' hr
  simp only [Go.choose, arun] at hr
  split at hr
  · rename_i hf
    cases hr
    refine ⟨q', w, Le.refl _, hw, 0, ?_, rfl⟩
    simp [hf]
  · cases hr

theorem cells_of {q : Rn} {s : St} {w : World} (hw : WR C q s w) {a b : Addr} (hab : AR q a b) {c : Array Value} {e : TypeId} {fr : Nat × Nat} (hg : s.h.get a.block = some (.cells c e fr)) (hf : fr.1 ≠ 2) :
    ∃ k c' fr', q a.block = some (b.block, k) ∧ w.heap[b.block]? = some (.cells c' e fr') ∧ OC q k c e fr (.cells c' e fr') := by
  obtain ⟨b', k, o', h1, h2, h3⟩ := hw.heap _ _ hg
  obtain ⟨⟨k', h4⟩, _⟩ := hab
  rw [h1] at h4; cases h4
  obtain ⟨c', fr', rfl, hr⟩ := h3.oc hf
  exact ⟨k, c', fr', h1, h2, c', fr', rfl, hr⟩
theorem cells_in {q : Rn} {s : St} {w : World} (hw : WR C q s w) {a b : Addr} (hab : AR q a b) {c : Array Value} {e : TypeId} {fr : Nat × Nat} (hg : s.h.get a.block = some (.cells c e fr)) :
    ∃ c' e' fr', w.heap[b.block]? = some (.cells c' e' fr') ∧ c.size ≤ c'.size ∧ (∀ (i : Nat) (u v : Value), c[i]? = some u → c'[i]? = some v → VR q u v) := by
  obtain ⟨b', k, o', h1, h2, h3⟩ := hw.heap _ _ hg
  obtain ⟨⟨k', h4⟩, _⟩ := hab
  rw [h1] at h4; cases h4
  rcases h3 with ⟨c', fr', rfl, g1, g2, _⟩ | ⟨_, c', e', fr', rfl, g1, g2⟩
  · exact ⟨c', e, fr', h2, g1, g2⟩
  · exact ⟨c', e', fr', h2, g1, g2⟩

theorem Sim.load {a b : Addr} (h : AR p a b) : Sim C p VR (Go.load a) (Go.load b) := by
  intro q l s w hw r s' hr
  simp only [Go.load, arun] at hr
  split at hr <;> (try cases hr)
  rename_i c e fr hg
  split at hr <;> (try cases hr)
  rename_i hsp
  split at hr <;> (try cases hr)
  rename_i v hv
  obtain ⟨c', e', fr', h2, h4, h5⟩ := cells_in hw (h.le l) hg
  have hlt : a.off < c'.size := Nat.lt_of_lt_of_le (Array.getElem?_eq_some_iff.1 hv).1 h4
  have hc : w.cell? b = some (c'[a.off]) := by
    simp only [World.cell?, h2]
    rw [h.2.2, if_neg hsp, h.2.1]
    simp [hlt]
  refine ⟨q, w, Le.refl _, hw.read _, c'[a.off], ?_, h5 _ _ _ hv (by simp [hlt])⟩
  simp [run_load, hc]

theorem AR.block {q : Rn} {a b : Addr} (h : AR q a b) {b' k : Nat} (e : q a.block = some (b', k)) : b.block = b' := by
  obtain ⟨⟨k', h1⟩, _⟩ := h; rw [h1] at e; cases e; rfl

theorem Sim.store {a b : Addr} {v v' : Value} (h : AR p a b) (hv : VR p v v') : Sim C p (fun _ _ _ => True) (Go.store a v) (Go.store b v') := by
  intro q l s w hw r s' hr
  simp only [Go.store, arun] at hr
  split at hr <;> (try cases hr)
  rename_i c e fr hg
  split at hr <;> (try cases hr)
  rename_i hok
  simp only [Bool.and_eq_true, decide_eq_true_eq] at hok
  obtain ⟨⟨⟨hsp, hG⟩, hlt, hne⟩, h1c⟩ := hok
  obtain ⟨k, c', fr', h1, h2, h3⟩ := cells_of hw (h.le l) hg hne
  obtain ⟨_, _, e3, h4, h5, h6, h7⟩ := h3
  cases e3
  have hlt' : a.off < c'.size := Nat.lt_of_lt_of_le hlt h4
  have hbs : b.spot.isSome = false := by rw [h.2.2]; revert hsp; cases a.spot <;> simp
  have hc : w.cell? b = some (c'[a.off]) := by
    simp only [World.cell?, h2]
    rw [hbs, h.2.1]
    simp [hlt']
  have hfz : w.frozen? b = false := by
    simp only [World.frozen?, h2]
    rw [h.2.1]
    have := h6 _ hlt'
    simpa using this
  have h1c' : v'.oneCell' = true := by
    have i := hv.inv
    cases v with
    | agg x => cases h1c
    | tuple x => cases h1c
    | pointer a => cases a with
      | none => obtain rfl := i; rfl
      | some a => obtain ⟨b, rfl, _⟩ := i; rfl
    | slice a l c => cases a with
      | none => obtain rfl := i; rfl
      | some a => obtain ⟨b, c', rfl, _⟩ := i; rfl
    | map r => cases r with
      | none => obtain rfl := i; rfl
      | some r => obtain ⟨b, c', rfl, _⟩ := i; rfl
    | chan r => cases r with
      | none => obtain rfl := i; rfl
      | some r => exact i.elim
    | func f x y => obtain ⟨x', y', rfl, _⟩ := i; rfl
    | iface t u => obtain ⟨x', rfl, _⟩ := i; rfl
    | bool b => obtain rfl := i; rfl
    | int k n => obtain rfl := i; rfl
    | float k n => obtain rfl := i; rfl
    | complex k n m => obtain rfl := i; rfl
    | string s => obtain rfl := i; rfl
    | nilFunc => obtain rfl := i; rfl
    | nilIface => obtain rfl := i; rfl
  have hheap : (w.setCell b v').heap[b.block]? = some (.cells (c'.setIfInBounds a.off v') e fr') := by
    have hbl : b.block < w.heap.size := (Array.getElem?_eq_some_iff.1 h2).1
    have hbe : w.heap[b.block] = .cells c' e fr' := by simpa [hbl] using h2
    simp [World.setCell, Array.getElem?_modify, h2, hbs, h.2.1]
  refine ⟨q, w.setCell b v', Le.refl _, ?_, (), ?_, trivial⟩
  · refine hw.write h1 hg hG ((Below.refl _ w).setCell (hw.own _ _ _ hG h1) v') (by simp [World.setCell]) hheap (fun i hi => Below.heap_setCell w b v' i hi) ?_
    refine .inl ⟨_, _, rfl, by simpa using h4, ?_, by simpa using h6, by simpa using h7⟩
    intro i x y e1 e2
    rw [Array.getElem?_setIfInBounds] at e1 e2
    split at e1
    · rename_i hi
      rw [if_pos hi] at e2
      first | rw [if_pos hlt] at e1 | skip
      first | rw [if_pos hlt'] at e2 | skip
      cases e1; cases e2
      exact hv.le l
    · rename_i hi
      rw [if_neg hi] at e2
      exact h5 i x y e1 e2
  · rw [run_store C.P w b v' _ h1c', hc]
    simp [hfz]

theorem Sim.new {o o' : Obj} (h : ∀ q, Le p q → OR q 0 o o') : Sim C p (fun q a b => q a = some (b, 0)) (newObj o) (newObj o') := by
  intro q l s w hw r s' hr
  simp only [newObj, arun] at hr
  split at hr <;> cases hr
  rename_i hok
  simp only [Bool.and_eq_true, decide_eq_true_eq] at hok
  have hle := hw.extend hok.2 w.heap.size 0
  refine ⟨ext q s.ctr w.heap.size 0, w.alloc o', hle, hw.fresh hok.2 (h _ (l.trans hle)), w.heap.size, rfl, ext_self _ _ _ _⟩

theorem Sim.shape {r r' k : Nat} (h : p r = some (r', k)) : Sim C p (fun _ a b => a = b) (Go.shape r) (Go.shape r') := by
  intro q l s w hw x s' hr
  simp only [Go.shape, arun] at hr
  split at hr <;> (try cases hr)
  rename_i c e fr hg
  split at hr <;> cases hr
  rename_i hfr
  obtain ⟨b, k', o', h1, h2, h3⟩ := hw.heap _ _ hg
  rw [l _ _ h] at h1; cases h1
  have hfr : fr = (0, 0) := by simpa using hfr
  subst hfr
  obtain ⟨c', fr', rfl, _, _, _, h7⟩ := h3.oc (by decide)
  rcases h7 with ⟨_, h7⟩ | ⟨h7, _⟩
  · refine ⟨q, w, Le.refl _, hw.read _, _, rfl, ?_⟩
    simp [World.shape?, h2, h7]
  · simp at h7

theorem Sim.frozen {a b : Addr} (h : AR p a b) : Sim C p (fun _ a b => a = b) (Go.frozen a) (Go.frozen b) := by
  intro q l s w hw x s' hr
  simp only [Go.frozen, arun] at hr
  split at hr <;> (try cases hr)
  rename_i c e fr hg
  split at hr <;> cases hr
  rename_i hlt
  obtain ⟨hlt, hne⟩ := hlt
  obtain ⟨k, c', fr', h1, h2, h3⟩ := cells_of hw (h.le l) hg hne
  obtain ⟨_, _, e3, h4, h5, h6, h7⟩ := h3
  cases e3
  refine ⟨q, w, Le.refl _, hw.read _, _, rfl, ?_⟩
  simp only [World.frozen?, h2]
  rw [h.2.1]
  have := h6 a.off (Nat.lt_of_lt_of_le hlt h4)
  simpa using this

theorem getObj_run {w : World} {r : Nat} {o : Obj} (h : w.heap[r]? = some o) (ho : ∀ c e fr, o ≠ .cells c e fr) : (Go.getObj r).run C.P w = .ok o w := by
  simp only [Go.getObj, Sem.run, h]

theorem OR.set {q : Rn} {k : Nat} {o o' : Obj} (h : OR q k o o') (ho : okSet o = true) : OR q 0 o o' ∧ (∀ c e fr, o' ≠ .cells c e fr) := by
  cases o with
  | map es cl => obtain ⟨es', rfl, h2⟩ := h; exact ⟨⟨es', rfl, h2⟩, by simp⟩
  | mapIter m a b c => cases m with
    | none => obtain rfl := h; exact ⟨rfl, by simp⟩
    | some r => obtain ⟨r', k', rfl, h2⟩ := h; exact ⟨⟨r', k', rfl, h2⟩, by simp⟩
  | stringIter s n => obtain rfl := h; exact ⟨rfl, by simp⟩
  | _ => cases ho

theorem Sim.getObj {r r' k : Nat} (h : p r = some (r', k)) : Sim C p (fun q a b => OR q 0 a b ∧ okSet a = true) (Go.getObj r) (Go.getObj r') := by
  intro q l s w hw x s' hr
  simp only [Go.getObj, arun] at hr
  split at hr <;> (try cases hr)
  rename_i o hg
  split at hr <;> cases hr
  rename_i hok
  obtain ⟨b, k', o', h1, h2, h3⟩ := hw.heap _ _ hg
  rw [l _ _ h] at h1; cases h1
  obtain ⟨h4, h5⟩ := h3.set hok
  exact ⟨q, w, Le.refl _, hw.read _, o', getObj_run h2 h5, h4, hok⟩

theorem OR.any {q : Rn} {o o' : Obj} (h : OR q 0 o o') (ho : okSet o = true) (k : Nat) : OR q k o o' := by
  cases o with
  | map es cl => exact h
  | mapIter m a b c => cases m <;> exact h
  | stringIter s n => exact h
  | _ => cases ho

theorem Sim.setObj {r r' k : Nat} {o o' : Obj} (h : p r = some (r', k)) (ho : ∀ q, Le p q → OR q 0 o o') : Sim C p (fun _ _ _ => True) (Go.setObj r o) (Go.setObj r' o') := by
  intro q l s w hw x s' hr
  simp only [Go.setObj, arun] at hr
  split at hr <;> (try cases hr)
  rename_i o0 hg
  split at hr <;> cases hr
  rename_i hok
  simp only [Bool.and_eq_true, decide_eq_true_eq] at hok
  obtain ⟨⟨hok0, hok⟩, hG⟩ := hok
  obtain ⟨b, k', o1, h1, h2, h3⟩ := hw.heap _ _ hg
  have h1' := h1
  rw [l _ _ h] at h1; cases h1
  obtain ⟨h4, h5⟩ := h3.set hok0
  have hlt : r' < w.heap.size := (Array.getElem?_eq_some_iff.1 h2).1
  refine ⟨q, { w with heap := w.heap.setIfInBounds r' o' }, Le.refl _, ?_, (), ?_, trivial⟩
  · refine hw.write h1' hg hG ⟨rfl, rfl, rfl, by simp, fun i hi => ?_⟩ (by simp) (by simp [hlt]) (fun i hi => ?_) ((ho q l).any hok _)
    · have := hw.own _ _ _ hG h1'
      simp only [Array.getElem?_setIfInBounds]
      rw [if_neg (by omega)]
    · simp only [Array.getElem?_setIfInBounds]
      rw [if_neg (by omega)]
  · simp only [Go.setObj, Sem.run, h2]
end
end Go.Ex

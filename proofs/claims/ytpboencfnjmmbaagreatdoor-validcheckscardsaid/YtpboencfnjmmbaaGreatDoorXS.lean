/-
  A program's environment; where a plain run of a closed call begins, and what it says of the call in memory.
  Conditions: as each theorem says. (No program is named here.)
-/
import Derived.Test.YtpboencfnjmmbaaGreatDoorXR
namespace Go.Ex
set_option linter.unusedVariables false
open Go.RowKit

def fnOf (P : Program) (f : FuncId) : Option Func := match P.funcs[f]? with
  | some fn => if fn.body.isSome then some fn else none
  | none => none
abbrev Xt := List (FuncId × (Array Value → Sem Value))
def xtOf (l : Xt) (f : FuncId) : Option (Array Value → Sem Value) := (l.find? fun x => x.1 == f).map (·.2)
def envOf (P : Program) (G : Nat) (gl : Nat → Bool) (xt : Xt) : Env := ⟨P, G, gl, fnOf P, xtOf xt⟩

/-- A function without a body stands for what the model does. -/
def Stands (P : Program) (f : FuncId) (e : Array Value → Sem Value) : Prop := ∃ fn, P.funcs[f]? = some fn ∧ (fn.name == "runtime.NumGoroutine") = false ∧ fn.body.isNone = true ∧ Extern.findNext fn = none ∧ Extern.find fn = some e
def Simmed (e : Array Value → Sem Value) : Prop := ∀ (C : Cx) (p : Rn) (args args' : Array Value), Arr (VR p) args args' → Sim C p VR (e args) (e args')
theorem simmed_index : Simmed Extern.BytealgIndexByte.indexByte := fun _ _ _ _ h => Sim.indexByte h
theorem simmed_clone : Simmed Extern.MapsClone.clone := fun _ _ _ _ h => Sim.cloneMap h

def named (P : Program) : Bool := P.funcs.toList.all fun fn => !(fn.name == "runtime.NumGoroutine")
theorem good_of {P : Program} {G : Nat} {gl : Nat → Bool} {xt : Xt} (hz : P.types.toList.all zlB = true) (hn : named P = true) (hx : ∀ x ∈ xt, Stands P x.1 x.2 ∧ Simmed x.2) : Good (envOf P G gl xt) where
  zok := zok_of hz
  ext := by
    intro f e h
    obtain ⟨x, h1, rfl⟩ := Option.map_eq_some_iff.1 h
    have hm := List.mem_of_find?_eq_some h1
    have hf : x.1 = f := by have := List.find?_some h1; simpa using this
    obtain ⟨⟨fn, k1, k2, k3, k4, k5⟩, k6⟩ := hx x hm
    subst hf
    exact ⟨fun args w => run_callFunc_extern k1 k2 k3 k4 k5 args w, fun C _ p args args' ha => k6 C p args args' ha⟩
  call := by
    intro f fn h
    have h : fnOf P f = some fn := h
    unfold fnOf at h
    cases hf : P.funcs[f]? with
    | none => rw [hf] at h; cases h
    | some fn' =>
      rw [hf] at h
      dsimp only at h
      split at h <;> cases h
      rename_i hb
      refine ⟨hf, fun args w => ?_⟩
      have hname := List.all_eq_true.1 hn fn (List.mem_of_getElem? (l := P.funcs.toList) (i := f) (by simpa using hf))
      have h1 : fn.name ≠ "runtime.NumGoroutine" := by simpa using hname
      have h2 : fn.body.isNone = false := by cases h : fn.body <;> simp_all
      show (callFunc f args).run P w = _
      simp only [callFunc, Sem.run_bind, run_program, Result.andThen_ok, hf]
      rw [if_neg (by simpa using h1), if_neg (by simp [h2])]
      rfl

/-- The listed variables' cells, as far as they are told of. -/
abbrev Gs := List (Nat × Array Value)
def Held (gs : Gs) (w : World) : Prop := ∀ x ∈ gs, ∃ c e fr, w.heap[x.1]? = some (.cells c e fr) ∧ x.2.size ≤ c.size ∧ ∀ (i : Nat) (v : Value), x.2[i]? = some v → c[i]? = some v
theorem Held.lt {gs : Gs} {w : World} (h : Held gs w) {x : Nat × Array Value} (hx : x ∈ gs) : x.1 < w.heap.size := by
  obtain ⟨c, e, fr, h1, _⟩ := h x hx
  exact (Array.getElem?_eq_some_iff.1 h1).1
theorem Held.below {gs : Gs} {w w' : World} (h : Held gs w) (hb : Below w.heap.size w w') : Held gs w' := by
  intro x hx
  obtain ⟨c, e, fr, h1, h2⟩ := h x hx
  exact ⟨c, e, fr, (hb.block _ (h.lt hx)).trans h1, h2⟩

def glOf (gs : Gs) (n : Nat) : Bool := gs.any fun x => x.1 == n
def tr0 : Gs → Tr Obj
  | [] => []
  | x :: l => (tr0 l).put x.1 (some (.cells x.2 0 (2, 0)))
def st0 (G : Nat) (gs : Gs) : St := ⟨tr0 gs, G, 1000000000000, [], []⟩
theorem tr0_get : ∀ {gs : Gs} {n : Nat} {o : Obj}, (tr0 gs).get n = some o → ∃ c, (n, c) ∈ gs ∧ o = .cells c 0 (2, 0) := by
  intro gs
  induction gs with
  | nil => intro n o h; simp [tr0, Tr.get, lget_nil] at h
  | cons x l ih =>
    intro n o h
    simp only [tr0, Tr.get_put] at h
    split at h
    · rename_i e; subst e; cases h; exact ⟨x.2, List.mem_cons_self .., rfl⟩
    · obtain ⟨c, h1, h2⟩ := ih h
      exact ⟨c, List.mem_cons_of_mem _ h1, h2⟩
def rn0 (gs : Gs) : Rn := fun n => if glOf gs n then some (n, 0) else none
theorem rn0_some {gs : Gs} {n b k : Nat} (h : rn0 gs n = some (b, k)) : b = n ∧ ∃ x ∈ gs, x.1 = n := by
  unfold rn0 at h
  split at h <;> cases h
  rename_i hg
  obtain ⟨x, h1, h2⟩ := List.any_eq_true.1 hg
  exact ⟨rfl, x, h1, by simpa using h2⟩
def fits (G : Nat) (gs : Gs) : Bool := decide (G ≤ 1000000000000) && gs.all fun x => decide (x.1 < G) && x.2.toList.all flat1
def bs0 (G : Nat) (w : World) : Bs := ⟨w.heap.size, w, G, fun n => n < G⟩

theorem we0 {P : Program} {G : Nat} {gs : Gs} {xt : Xt} {w : World} (hf : fits G gs = true) (hw : Held gs w) : WE (envOf P G (glOf gs) xt) (bs0 G w) (rn0 gs) (st0 G gs) w := by
  unfold fits at hf
  simp only [Bool.and_eq_true, decide_eq_true_eq, List.all_eq_true] at hf
  obtain ⟨hG, hf⟩ := hf
  refine ⟨⟨Below.refl _ w, Nat.le_refl _, ?_, ?_, ?_, ?_, Nat.le_refl _, fun n h => .inl h, Nat.le_refl _, hG⟩, ?_⟩
  · intro n b k h
    obtain ⟨rfl, x, hx, rfl⟩ := rn0_some h
    exact ⟨.inl (hf x hx).1, hw.lt hx⟩
  · intro n o h
    obtain ⟨c, h1, rfl⟩ := tr0_get h
    obtain ⟨c', e, fr, h2, h3, h4⟩ := hw _ h1
    refine ⟨n, 0, _, ?_, h2, .inr ⟨rfl, c', e, fr, rfl, h3, fun i u v a b => ?_⟩⟩
    · have : glOf gs n = true := List.any_eq_true.2 ⟨_, h1, by simp⟩
      simp [rn0, this]
    · rw [h4 i u a] at b; cases b
      exact VR.of_flat ((hf _ h1).2 u (List.mem_of_getElem? (l := c.toList) (i := i) (by simpa using a)))
  · intro n m o o' b k k' _ _ h1 h2
    obtain ⟨rfl, _⟩ := rn0_some h1
    obtain ⟨rfl, _⟩ := rn0_some h2
    rfl
  · intro n b k hn h
    obtain ⟨rfl, x, hx, rfl⟩ := rn0_some h
    have := (hf x hx).1
    exact absurd hn (Nat.not_le.2 this)
  · intro g hg
    exact ⟨0, by
      have hg : glOf gs g = true := hg
      simp [rn0, hg]⟩

def says (r : Option (Except Chain Value × St)) : Bool := match r with
  | some (.ok (.bool true), _) => true
  | _ => false
/-- A closed call that answers true in the plain run answers true, and turns nothing that was there. -/
theorem closed {P : Program} {G : Nat} {gs : Gs} {xt : Xt} {o : Ov} {n : Nat} {f : FuncId} {w : World} (hE : Good (envOf P G (glOf gs) xt)) (hm : P.follows .mixedOrders = true) (hf : fits G gs = true) (hw : Held gs w)
    (ho : OvOk (envOf P G (glOf gs) xt) (bs0 G w) o) (hfn : (fnOf P f).isSome = true) (h : says (acall (envOf P G (glOf gs) xt) o n f #[] (st0 G gs)) = true) : Calls P f #[] w fun e w' => e = .returned (.bool true) ∧ Below w.heap.size w w' := by
  cases e : acall (envOf P G (glOf gs) xt) o n f #[] (st0 G gs) with
  | none => rw [e] at h; cases h
  | some x =>
    obtain ⟨r, s'⟩ := x
    rw [e] at h
    have hr : r = .ok (.bool true) := by
      unfold says at h
      split at h
      · rename_i h1; cases h1; rfl
      · cases h
    subst hr
    refine (call_sound hE ho hm n f #[] _ _ _ e hfn (bs0 G w).lo (bs0 G w).old (rn0 gs) w #[] (we0 hf hw) .nil).mono fun e w' hp => ?_
    obtain ⟨q, _, hw', he⟩ := hp
    cases e <;> first | exact he.elim | skip
    have := leaf_eq rfl he
    subst this
    exact ⟨rfl, hw'.wr.below⟩

/-- A call that was proved before: it answers true, and turns nothing that was there. -/
def awakes (l : List FuncId) : Ov := fun f => if l.contains f then some fun args => if args.size = 0 then mret (.ok (.bool true)) else mno else none
theorem WR.wide {C : Cx} {p : Rn} {s : St} {w w' : World} (h : WR C p s w) (hb : Below w.heap.size w w') : WR C p s w' := by
  refine ⟨h.below.trans (hb.mono h.base), Nat.le_trans h.base hb.size, fun n b k e => ⟨(h.dom n b k e).1, Nat.lt_of_lt_of_le (h.dom n b k e).2 hb.size⟩, fun n o e => ?_, h.inj, h.own, h.ctr, h.far, h.lo, h.room⟩
  obtain ⟨b, k, o', h1, h2, h3⟩ := h.heap n o e
  exact ⟨b, k, o', h1, (hb.block _ (h.dom n b k h1).2).trans h2, h3⟩
theorem awakes_ok {P : Program} {G : Nat} {gs : Gs} {xt : Xt} {w : World} {l : List FuncId} (hw : Held gs w)
    (h : ∀ f ∈ l, ∀ w, Held gs w → Calls P f #[] w fun e w' => e = .returned (.bool true) ∧ Below w.heap.size w w') : OvOk (envOf P G (glOf gs) xt) (bs0 G w) (awakes l) := by
  intro f m hm
  unfold awakes at hm
  split at hm <;> cases hm
  rename_i hf
  have hf : f ∈ l := by simpa using hf
  refine ⟨fun args => .ite (.ret _) .no, fun args s r s' hr lo old p w1 args' h1 ha => ?_⟩
  dsimp only at hr
  split at hr <;> cases hr
  rename_i hs
  have hs' : args' = #[] := by
    have := ha.1
    rw [hs] at this
    exact Array.eq_empty_of_size_eq_zero this.symm
  subst hs'
  refine (h f hf w1 (hw.below h1.wr.below)).mono fun e w' hp => ?_
  obtain ⟨rfl, hb⟩ := hp
  exact ⟨p, Le.refl _, ⟨h1.wr.wide hb, h1.gl⟩, VR.of_leaf rfl⟩
end Go.Ex

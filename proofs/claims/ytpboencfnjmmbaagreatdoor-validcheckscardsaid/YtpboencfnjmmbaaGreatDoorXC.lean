/-
  What the operations do, by names of blocks: loads, stores, new blocks, parts, rows.
  Conditions: as each theorem says. (No program is named here.)
-/
import Derived.Test.YtpboencfnjmmbaaGreatDoorXB
namespace Go.Ex
set_option linter.unusedVariables false
open Go.RowKit
section
variable {C : Cx} {α β : Type} {p : Rn} {A : Rn → α → α → Prop} {B : Rn → β → β → Prop}

abbrev EqA {α : Type} : Rn → α → α → Prop := fun _ a b => a = b
abbrev ArrA : Rn → Array Value → Array Value → Prop := fun q => Arr (VR q)

/-- Zero values name no block. -/
def Zok (P : Program) : Prop := ∀ t i v, P.info? t = some i → i.zero = some v → ∀ p, VR p v v

theorem Sim.same {e : Sem α} (h : ∀ s w, (∃ v, arun C.P C.G e s = some (.ok v, s) ∧ e.run C.P w = .ok v w) ∨ arun C.P C.G e s = none) : Sim C p EqA e e := by
  intro q l s w hw r s' hr
  rcases h s w with ⟨v, h1, h2⟩ | h1
  · rw [h1] at hr; cases hr; exact ⟨q, w, Le.refl _, hw, v, h2, rfl⟩
  · rw [h1] at hr; cases hr

theorem Sim.ite {c : Prop} [Decidable c] {x y x' y' : Sem α} (h : c → Sim C p A x x') (k : ¬ c → Sim C p A y y') : Sim C p A (if c then x else y) (if c then x' else y') := by
  by_cases hc : c
  · rw [if_pos hc, if_pos hc]; exact h hc
  · rw [if_neg hc, if_neg hc]; exact k hc

theorem Sim.unit {e e' : Sem Unit} {A : Rn → Unit → Unit → Prop} (h : Sim C p (fun _ _ _ => True) e e') (k : ∀ q, A q () ()) : Sim C p A e e' := h.mono fun q _ _ _ _ => k q

theorem Sim.bindE {γ : Type} {e : Sem γ} {f f' : γ → Sem β} (h : Sim C p EqA e e) (k : ∀ q, Le p q → ∀ v, Sim C q B (f v) (f' v)) : Sim C p B (e >>= f) (e >>= f') :=
  h.bind fun q l v v' e => by cases e; exact k q l v

theorem Sim.bindX {γ : Type} {e e' : Sem γ} {f f' : γ → Sem β} (h : Sim C p EqA e e') (k : ∀ q, Le p q → ∀ v, Sim C q B (f v) (f' v)) : Sim C p B (e >>= f) (e' >>= f') :=
  h.bind fun q l v v' e => by cases e; exact k q l v

theorem Sim.info (t : TypeId) : Sim C p (fun _ a b => a = b ∧ C.P.info? t = some a) (typeInfo t) (typeInfo t) := by
  unfold typeInfo
  refine Sim.askProgram.bind fun q l a b h => ?_
  obtain ⟨rfl, rfl⟩ := h
  cases h : C.P.info? t with
  | none => exact .stuck
  | some i => exact .pure fun _ _ => ⟨rfl, rfl⟩
theorem Sim.under (t : TypeId) : Sim C p (fun _ a b => a = b ∧ C.P.underlying t = some a) (underlying t) (underlying t) := by
  unfold underlying
  refine Sim.askProgram.bind fun q l a b h => ?_
  obtain ⟨rfl, rfl⟩ := h
  cases h : C.P.underlying t with
  | none => exact .stuck
  | some i => exact .pure fun _ _ => ⟨rfl, rfl⟩
theorem Sim.infoE (t : TypeId) : Sim C p EqA (typeInfo t) (typeInfo t) := (Sim.info t).mono fun _ _ _ _ h => h.1
theorem Sim.underE (t : TypeId) : Sim C p EqA (underlying t) (underlying t) := (Sim.under t).mono fun _ _ _ _ h => h.1
theorem Sim.sizeOf (t : TypeId) : Sim C p EqA (Go.sizeOf t) (Go.sizeOf t) := by
  unfold Go.sizeOf
  exact (Sim.infoE t).bindE fun q l i => .pure fun _ _ => rfl
theorem Sim.zero (hz : Zok C.P) (t : TypeId) : Sim C p VR (zeroValue t) (zeroValue t) := by
  unfold zeroValue
  refine (Sim.info t).bind fun q l a b h => ?_
  obtain ⟨rfl, h⟩ := h
  cases e : a.zero with
  | none => exact .unsupported
  | some v => exact .pure fun q _ => hz _ _ _ h e q
theorem Sim.isAgg (t : TypeId) : Sim C p EqA (isAgg t) (isAgg t) := by
  unfold Go.isAgg
  refine (Sim.underE t).bindE fun q l d => ?_
  cases d <;> exact .pure fun _ _ => rfl

theorem AR.add {a b : Addr} (h : AR p a b) (n : Nat) : AR p (a.add n) (b.add n) := by
  unfold Addr.add
  split
  · exact h
  · exact ⟨h.1, by simp [h.2.1], rfl⟩

theorem Sim.loadCellsFrom {a b : Addr} (h : AR p a b) : ∀ (n i : Nat) (x y : Array Value), Arr (VR p) x y → Sim C p ArrA (Go.loadCellsFrom a i n x) (Go.loadCellsFrom b i n y) := by
  intro n
  induction n generalizing p with
  | zero => intro i x y hx; exact .pure fun q l => hx.le l
  | succ n ih =>
    intro i x y hx
    unfold Go.loadCellsFrom
    exact (Sim.load (h.add i)).bind fun q l v v' hv => ih (h.le l) _ _ _ ((hx.le l).push hv)
theorem Sim.loadCells {a b : Addr} (h : AR p a b) (n : Nat) : Sim C p ArrA (Go.loadCells a n) (Go.loadCells b n) := Sim.loadCellsFrom h n 0 _ _ .nil
theorem Sim.loadVar {a b : Addr} (h : AR p a b) (t : TypeId) : Sim C p VR (loadVar t a) (loadVar t b) := by
  unfold Go.loadVar
  refine (Sim.isAgg t).bindE fun q l c => ?_
  refine .ite (fun _ => ?_) fun _ => Sim.load (h.le l)
  refine (Sim.sizeOf t).bindE fun q1 l1 n => ?_
  exact (Sim.loadCells (h.le (l.trans l1)) n).bind fun q2 l2 x y hx => .pure fun q3 l3 => (VR.cl _).agg _ _ (hx.le l3)

theorem Sim.storeCells : ∀ (vs us : List Value) {a b : Addr}, AR p a b → Arr (VR p) vs.toArray us.toArray → ∀ i, Sim C p (fun _ _ _ => True) (Go.storeCells a vs i) (Go.storeCells b us i) := by
  intro vs
  induction vs generalizing p with
  | nil =>
    intro us a b h hv i
    have : us = [] := List.eq_nil_of_length_eq_zero (by simpa using hv.1.symm)
    subst this
    exact .pure fun _ _ => trivial
  | cons v vs ih =>
    intro us a b h hv i
    cases us with
    | nil => simp [Arr] at hv
    | cons u us =>
      unfold Go.storeCells
      refine (Sim.store (h.add i) (hv.2 0 v u (by simp) (by simp))).bind fun q l _ _ _ => ih us (h.le l) ?_ _
      refine ⟨by simpa using hv.1, fun j x y e f => (hv.2 (j + 1) x y (by simpa using e) (by simpa using f)).le l⟩
theorem Arr.toList {x y : Array Value} (h : Arr (VR p) x y) : Arr (VR p) x.toList.toArray y.toList.toArray := by simpa using h
theorem Sim.storeVar {a b : Addr} {v v' : Value} (h : AR p a b) (hv : VR p v v') (t : TypeId) : Sim C p (fun _ _ _ => True) (storeVar t a v) (storeVar t b v') := by
  unfold Go.storeVar
  refine (Sim.sizeOf t).bindE fun q l n => ?_
  have hc := (hv.le l).cells
  rw [hc.1]
  split
  · exact .no fun s => rfl
  · exact Sim.storeCells _ _ (h.le l) ((hv.le l).cells.toList) 0

theorem Arr.cellsOR {x y : Array Value} (h : Arr (VR p) x y) (e : TypeId) : OR p 0 (.cells x e) (.cells y e) :=
  .inl ⟨y, _, rfl, by rw [h.1]; exact Nat.le_refl _, h.2, by simp, .inl ⟨rfl, h.1.symm⟩⟩
theorem Sim.newRow {x y : Array Value} (h : Arr (VR p) x y) (e : TypeId) : Sim C p (fun q a b => AR q a b) (newRow e x) (newRow e y) := by
  unfold Go.newRow
  exact (Sim.new (o := .cells x e) (o' := .cells y e) fun q l => (h.le l).cellsOR e).bind fun q l a b e => .pure fun q1 l1 => ⟨⟨0, l1 _ _ e⟩, rfl, rfl⟩
theorem Sim.newVar {v v' : Value} (h : VR p v v') (t : TypeId) : Sim C p (fun q a b => AR q a b) (newVar t v) (newVar t v') := Sim.newRow h.cells t

theorem VR.ptr {a b : Addr} (h : AR p a b) : VR p (.pointer (some a)) (.pointer (some b)) := (VR.cl p).ptr a b h

theorem Sim.sureAddr {v v' : Value} (h : VR p v v') : Sim C p (fun q a b => AR q a b) (Instr.sureAddr v) (Instr.sureAddr v') := by
  have i := h.inv
  cases v with
  | pointer a => cases a with
    | none => obtain rfl := i; exact .stuck
    | some a => obtain ⟨b, rfl, hab⟩ := i; exact .pure fun q l => hab.le l
  | _ => exact .stuck
theorem Sim.asIntOf {v v' : Value} (h : VR p v v') : Sim C p EqA (Go.asIntOf v) (Go.asIntOf v') := by
  have i := h.inv
  cases v with
  | int k n => obtain rfl := i; exact .pure fun _ _ => rfl
  | pointer a => cases a <;> first | exact .stuck | exact .unsupported
  | _ => exact .stuck
theorem Sim.asInt {v v' : Value} (h : VR p v v') : Sim C p EqA (Go.asInt v) (Go.asInt v') := by
  unfold Go.asInt
  exact (Sim.asIntOf h).bind fun q l a b e => by cases e; exact .pure fun _ _ => rfl
theorem Sim.asAgg {v v' : Value} (h : VR p v v') : Sim C p ArrA (Go.asAgg v) (Go.asAgg v') := by
  have i := h.inv
  cases v with
  | agg x => obtain ⟨y, rfl, hx⟩ := i; exact .pure fun q l => hx.le l
  | _ => exact .stuck
theorem Sim.asBool {v v' : Value} (h : VR p v v') : Sim C p EqA (Go.asBool v) (Go.asBool v') := by
  have i := h.inv
  cases v with
  | bool x => obtain rfl := i; exact .pure fun q l => rfl
  | _ => exact .stuck

theorem Sim.runtimePanic (e : RuntimeError) : Sim C p A (Go.runtimePanic e) (Go.runtimePanic e) := by
  unfold Go.runtimePanic
  refine Sim.askProgram.bind fun q l a b h => ?_
  obtain ⟨rfl, rfl⟩ := h
  cases e with
  | typeAssertion i c a m =>
    refine .no fun s => ?_
    dsimp only
    rw [arun_bind]
    unfold elemOf Go.underlying
    simp only [arun_bind]
    simp only [Go.program, arun]
    cases h : C.P.underlying C.P.rt.typeAssertionError with
    | none => rfl
    | some d =>
      simp only [arun, Pure.pure]
      cases d <;> first | rfl | skip
      rename_i e0
      have nv : ∀ (v : Value) (s : St), arun C.P C.G (Go.newVar e0 v) s = none ∨ ∃ a s1, arun C.P C.G (Go.newVar e0 v) s = some (.ok a, s1) := by
        intro v s
        unfold Go.newVar Go.newRow
        rw [arun_bind]
        simp only [Go.newObj, arun]
        by_cases hc : (okNew (Obj.cells v.cells e0) && decide (s.ctr < s.top)) = true
        · rw [if_pos hc]; exact .inr ⟨_, _, rfl⟩
        · rw [if_neg hc]; exact .inl rfl
      simp only [arun]
      generalize (Value.agg _ : Value) = vv
      rcases nv vv s with h | ⟨a, s1, h⟩
      · rw [h]
      · rw [h]; rfl
  | panicNil =>
    refine .no fun s => ?_
    dsimp only
    rw [arun_bind]
    unfold elemOf Go.underlying
    simp only [arun_bind]
    simp only [Go.program, arun]
    cases h : C.P.underlying C.P.rt.panicNilError with
    | none => rfl
    | some d =>
      simp only [arun, Pure.pure]
      cases d <;> first | rfl | skip
      rename_i e0
      have nv : ∀ (v : Value) (s : St), arun C.P C.G (Go.newVar e0 v) s = none ∨ ∃ a s1, arun C.P C.G (Go.newVar e0 v) s = some (.ok a, s1) := by
        intro v s
        unfold Go.newVar Go.newRow
        rw [arun_bind]
        simp only [Go.newObj, arun]
        by_cases hc : (okNew (Obj.cells v.cells e0) && decide (s.ctr < s.top)) = true
        · rw [if_pos hc]; exact .inr ⟨_, _, rfl⟩
        · rw [if_neg hc]; exact .inl rfl
      simp only [arun]
      generalize (Value.agg _ : Value) = vv
      rcases nv vv s with h | ⟨a, s1, h⟩
      · rw [h]
      · rw [h]; rfl
  | _ => exact .panic fun h q l => VR.of_flatP h
theorem Sim.boundsPanic (k : IntKind) (x y : Int) (c : BoundsCode) : Sim C p A (Go.boundsPanic k x y c) (Go.boundsPanic k x y c) := by
  unfold Go.boundsPanic
  split
  · refine Sim.bind (A := EqA) ?_ fun q l a b e => by cases e; exact Sim.runtimePanic _
    exact (Sim.choose _).bind (B := EqA) fun q l a b e => by cases e; exact .pure fun _ _ => rfl
  · exact Sim.runtimePanic (.bounds (IntKind.i64.wrap x) y (k != .u64) c)

theorem Sim.loadAt {v v' : Value} (h : VR p v v') (t : TypeId) : Sim C p VR (Instr.loadAt t v) (Instr.loadAt t v') := (Sim.sureAddr h).bind fun q l a b hab => Sim.loadVar hab t
theorem Sim.storeAt {a a' v v' : Value} (h : VR p a a') (hv : VR p v v') (t : TypeId) : Sim C p (fun _ _ _ => True) (Instr.storeAt t a v) (Instr.storeAt t a' v') := (Sim.sureAddr h).bind fun q l a b hab => Sim.storeVar hab (hv.le l) t
theorem Sim.alloc (hz : Zok C.P) (t : TypeId) : Sim C p VR (Instr.alloc t true (.tuple #[])) (Instr.alloc t true (.tuple #[])) := by
  unfold Instr.alloc
  exact (Sim.zero hz t).bind fun q l v v' hv => (Sim.newVar hv t).bind fun q1 l1 a b hab => .pure fun q2 l2 => VR.ptr (hab.le l2)
theorem Sim.box {v v' : Value} (h : VR p v v') (t : TypeId) : Sim C p VR (Instr.box t v) (Instr.box t v') := by
  unfold Instr.box
  exact (Sim.newVar h t).bind fun q1 l1 a b hab => .pure fun q2 l2 => VR.ptr (hab.le l2)

end
end Go.Ex

/-
  One operation of a function, by names of blocks, and in memory.
  Conditions: as each theorem says. (No program is named here.)
-/
import Derived.Test.YtpboencfnjmmbaaGreatDoorXJ
import Derived.Tactics
namespace Go.Ex
set_option linter.unusedVariables false
open Go.RowKit

/-- What the plain run is told of a program. -/
structure Env where
  P : Program
  G : Nat
  gl : Nat → Bool
  fn : FuncId → Option Func
  ext : FuncId → Option (Array Value → Sem Value)

structure Good (E : Env) : Prop where
  zok : Zok E.P
  ext : ∀ f e, E.ext f = some e → (∀ (args : Array Value) (w : World), (callFunc f args).run E.P w = ((e args).run E.P w).andThen fun v w' => .ok (.value v) w') ∧ ∀ (C : Cx), C.P = E.P → ∀ p args args', Arr (VR p) args args' → Sim C p VR (e args) (e args')
  call : ∀ f fn, E.fn f = some fn → E.P.funcs[f]? = some fn ∧ ∀ (args : Array Value) (w : World), (callFunc f args).run E.P w = .ok (.enter f args) w

/-- Where a run began, and the names that it may not take. -/
structure Bs where
  base : Nat
  w0 : World
  lo : Nat
  old : Nat → Prop
abbrev Env.cx (E : Env) (B : Bs) : Cx := ⟨E.P, E.G, B.base, B.w0, B.lo, B.old⟩

/-- A world that the plain run speaks of. -/
structure WE (E : Env) (B : Bs) (p : Rn) (s : St) (w : World) : Prop where
  wr : WR (E.cx B) p s w
  gl : ∀ g, E.gl g = true → ∃ k, p g = some (g, k)

structure AA where
  t : Tr Value
  n : Nat
  ds : List Deferred

def DsR (p : Rn) : List Deferred → List Deferred → Prop
  | [], [] => True
  | d :: l, e :: m => DR p d e ∧ DsR p l m
  | _, _ => False
theorem DsR.le {p q : Rn} (l : Le p q) : ∀ {x y : List Deferred}, DsR p x y → DsR q x y
  | [], [], _ => trivial
  | _ :: _, _ :: _, h => ⟨h.1.le l, DsR.le l h.2⟩

structure ARL (p : Rn) (a : AA) (b : Act) : Prop where
  size : b.tmps.size = a.n
  val : ∀ i v, a.t.get i = some v → i < a.n ∧ VR p v (b.tmps.getD i undef)
  ds : DsR p a.ds b.defers
theorem ARL.le {p q : Rn} {a : AA} {b : Act} (h : ARL p a b) (l : Le p q) : ARL q a b := ⟨h.size, fun i v e => ⟨(h.val i v e).1, (h.val i v e).2.le l⟩, DsR.le l h.ds⟩

def AA.eval (gl : Nat → Bool) (a : AA) : Operand → Option Value
  | .tmp i => a.t.get i
  | .const v => if flat1 v then some v else none
  | .global g => if gl g then some (.pointer (some ⟨g, 0, none⟩)) else none
  | .func f => some (.func (.func f) #[] #[])
def AA.ev (gl : Nat → Bool) (a : AA) (x : Operand) : Value := (a.eval gl x).getD undef

theorem eval_rel {E : Env} {B : Bs} {p : Rn} {s : St} {w : World} {a : AA} {b : Act} (hw : WE E B p s w) (h : ARL p a b) {x : Operand} {v : Value} (e : a.eval E.gl x = some v) : VR p v (b.eval x) := by
  cases x with
  | tmp i => exact (h.val i v e).2
  | const u =>
    simp only [AA.eval] at e
    split at e <;> cases e
    rename_i hf
    exact VR.of_flat hf
  | global g =>
    simp only [AA.eval] at e
    split at e <;> cases e
    rename_i hg
    obtain ⟨k, hk⟩ := hw.gl g hg
    exact VR.ptr ⟨⟨k, hk⟩, rfl, rfl⟩
  | func f => cases e; exact VR.of_flat rfl
theorem ev_rel {E : Env} {B : Bs} {p : Rn} {s : St} {w : World} {a : AA} {b : Act} (hw : WE E B p s w) (h : ARL p a b) {x : Operand} (e : (a.eval E.gl x).isSome = true) : VR p (a.ev E.gl x) (b.eval x) := by
  cases hx : a.eval E.gl x with
  | none => rw [hx] at e; cases e
  | some v => simp only [AA.ev, hx, Option.getD_some]; exact eval_rel hw h hx

def AA.put (a : AA) (dst : Option Tmp) (v : Value) : Option AA :=
  match dst with
  | some d => if d < a.n then some { a with t := a.t.put d (some v) } else none
  | none => some a
theorem put_rel {p : Rn} {a a' : AA} {b : Act} {dst : Option Tmp} {v v' : Value} (h : ARL p a b) (e : a.put dst v = some a') (hv : VR p v v') : ARL p a' (b.put dst v') := by
  cases dst with
  | none => cases e; exact h
  | some d =>
    simp only [AA.put] at e
    split at e <;> cases e
    rename_i hd
    refine ⟨by simpa [Act.put] using h.size, fun i u hi => ?_, h.ds⟩
    simp only [Tr.get_put] at hi
    simp only [Act.put, Array.getD_eq_getD_getElem?, Array.getElem?_setIfInBounds]
    split at hi
    · rename_i hid; subst hid; cases hi
      rw [if_pos rfl, if_pos (by rw [h.size]; exact hd)]
      exact ⟨hd, hv⟩
    · rename_i hid
      rw [if_neg (fun e => hid e.symm)]
      have := h.val i u hi
      rw [Array.getD_eq_getD_getElem?] at this
      exact this

abbrev Chain := List PanicEntry
def ChR (p : Rn) : Chain → Chain → Prop
  | [], [] => True
  | x :: l, y :: m => VR p x.v y.v ∧ y.recovered = x.recovered ∧ y.goexit = x.goexit ∧ ChR p l m
  | _, _ => False
theorem ChR.le {p q : Rn} (l : Le p q) : ∀ {x y : Chain}, ChR p x y → ChR q x y
  | [], [], _ => trivial
  | _ :: _, _ :: _, h => ⟨h.1.le l, h.2.1, h.2.2.1, ChR.le l h.2.2.2⟩

abbrev Call := FuncId → Array Value → M (Except Chain Value)

/-- A slot is set. -/
def aput (a : AA) (dst : Option Tmp) (v : Value) : M (Except Chain AA) := fun s => match a.put dst v with
  | some a' => some (.ok a', s)
  | none => none
theorem Loc.put (a : AA) (dst : Option Tmp) (v : Value) : Loc (aput a dst v) := by
  cases h : a.put dst v with
  | none => exact Loc.no.congr fun s => by unfold aput; rw [h]; rfl
  | some a' => exact (Loc.ret (.ok a')).congr fun s => by unfold aput; rw [h]; rfl

/-- What is put behind an operation of our own. -/
def amake (a : AA) (dst : Option Tmp) (m : M Value) : M (Except Chain AA) := mb m fun v => aput a dst v

def anext (a : AA) (dst : Option Tmp) : Except Value Next → M (Except Chain AA)
  | .error x => mret (.error [{ v := x, recovered := false }])
  | .ok (.value v) => aput a dst v
  | .ok .skip => aput a dst undef
  | .ok _ => mno
def agen (E : Env) (a : AA) (o : Oper) : M (Except Chain AA) :=
  if opOk E.P (a.ev E.gl) o then mb (arun E.P E.G (execOp (a.ev E.gl) o)) (anext a o.dst) else mno

def aback (a : AA) (dst : Option Tmp) : Except Chain Value → M (Except Chain AA)
  | .ok v => aput a dst v
  | .error c => mret (.error c)
def acalled (E : Env) (call : Call) (a : AA) (dst : Option Tmp) (f : Value) (args : Array Value) : M (Except Chain AA) :=
  match f with
  | .func (.func g) first captured => match E.ext g with
    | some e => mb (arun E.P E.G (e ((first ++ args) ++ captured))) fun r => match r with
      | .ok v => aput a dst v
      | .error x => mret (.error [{ v := x, recovered := false }])
    | none => if (E.fn g).isSome then mb (call g ((first ++ args) ++ captured)) (aback a dst) else mno
  | _ => mno

def adefer (a : AA) (dst : Option Tmp) (f : Value) (args : Array Value) : M (Except Chain AA) :=
  match f with
  | .func fn first captured => if noYield fn then aput { a with ds := { target := .fn fn captured, args := first ++ args } :: a.ds } dst undef else mno
  | _ => mno

def isStr : Option TypeDesc → Bool
  | some .string => true
  | _ => false

def isApp : Builtin → Bool
  | .append => true
  | _ => false
def aappend (E : Env) (a : AA) (dst : Option Tmp) (args : Array Operand) (ts : Array TypeId) : M (Except Chain AA) :=
  if args.size == 2 && ts.size == 2 then amake a dst (aapp E.P E.G (ts.getD 0 0) (ts.getD 1 0) (a.ev E.gl (args.getD 0 default)) (a.ev E.gl (args.getD 1 default))) else mno

def astep (E : Env) (call : Call) (a : AA) (o : Oper) : M (Except Chain AA) :=
  if o.op.operands.all fun x => (a.eval E.gl x).isSome then
    match o.op with
    | .call { callee := .builtin b, args, argTypes } => if isApp b then aappend E a o.dst args argTypes else agen E a o
    | .call { callee := .value f, args, .. } => acalled E call a o.dst (a.ev E.gl f) (args.map (a.ev E.gl))
    | .defer { callee := .value f, args, .. } => adefer a o.dst (a.ev E.gl f) (args.map (a.ev E.gl))
    | .slice t x lo hi none => if known (a.ev E.gl x) then agen E a o else amake a o.dst (aslice E.P t (a.ev E.gl x) (lo.map (a.ev E.gl)) (hi.map (a.ev E.gl)))
    | .convert s d x => if convOk E.P s d (a.ev E.gl x) then agen E a o else if isStr (E.P.underlying s) then amake a o.dst (abytes E.P d (a.ev E.gl x)) else mno
    | _ => agen E a o
  else mno

theorem Loc.makeA {a : AA} {dst : Option Tmp} {m : M Value} (h : Loc m) : Loc (amake a dst m) := h.bind fun v => Loc.put _ _ _
theorem Loc.gen (E : Env) (a : AA) (o : Oper) : Loc (agen E a o) := by
  unfold agen
  refine .ite ((Loc.arun _ _ _).bind fun r => ?_) .no
  cases r with
  | error x => exact .ret _
  | ok n => cases n <;> first | exact .no | exact Loc.put _ _ _
theorem Loc.called {E : Env} {call : Call} (h : ∀ f args, Loc (call f args)) (a : AA) (dst : Option Tmp) (f : Value) (args : Array Value) : Loc (acalled E call a dst f args) := by
  unfold acalled
  split
  · split
    · refine (Loc.arun _ _ _).bind fun r => ?_
      cases r with
      | error c => exact .ret _
      | ok v => exact Loc.put _ _ _
    · refine .ite ((h _ _).bind fun r => ?_) .no
      cases r with
      | error c => exact .ret _
      | ok v => exact Loc.put _ _ _
  · exact .no
theorem Loc.step {E : Env} {call : Call} (h : ∀ f args, Loc (call f args)) (a : AA) (o : Oper) : Loc (astep E call a o) := by
  unfold astep
  refine .ite ?_ .no
  split
  · refine .ite ?_ (Loc.gen _ _ _)
    unfold aappend
    exact .ite (Loc.makeA (Loc.app _ _ _ _ _ _)) .no
  · exact Loc.called h _ _ _ _
  · unfold adefer
    split
    · exact .ite (Loc.put _ _ _) .no
    · exact .no
  · exact .ite (Loc.gen _ _ _) (Loc.makeA (Loc.slice _ _ _ _ _))
  · exact .ite (Loc.gen _ _ _) (.ite (Loc.makeA (Loc.bytes _ _ _)) .no)
  · exact Loc.gen _ _ _

theorem WE.le {E : Env} {B : Bs} {p q : Rn} {s s' : St} {w w' : World} (h : WE E B p s w) (l : Le p q) (k : WR (E.cx B) q s' w') : WE E B q s' w' :=
  ⟨k, fun g hg => (h.gl g hg).imp fun _ e => l _ _ e⟩

def EndR (q : Rn) : Except Chain Value → Ending → Prop
  | .ok v, .returned v' => VR q v v'
  | .error c, .panicked c' => ChR q c c'
  | _, _ => False
def CallOk (E : Env) (B : Bs) (call : Call) : Prop := ∀ f args s r s', call f args s = some (r, s') → (E.fn f).isSome = true → ∀ lo old p w args', WE E { B with lo, old } p s w → Arr (VR p) args args' →
  Calls E.P f args' w fun e w' => ∃ q, Le p q ∧ WE E { B with lo, old } q s' w' ∧ EndR q r e

/-- What a region's or a code's ends are told by. -/
structure Goes (E : Env) (B : Bs) (p : Rn) (s' : St) (a : AA) (o : Oper) (r : Except Chain AA) (b : Act) (K : Act → World → Prop) (Q : Exit → Act → World → Prop) : Prop where
  ok : ∀ q w' a' a0 b0 v v', Le p q → WE E B q s' w' → r = .ok a' → ARL q a0 b0 → a0.put o.dst v = some a' → VR q v v' → ((∀ c, o.op ≠ .defer c) → a0 = a ∧ b0 = b) → K (b0.put o.dst v') w'
  bad : ∀ q w' c c', Le p q → WE E B q s' w' → r = .error c → ChR q c c' → Q (.panic c') b w'

theorem mb_some {β γ : Type} {m : M β} {f : β → M γ} {s s' : St} {c : γ} (h : mb m f s = some (c, s')) : ∃ b s1, m s = some (b, s1) ∧ f b s1 = some (c, s') := by
  unfold mb at h
  cases e : m s with
  | none => rw [e] at h; cases h
  | some x => obtain ⟨b, s1⟩ := x; rw [e] at h; exact ⟨b, s1, rfl, h⟩
theorem aput_some {a : AA} {dst : Option Tmp} {v : Value} {s s' : St} {r : Except Chain AA} (h : aput a dst v s = some (r, s')) : ∃ a', a.put dst v = some a' ∧ r = .ok a' ∧ s' = s := by
  unfold aput at h
  cases e : a.put dst v with
  | none => rw [e] at h; cases h
  | some a' => rw [e] at h; cases h; exact ⟨a', rfl, rfl, rfl⟩

section
variable {E : Env} {B : Bs} {call : Call} {p : Rn} {s s' : St} {w : World} {a : AA} {b : Act} {o : Oper} {r : Except Chain AA} {K : Act → World → Prop} {Q : Exit → Act → World → Prop}

theorem gen_sound (hE : Good E) (hw : WE E B p s w) (ha : ARL p a b) (hop : ∀ x ∈ o.op.operands, VR p (a.ev E.gl x) (b.eval x)) (h : agen E a o s = some (r, s')) (hg : Goes E B p s' a o r b K Q) : o.wp E.P b w K Q := by
  unfold agen at h
  split at h <;> (try (cases h; done))
  rename_i hok
  obtain ⟨n, s1, h1, h2⟩ := mb_some h
  obtain ⟨q, w1, l1, hw1, hf⟩ := Sim.exec (C := (E.cx B)) hE.zok hok hop p (Le.refl _) s w hw.wr _ _ h1
  have hwe := hw.le l1 hw1
  unfold Oper.wp
  cases n with
  | error x =>
    obtain ⟨x', e1, hx⟩ := hf
    cases h2
    rw [show (execOp b.eval o).run E.P w = _ from e1, Oper.upon_panic]
    exact hg.bad q w1 _ _ l1 hwe rfl ⟨hx, rfl, rfl, trivial⟩
  | ok n =>
    obtain ⟨n', e1, hn⟩ := hf
    rw [show (execOp b.eval o).run E.P w = _ from e1]
    cases n <;> first | (cases h2; done) | skip
    · rename_i v
      cases n' <;> first | exact hn.elim | skip
      rw [Oper.upon_value]
      obtain ⟨a', e2, rfl, rfl⟩ := aput_some h2
      exact hg.ok q w1 a' a b _ _ l1 hwe rfl (ha.le l1) e2 hn fun _ => ⟨rfl, rfl⟩
    · cases n' <;> first | exact hn.elim | skip
      rw [Oper.upon_skip]
      obtain ⟨a', e2, rfl, rfl⟩ := aput_some h2
      exact hg.ok q w1 a' a b _ _ l1 hwe rfl (ha.le l1) e2 (VR.undef _) fun _ => ⟨rfl, rfl⟩

/-- An operation of our own, whose run in memory answers one value. -/
theorem make_sound {m : M Value} {e' : Sem Value} (hm : SimV (E.cx B) p m e') (hx : ∀ w, (execOp b.eval o).run E.P w = (e'.run E.P w).andThen fun v w' => .ok (.value v) w') (hw : WE E B p s w) (ha : ARL p a b) (h : amake a o.dst m s = some (r, s')) (hg : Goes E B p s' a o r b K Q) : o.wp E.P b w K Q := by
  obtain ⟨v, s1, h1, h2⟩ := mb_some h
  obtain ⟨q, w1, v', l1, hw1, hv, e1⟩ := hm s w hw.wr v s1 h1
  unfold Oper.wp
  rw [hx, show e'.run E.P w = _ from e1]
  simp only [Result.andThen_ok]
  rw [Oper.upon_value]
  obtain ⟨a', e2, rfl, rfl⟩ := aput_some h2
  exact hg.ok q w1 a' a b _ _ l1 (hw.le l1 hw1) rfl (ha.le l1) e2 hv fun _ => ⟨rfl, rfl⟩

theorem arr2 {α : Type} [Inhabited α] {x : Array α} (h : x.size = 2) : x = #[x.getD 0 default, x.getD 1 default] := by
  obtain ⟨l⟩ := x
  match l, h with
  | [u, v], _ => rfl

theorem step_sound (hE : Good E) (hcall : CallOk E B call) (hw : WE E B p s w) (ha : ARL p a b) (h : astep E call a o s = some (r, s')) (hg : Goes E B p s' a o r b K Q) : o.wp E.P b w K Q := by
  unfold astep at h
  split at h <;> (try (cases h; done))
  rename_i hall
  have hop : ∀ x ∈ o.op.operands, VR p (a.ev E.gl x) (b.eval x) := by
    intro x hx
    refine ev_rel hw ha ?_
    rw [Array.all_eq_true'] at hall
    exact hall x hx
  cases ho : o.op with
  | call c =>
   obtain ⟨cal, args, ts⟩ := c
   cases cal with
   | builtin bi =>
    simp only [ho] at h
    split at h
    · rename_i hb
      have hb : bi = .append := by cases bi <;> first | rfl | cases hb
      subst hb
      unfold aappend at h
      split at h <;> (try (cases h; done))
      rename_i hsz
      simp only [Bool.and_eq_true, beq_iff_eq] at hsz
      have e1 := arr2 hsz.1
      have e2 : ts = #[ts.getD 0 0, ts.getD 1 0] := arr2 hsz.2
      have hx : VR p (a.ev E.gl (args.getD 0 default)) (b.eval (args.getD 0 default)) := hop _ (by rw [ho, e1]; simp [Op.operands, Call.operands])
      have hy : VR p (a.ev E.gl (args.getD 1 default)) (b.eval (args.getD 1 default)) := hop _ (by rw [ho, e1]; simp [Op.operands, Call.operands])
      refine make_sound (SimV.app (ty := o.type) hx hy) (fun w => ?_) hw ha h hg
      have e3 : args.map b.eval = #[b.eval (args.getD 0 default), b.eval (args.getD 1 default)] := (congrArg (Array.map b.eval) e1).trans (by simp only [List.map_toArray, List.map_cons, List.map_nil])
      simp only [execOp, ho, resolve, invoke, Go.builtin, Sem.run_bind, Sem.run_pure, Result.andThen_ok]
      rw [e3, ← e2]
    · exact gen_sound hE hw ha hop h hg
   | invoke rc m => simp only [ho] at h; exact gen_sound hE hw ha hop h hg
   | value f =>
    simp only [ho] at h
    unfold acalled at h
    cases hf : a.ev E.gl f <;> rw [hf] at h <;> (try (cases h; done))
    rename_i fv first captured
    cases fv <;> (try (cases h; done))
    rename_i g
    dsimp only at h
    have hfv := hop f (by rw [ho]; simp [Op.operands, Call.operands])
    rw [hf] at hfv
    obtain ⟨first', captured', ef, _, hfi, hca⟩ := hfv.inv
    have hargs : Arr (VR p) (args.map (a.ev E.gl)) (args.map b.eval) := Arr.map fun x hx => hop x (by rw [ho]; simp [Op.operands, Call.operands, hx])
    cases hext : E.ext g with
    | some e0 =>
     rw [hext] at h
     dsimp only at h
     obtain ⟨rv, s1, h1, h2⟩ := mb_some h
     obtain ⟨q, w1, l1, hw1, hfit⟩ := (hE.ext g e0 hext).2 (E.cx B) rfl p _ _ ((hfi.append hargs).append hca) p (Le.refl _) s w hw.wr _ _ h1
     have hwe := hw.le l1 hw1
     have hen : (execOp b.eval o).run E.P w = ((e0 ((first' ++ args.map b.eval) ++ captured')).run E.P w).andThen fun v w' => .ok (.value v) w' := by
       simp only [execOp, ho, resolve, Sem.run_bind, ef, Deferred.ofValue, Sem.run_pure, Result.andThen_ok, invoke]
       exact (hE.ext g e0 hext).1 _ _
     unfold Oper.wp
     rw [hen]
     cases rv with
     | error x =>
       obtain ⟨x', e1, hx⟩ := hfit
       cases h2
       rw [show (e0 ((first' ++ args.map b.eval) ++ captured')).run E.P w = _ from e1]
       exact hg.bad q w1 _ _ l1 hwe rfl ⟨hx, rfl, rfl, trivial⟩
     | ok v =>
       obtain ⟨v', e1, hv⟩ := hfit
       rw [show (e0 ((first' ++ args.map b.eval) ++ captured')).run E.P w = _ from e1]
       obtain ⟨a', e2, rfl, rfl⟩ := aput_some h2
       exact hg.ok q w1 a' a b _ _ l1 hwe rfl (ha.le l1) e2 hv fun _ => ⟨rfl, rfl⟩
    | none =>
    rw [hext] at h
    dsimp only at h
    split at h <;> (try (cases h; done))
    rename_i hfn
    obtain ⟨rv, s1, h1, h2⟩ := mb_some h
    have hc := hcall g _ s rv s1 h1 hfn B.lo B.old p w _ hw ((hfi.append hargs).append hca)
    have hen : (execOp b.eval o).run E.P w = .ok (.enter g ((first' ++ args.map b.eval) ++ captured')) w := by
      obtain ⟨fn, hfn⟩ := Option.isSome_iff_exists.1 hfn
      have := (hE.call g fn hfn).2
      simp only [execOp, ho, resolve, Sem.run_bind, ef, Deferred.ofValue, Sem.run_pure, Result.andThen_ok, invoke]
      exact this _ _
    unfold Oper.wp
    rw [hen, Oper.upon_enter]
    refine hc.mono ?_
    rintro e w' ⟨q, l1, hw1, he⟩
    cases rv with
    | ok v =>
      cases e <;> first | exact he.elim | skip
      obtain ⟨a', e2, rfl, rfl⟩ := aput_some h2
      exact hg.ok q w' a' a b _ _ l1 hw1 rfl (ha.le l1) e2 he fun _ => ⟨rfl, rfl⟩
    | error c =>
      cases e <;> first | exact he.elim | skip
      cases h2
      exact hg.bad q w' c _ l1 hw1 rfl he
  | defer c =>
   obtain ⟨cal, args, ts⟩ := c
   cases cal with
   | builtin bi => simp only [ho] at h; exact gen_sound hE hw ha hop h hg
   | invoke rc m => simp only [ho] at h; exact gen_sound hE hw ha hop h hg
   | value f =>
    simp only [ho] at h
    unfold adefer at h
    cases hf : a.ev E.gl f <;> rw [hf] at h <;> (try (cases h; done))
    rename_i fn first captured
    dsimp only at h
    split at h <;> (try (cases h; done))
    rename_i hny
    have hfv := hop f (by rw [ho]; simp [Op.operands, Call.operands])
    rw [hf] at hfv
    obtain ⟨first', captured', ef, _, hfi, hca⟩ := hfv.inv
    have hargs : Arr (VR p) (args.map (a.ev E.gl)) (args.map b.eval) := Arr.map fun x hx => hop x (by rw [ho]; simp [Op.operands, Call.operands, hx])
    have hen : (execOp b.eval o).run E.P w = .ok (.defer { target := .fn fn captured', args := first' ++ args.map b.eval }) w := by
      simp only [execOp, ho, resolve, Sem.run_bind, ef, Deferred.ofValue, Sem.run_pure, Result.andThen_ok]
    unfold Oper.wp
    rw [hen, Oper.upon_defer]
    obtain ⟨a', e2, rfl, rfl⟩ := aput_some h
    exact hg.ok p w a' { a with ds := { target := .fn fn captured, args := first ++ args.map (a.ev E.gl) } :: a.ds } { b with defers := { target := .fn fn captured', args := first' ++ args.map b.eval } :: b.defers } _ _ (Le.refl _) hw rfl ⟨ha.size, ha.val, ⟨⟨fn, captured, captured', rfl, rfl, hny, hca, hfi.append hargs⟩, ha.ds⟩⟩ e2 (VR.undef _) fun h => absurd ho (h _)
  | slice t x lo hi mx =>
   cases mx with
   | some _ => simp only [ho] at h; exact gen_sound hE hw ha hop h hg
   | none =>
    simp only [ho] at h
    split at h
    · exact gen_sound hE hw ha hop h hg
    · rename_i hk
      have hx := hop x (by rw [ho]; simp [Op.operands])
      have OVm : ∀ (y : Option Operand), (∀ z, y = some z → z ∈ o.op.operands) → OV p (y.map (a.ev E.gl)) (y.map b.eval) := by
        intro y hy
        cases y with
        | none => trivial
        | some z => exact hop z (hy z rfl)
      refine make_sound (SimV.slice (by simpa using hk) hx (OVm lo fun z hz => ?_) (OVm hi fun z hz => ?_)) (fun w => ?_) hw ha h hg
      · rw [ho]; simp [Op.operands, hz]
      · rw [ho]; simp [Op.operands, hz]
      · simp only [execOp, ho, Sem.run_bind, Sem.run_pure, Option.map_none]
  | convert sd d x =>
    simp only [ho] at h
    split at h
    · exact gen_sound hE hw ha hop h hg
    · split at h <;> (try (cases h; done))
      rename_i hs
      have hs : E.P.underlying sd = some .string := by
        unfold isStr at hs
        split at hs
        · assumption
        · cases hs
      have hx := hop x (by rw [ho]; simp [Op.operands])
      refine make_sound (SimV.bytes (sd := sd) hs hx) (fun w => ?_) hw ha h hg
      simp only [execOp, ho, Sem.run_bind, Sem.run_pure]
  | _ => simp only [ho] at h; exact gen_sound hE hw ha hop h hg
end
end Go.Ex

/-
  Calls, what they put off and what that recovers, by names of blocks, and in memory.
  Conditions: as each theorem says. (No program is named here.)
-/
import Derived.Test.YtpboencfnjmmbaaGreatDoorXO
namespace Go.Ex
set_option linter.unusedVariables false
open Go.RowKit

theorem loadVar_same {P : Program} {t : TypeId} {a : Addr} {w w' : World} {v : Value} (h : (loadVar t a).run P w = .ok v w') : w' = w := by
  unfold Go.loadVar at h
  rw [Sem.run_bind] at h
  cases e : (Go.isAgg t).run P w with
  | halt x w1 => rw [e] at h; cases h
  | ok c w1 =>
    have hw1 : w1 = w := by
      unfold Go.isAgg Go.underlying at e
      simp only [Sem.run_bind, run_program, Result.andThen_ok] at e
      cases hd : P.underlying t with
      | none => rw [hd] at e; cases e
      | some d => rw [hd] at e; cases d <;> (cases e; rfl)
    subst hw1
    rw [e] at h
    simp only [Result.andThen_ok] at h
    split at h
    · rw [Sem.run_bind] at h
      cases e2 : (Go.sizeOf t).run P w1 with
      | halt x w2 => rw [e2] at h; cases h
      | ok n w2 =>
        have hw2 : w2 = w1 := by
          unfold Go.sizeOf Go.typeInfo at e2
          simp only [Sem.run_bind, run_program, Result.andThen_ok] at e2
          cases hd : P.info? t with
          | none => rw [hd] at e2; cases e2
          | some d => rw [hd] at e2; cases e2; rfl
        subst hw2
        rw [e2] at h
        simp only [Result.andThen_ok] at h
        rw [Sem.run_bind] at h
        cases e3 : (Go.loadCells a n).run P w2 with
        | halt x w3 => rw [e3] at h; cases h
        | ok cs w3 =>
          have := loads_same _ _ _ e3
          subst this
          rw [e3] at h
          cases h; rfl
    · exact load_same h

section
variable {E : Env} {B : Bs} {call : Call} {p : Rn} {s s' : St} {w : World} {a a' : AA} {b : Act}

theorem res1_sound (hw : WE E B p s w) (ha : ARL p a b) {r : ResultVar} {v : Value} (h : ares1 E a r s = some (v, s')) : ∃ q v', Le p q ∧ WE E B q s' w ∧ VR q v v' ∧ (match r with | .tmp t => (Pure.pure (b.tmps.getD t undef) : Sem Value) | .cell t ty => (do loadVar ty (← asAddr (b.tmps.getD t undef)))).run E.P w = .ok v' w := by
  cases r with
  | tmp t =>
    unfold ares1 at h
    dsimp only at h
    cases hv : a.t.get t with
    | none => rw [hv] at h; cases h
    | some u => rw [hv] at h; cases h; exact ⟨p, _, Le.refl _, hw, (ha.val t _ hv).2, rfl⟩
  | cell t ty =>
    unfold ares1 at h
    dsimp only at h
    cases hv : a.t.get t with
    | none => rw [hv] at h; cases h
    | some u =>
      rw [hv] at h
      cases u <;> first | (cases h; done) | skip
      rename_i o
      cases o with
      | none => cases h
      | some ad =>
        dsimp only at h
        cases hl : arun E.P E.G (loadVar ty ad) s with
        | none => rw [hl] at h; cases h
        | some x =>
          obtain ⟨r, s1⟩ := x
          rw [hl] at h
          cases r with
          | error _ => cases h
          | ok u =>
            cases h
            obtain ⟨ad', e1, hab⟩ := (ha.val t _ hv).2.inv
            obtain ⟨q, w1, l1, hw1, v', e2, hvv⟩ := Sim.loadVar (C := E.cx B) hab ty p (Le.refl _) s w hw.wr _ _ hl
            have e2 : (loadVar ty ad').run E.P w = .ok v' w1 := e2
            have := loadVar_same e2
            subst this
            refine ⟨q, v', l1, hw.le l1 hw1, hvv, ?_⟩
            dsimp only
            rw [e1]
            exact e2

theorem resl_sound : ∀ (l : List ResultVar) (acc : List Value) {p : Rn} {s s' : St} {w : World} {acc' : List Value} {vs : List Value}, WE E B p s w → ARL p a b → Arr (VR p) acc.toArray acc'.toArray → aresl E a l acc s = some (vs, s') →
    ∃ q vs', Le p q ∧ WE E B q s' w ∧ Arr (VR q) vs.toArray (acc' ++ vs').toArray ∧ (l.mapM fun (r : ResultVar) => (match r with | .tmp t => Pure.pure (b.tmps.getD t undef) | .cell t ty => (do loadVar ty (← asAddr (b.tmps.getD t undef))) : Sem Value)).run E.P w = .ok vs' w := by
  intro l
  induction l with
  | nil =>
    intro acc p s s' w acc' vs hw ha hr h
    cases h
    exact ⟨p, [], Le.refl _, hw, by simpa using hr, rfl⟩
  | cons r l ih =>
    intro acc p s s' w acc' vs hw ha hr h
    obtain ⟨v, s1, h1, h2⟩ := mb_some h
    obtain ⟨q, v', l1, hw1, hv, e1⟩ := res1_sound hw ha h1
    obtain ⟨q2, vs', l2, hw2, hr2, e2⟩ := ih (acc ++ [v]) (acc' := acc' ++ [v']) hw1 (ha.le l1) (by
      have := (hr.le l1).append (y := #[v]) (y' := #[v']) (.one hv)
      simpa using this) h2
    refine ⟨q2, v' :: vs', l1.trans l2, hw2, by simpa using hr2, ?_⟩
    rw [List.mapM_cons, Sem.run_bind, e1]
    simp only [Result.andThen_ok]
    rw [Sem.run_bind, e2]
    rfl

theorem res_sound {fn : Func} (hw : WE E B p s w) (ha : ARL p a b) {v : Value} (h : ares E a fn s = some (v, s')) : ∃ q v', Le p q ∧ WE E B q s' w ∧ VR q v v' ∧ (results fn b.tmps).run E.P w = .ok v' w := by
  obtain ⟨vs, s1, h1, h2⟩ := mb_some h
  obtain ⟨q, vs', l1, hw1, hr, e1⟩ := resl_sound fn.results.toList [] (acc' := []) hw ha .nil h1
  simp only [List.nil_append] at hr
  have hres : (results fn b.tmps).run E.P w = .ok (if h : vs'.toArray.size = 1 then vs'.toArray[0] else .tuple vs'.toArray) w := by
    unfold results
    rw [Array.mapM_eq_mapM_toList, Sem.run_bind, Sem.run_map]
    exact congrArg (fun r : Result (List Value) => (r.andThen fun a w' => Result.ok a.toArray w').andThen fun a w' => Sem.run E.P (Pure.pure (if h : a.size = 1 then a[0] else Value.tuple a)) w') e1
  have hlen : vs.length = vs'.length := by simpa using hr.1
  have hs : s1 = s' := by
    match vs, h2 with
    | [], h2 => cases h2; rfl
    | [x], h2 => cases h2; rfl
    | x :: y :: l, h2 => cases h2; rfl
  subst hs
  refine ⟨q, _, l1, hw1, ?_, hres⟩
  match vs, vs', hlen, h2, hr with
  | [], [], _, h2, hr => cases h2; exact (VR.cl _).tup _ _ hr
  | [x], [y], _, h2, hr => cases h2; exact hr.2 0 _ _ (by simp) (by simp)
  | x :: y :: l, x' :: y' :: l', _, h2, hr =>
    cases h2
    rw [dif_neg (by simp)]
    exact (VR.cl _).tup _ _ hr
end

theorem Loc.res {E : Env} {a : AA} {fn : Func} : Loc (ares E a fn) := by
  have h1 : ∀ r, Loc (ares1 E a r) := by
    intro r
    cases r with
    | tmp t =>
      cases hv : a.t.get t with
      | none => exact Loc.no.congr fun s => by simp only [ares1, hv]; rfl
      | some v => exact (Loc.ret v).congr fun s => by simp only [ares1, hv]; rfl
    | cell t ty =>
      cases hv : a.t.get t with
      | none => exact Loc.no.congr fun s => by simp only [ares1, hv]; rfl
      | some v =>
        cases v <;> first | exact Loc.no.congr fun s => by simp only [ares1, hv]; rfl | skip
        rename_i o
        cases o with
        | none => exact Loc.no.congr fun s => by simp only [ares1, hv]; rfl
        | some ad =>
          refine ((Loc.arun E.P E.G (loadVar ty ad)).bind (f := fun r => match r with | .ok v => mret v | .error _ => mno) fun r => ?_).congr fun s => ?_
          · cases r
            · exact .no
            · exact .ret _
          · simp only [ares1, hv, mb]
            cases Ex.arun E.P E.G (loadVar ty ad) s with
            | none => rfl
            | some x => obtain ⟨r, s1⟩ := x; cases r <;> rfl
  have h2 : ∀ l acc, Loc (aresl E a l acc) := by
    intro l
    induction l with
    | nil => intro acc; exact .ret _
    | cons r l ih => intro acc; exact (h1 r).bind fun v => ih _
  refine (h2 _ _).bind fun l => ?_
  split <;> exact .ret _

/-- A call that is put off may see what is panicked. -/
def isRec : Op → Bool
  | .call { callee := .builtin .recover, .. } => true
  | _ => false
def arec : Option Chain → Value × Option Chain
  | some (⟨v, false, false⟩ :: older) => (v, some (⟨v, true, false⟩ :: older))
  | u => (.nilIface, u)
def aregionS (E : Env) (call : Call) (ops : Array Oper) : List Oper → AA → Option Chain → M (AA × Option Chain)
  | [], a, u => mret (a, u)
  | o :: l, a, u => match aguard ops a o with
    | some true => if isRec o.op then mb (aput a o.dst (arec u).1) (fun r => match r with
        | .ok a' => aregionS E call ops l a' (arec u).2
        | .error _ => mno)
      else mb (astep E call a o) fun r => match r with
        | .ok a' => aregionS E call ops l a' u
        | .error _ => mno
    | some false => mb (aput a o.dst undef) fun r => match r with
      | .ok a' => aregionS E call ops l a' u
      | .error _ => mno
    | none => mno

def adone (E : Env) (fn : Func) (u : Option Chain) (r : Exit × AA) : M (Except Chain Value × Option Chain) :=
  match r.2.ds with
  | [] => (match r.1 with
    | .normal => mb (ares E r.2 fn) fun v => mret (.ok v, u)
    | .ret => mb (ares E r.2 fn) fun v => mret (.ok v, u)
    | .panic c => mret (.error c, u)
    | _ => mno)
  | _ => mno
def acallD (E : Env) (call : Call) (g : FuncId) (args : Array Value) (u : Option Chain) : M (Except Chain Value × Option Chain) :=
  match E.fn g with
  | some fn => (match fn.body with
    | some (.seq (.region _ ops false) y) => mb (aregionS E call ops ops.toList (AA.start args fn.ntmps) u) fun r => mb (acode E call y r.1) (adone E fn r.2)
    | _ => mno)
  | none => mno

def asettle : Option Chain → Option Chain
  | some (⟨_, true, _⟩ :: older) => (match older.dropWhile (fun (e : PanicEntry) => !e.goexit) with
    | [] => none
    | rest => some rest)
  | u => u
def araised : Option Chain → Chain → Option Chain
  | some old, c => some (c ++ old)
  | none, c => some c

def aleaves (E : Env) (call : Call) (fn : Func) (a : AA) : List Deferred → Option Chain → M (Except Chain Value)
  | [], none => mb (ares E a fn) fun v => mret (.ok v)
  | [], some c => mret (.error c)
  | d :: ds, u => match d.target with
    | .fn (.func g) cap => mb (acallD E call g (d.args ++ cap) u) fun r => match r.1 with
      | .ok _ => aleaves E call fn a ds (asettle r.2)
      | .error c => aleaves E call fn a ds (araised r.2 c)
    | _ => mno

def aend (E : Env) (call : Call) (fn : Func) (r : Exit × AA) : M (Except Chain Value) :=
  match r.1 with
  | .normal => aleaves E call fn r.2 r.2.ds none
  | .ret => aleaves E call fn r.2 r.2.ds none
  | .panic c => aleaves E call fn r.2 r.2.ds (some c)
  | _ => mno

abbrev Ov := FuncId → Option (Array Value → M (Except Chain Value))
def acall (E : Env) (o : Ov) : Nat → Call
  | 0, _, _ => mno
  | n + 1, f, args => match o f with
    | some m => m args
    | none => (match E.fn f with
      | some fn => (match fn.body with
        | some c => mb (acode E (acall E o n) c (AA.start args fn.ntmps)) (aend E (acall E o n) fn)
        | none => mno)
      | none => mno)
end Go.Ex

/-
  A region that draws its order, run in one order; what its operations look at and change tells that every order does alike.
  Conditions: as each theorem says. (No program is named here.)
-/
import Derived.Test.YtpboencfnjmmbaaGreatDoorXK
namespace Go.Ex
set_option linter.unusedVariables false
open Go.RowKit

/-- Is an operation wanted? -/
def aguard (ops : Array Oper) (a : AA) (o : Oper) : Option Bool :=
  match o.guard with
  | none => some true
  | some (j, want) => match (ops[j]?).bind (·.dst) with
    | some d => match a.t.get d with
      | some (.bool b) => some (b == want)
      | some (.tuple _) => some false
      | _ => none
    | none => none

theorem guard_rel {ops : Array Oper} {p : Rn} {a : AA} {b : Act} {o : Oper} {t : Bool} (h : ARL p a b) (e : aguard ops a o = some t) : Region.wanted o (yielded ops b.tmps) = t := by
  unfold aguard at e
  unfold Region.wanted
  cases hg : o.guard with
  | none => rw [hg] at e; cases e; rfl
  | some g =>
    obtain ⟨j, want⟩ := g
    rw [hg] at e
    dsimp only at e ⊢
    cases hd : (ops[j]?).bind (·.dst) with
    | none => rw [hd] at e; cases e
    | some d =>
      rw [hd] at e
      dsimp only at e
      cases hv : a.t.get d with
      | none => rw [hv] at e; cases e
      | some v =>
        rw [hv] at e
        cases v <;> (try (cases e; done))
        case tuple xs =>
          cases e
          obtain ⟨h1, h2⟩ := h.val d _ hv
          obtain ⟨ys, h3, _⟩ := h2.inv
          rw [Array.getD_eq_getD_getElem?] at h3
          have hd2 : d < b.tmps.size := by rw [h.size]; exact h1
          rw [Array.getElem?_eq_getElem hd2, Option.getD_some] at h3
          unfold yielded
          rw [hd]
          simp only [Option.bind_some, Array.getElem?_eq_getElem hd2, h3]
          rfl
        rename_i x
        cases e
        obtain ⟨h1, h2⟩ := h.val d _ hv
        have h3 := leaf_eq rfl h2
        rw [Array.getD_eq_getD_getElem?] at h3
        have hd2 : d < b.tmps.size := by rw [h.size]; exact h1
        rw [Array.getElem?_eq_getElem hd2, Option.getD_some] at h3
        unfold yielded
        rw [hd]
        simp only [Option.bind_some, Array.getElem?_eq_getElem hd2, h3]
        cases x <;> cases want <;> rfl

structure Rec where
  lo : Nat
  hi : Nat
  rd : List Nat
  wr : List Nat

def logged {β : Type} (m : M β) : M (β × Rec) := fun s => match m { s with rd := [], wr := [] } with
  | some (b, s1) => some ((b, ⟨s.ctr, s1.ctr, s1.rd, s1.wr⟩), { s1 with rd := s1.rd ++ s.rd, wr := s1.wr ++ s.wr })
  | none => none

def AA.only (a : AA) (ts : List Tmp) : AA := { a with t := ts.foldl (fun t i => match a.t.get i with | some v => Tr.put t i (some v) | none => t) [] }

def dval (dst : Option Tmp) : Except Chain AA → M Value
  | .ok a => (match dst with
    | some d => fun s => (match a.t.get d with | some v => some (v, s) | none => none)
    | none => mret undef)
  | .error _ => mno
def dstep (E : Env) (call : Call) (ops : Array Oper) (a : AA) (o : Oper) : M Value :=
  match aguard ops (a.only (o.looksAt ops)) o with
  | some true => mb (astep E call (a.only (o.looksAt ops)) o) (dval o.dst)
  | some false => mret undef
  | none => mno

def isDefer : Op → Bool
  | .defer _ => true
  | _ => false

def dgo (E : Env) (call : Call) (ops : Array Oper) : List Oper → AA → List Rec → M (AA × List Rec)
  | [], a, acc => mret (a, acc)
  | o :: l, a, acc => if isDefer o.op then mno else mb (logged (dstep E call ops a o)) fun r => match a.put o.dst r.1 with
    | some a' => dgo E call ops l a' (acc ++ [r.2])
    | none => mno

/-- What must come ahead of each operation. -/
def ancs (ops : List Oper) : List (List Nat) :=
  ops.foldl (fun acc o => acc ++ [o.after.toList.flatMap fun e => if Region.binds .any e then e.on :: acc.getD e.on [] else []]) []
/-- Which two have no order. -/
def unord (ops : List Oper) : List (Nat × Nat) :=
  (List.range ops.length).flatMap fun j => (List.range j).filterMap fun i => if ((ancs ops).getD j []).contains i then none else some (i, j)
def backs (ops : List Oper) : Bool :=
  (List.range ops.length).all fun j => ((ops.getD j default).after.toList).all fun e => !Region.binds .any e || decide (e.on < j)
def shapely (ops : Array Oper) : Bool :=
  backs ops.toList && (unord ops.toList).all fun x => Oper.apart ops (ops.getD x.1 default) (ops.getD x.2 default)

def outOf (r : Rec) (n : Nat) : Bool := !(decide (r.lo ≤ n) && decide (n < r.hi))
def compat (x y : Rec) : Bool :=
  decide (x.hi ≤ y.lo) && x.wr.all (fun n => !y.rd.contains n && !y.wr.contains n && outOf y n) && y.wr.all (fun n => !x.rd.contains n && !x.wr.contains n && outOf x n) && y.rd.all (outOf x) && x.rd.all (outOf y)

def adraw (E : Env) (call : Call) (ops : Array Oper) (a : AA) : M AA := fun s =>
  if shapely ops then match dgo E call ops ops.toList a [] s with
    | some ((a', rs), s') => if (unord ops.toList).all fun x => compat (rs.getD x.1 ⟨0, 0, [], []⟩) (rs.getD x.2 ⟨0, 0, [], []⟩) then some (a', s') else none
    | none => none
  else none

/-- A region whose order isn't drawn. -/
def aregion (E : Env) (call : Call) (ops : Array Oper) : List Oper → AA → M (Except (Chain × AA) AA)
  | [], a => mret (.ok a)
  | o :: l, a => match aguard ops a o with
    | some true => mb (astep E call a o) fun r => match r with
      | .ok a' => aregion E call ops l a'
      | .error c => mret (.error (c, a))
    | some false => mb (aput a o.dst undef) fun r => match r with
      | .ok a' => aregion E call ops l a'
      | .error _ => mno
    | none => mno

def aloop (f : AA → M (Exit × AA)) : Nat → AA → M (Exit × AA)
  | 0, _ => mno
  | n + 1, a => mb (f a) fun r => match r.1 with
    | .normal => aloop f n r.2
    | _ => mret r

def acode (E : Env) (call : Call) : Code → AA → M (Exit × AA)
  | .skip, a => mret (.normal, a)
  | .label _, a => mret (.normal, a)
  | .exit id, a => mret (.exit id, a)
  | .goto l, a => mret (.goto l, a)
  | .ret, a => mret (.ret, a)
  | .seq x y, a => mb (acode E call x a) fun r => match r.1 with
    | .normal => acode E call y r.2
    | _ => mret r
  | .cond c x y, a => match a.eval E.gl c with
    | some (.bool true) => acode E call x a
    | some (.bool false) => acode E call y a
    | _ => mno
  | .block id b, a => mb (acode E call b a) fun r => match r.1 with
    | .exit id' => if id' = id then mret (.normal, r.2) else mret r
    | _ => mret r
  | .loop b, a => aloop (acode E call b) 100000 a
  | .scope b, a => mb (acode E call b a) fun r => match r.1 with
    | .goto _ => mno
    | _ => mret r
  | .region _ ops draw, a => if draw then mb (adraw E call ops a) fun a' => mret (.normal, a') else mb (aregion E call ops ops.toList a) fun r => match r with
    | .ok a' => mret (.normal, a')
    | .error (c, a') => mret (.panic c, a')
  | .rangeFunc _ _ _ _, _ => mno
  | .refuse _, _ => mno

/-- A function's answers. -/
def ares1 (E : Env) (a : AA) : ResultVar → M Value
  | .tmp t => fun s => (match a.t.get t with | some v => some (v, s) | none => none)
  | .cell t ty => fun s => (match a.t.get t with
    | some (.pointer (some ad)) => (match arun E.P E.G (loadVar ty ad) s with
      | some (.ok v, s1) => some (v, s1)
      | _ => none)
    | _ => none)
def aresl (E : Env) (a : AA) : List ResultVar → List Value → M (List Value)
  | [], acc => mret acc
  | r :: l, acc => mb (ares1 E a r) fun v => aresl E a l (acc ++ [v])
def ares (E : Env) (a : AA) (fn : Func) : M Value := mb (aresl E a fn.results.toList []) fun l => match l with
  | [v] => mret v
  | l => mret (.tuple l.toArray)

def AA.start (args : Array Value) (n : Nat) : AA := ⟨args.toList.zipIdx.foldl (fun t x => Tr.put t x.2 (some x.1)) [], max args.size n, []⟩

end Go.Ex

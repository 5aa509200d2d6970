/-
 A region that draws its order, run in one order; what its operations look at and change tells that every order does alike.
 Conditions: as each theorem says. (No program is named here.)
-/
import Derived.Test.YtpboencfnjmmbaaGreatDoorZXb
set_option linter.unusedVariables false
namespace Go.Ex
open Go.RowKit
def aguard (ops : Array Oper) (a : AA) (o : Oper) : Option Bool :=
 match o.guard with
 | none => some true
 | some (j, want) => match (ops[j]?).bind (·.dst) with
  | some d => match a.t.get d with
   | some (.bool b) => some (b == want)
   | some (.tuple _) => some false
   | _ => none
  | none => none
theorem guard_rel {ops : Array Oper} {p : Rn} {a : AA} {b : Act} {o : Oper} {t : Bool} (h : ARL p a b) (e : aguard ops a o = some t) : Region.wanted o (yielded ops b.tmps) = t := by
 unfold aguard at e
 unfold Region.wanted
 cases hg : o.guard with
 | none => rw [hg] at e; cases e; rfl
 | some g =>
  obtain ⟨j, want⟩ := g
  rw [hg] at e
  dsimp only at e ⊢
  cases hd : (ops[j]?).bind (·.dst) with
  | none => rw [hd] at e; cases e
  | some d =>
   rw [hd] at e
   dsimp only at e
   cases hv : a.t.get d with
   | none => rw [hv] at e; cases e
   | some v =>
    rw [hv] at e
    cases v <;> (try (cases e; done))
    case tuple xs =>
     cases e
     obtain ⟨h1, h2⟩ := h.val d _ hv
     obtain ⟨ys, h3, _⟩ := h2.inv
     rw [Array.getD_eq_getD_getElem?] at h3
     have hd2 : d < b.tmps.size := by rw [h.size]; exact h1
     rw [Array.getElem?_eq_getElem hd2, Option.getD_some] at h3
     unfold yielded
     rw [hd]
     simp only [Option.bind_some, Array.getElem?_eq_getElem hd2, h3]
     rfl
    rename_i x
    cases e
    obtain ⟨h1, h2⟩ := h.val d _ hv
    have h3 := leaf_eq rfl h2
    rw [Array.getD_eq_getD_getElem?] at h3
    have hd2 : d < b.tmps.size := by rw [h.size]; exact h1
    rw [Array.getElem?_eq_getElem hd2, Option.getD_some] at h3
    unfold yielded
    rw [hd]
    simp only [Option.bind_some, Array.getElem?_eq_getElem hd2, h3]
    cases x <;> cases want <;> rfl
structure Rec where
 lo : Nat
 hi : Nat
 rd : List Nat
 wr : List Nat
def logged {β : Type} (m : M β) : M (β × Rec) := fun s => match m { s with rd := [], wr := [] } with
 | some (b, s1) => some ((b, ⟨s.ctr, s1.ctr, s1.rd, s1.wr⟩), { s1 with rd := s1.rd ++ s.rd, wr := s1.wr ++ s.wr })
 | none => none
def AA.only (a : AA) (ts : List Tmp) : AA := { a with t := ts.foldl (fun t i => match a.t.get i with | some v => Tr.put t i (some v) | none => t) [] }
def dval (dst : Option Tmp) : Except Chain AA → M Value
 | .ok a => (match dst with
  | some d => fun s => (match a.t.get d with | some v => some (v, s) | none => none)
  | none => mret undef)
 | .error _ => mno
def dstep (E : Env) (call : Call) (ops : Array Oper) (a : AA) (o : Oper) : M Value :=
 match aguard ops (a.only (o.looksAt ops)) o with
 | some true => mb (astep E call (a.only (o.looksAt ops)) o) (dval o.dst)
 | some false => mret undef
 | none => mno
def isDefer : Op → Bool
 | .defer _ => true
 | _ => false
def dgo (E : Env) (call : Call) (ops : Array Oper) : List Oper → AA → List Rec → M (AA × List Rec)
 | [], a, acc => mret (a, acc)
 | o :: l, a, acc => if isDefer o.op then mno else mb (logged (dstep E call ops a o)) fun r => match a.put o.dst r.1 with
  | some a' => dgo E call ops l a' (acc ++ [r.2])
  | none => mno
def ancs (ops : List Oper) : List (List Nat) :=
 ops.foldl (fun acc o => acc ++ [o.after.toList.flatMap fun e => if Region.binds .any e then e.on :: acc.getD e.on [] else []]) []
def unord (ops : List Oper) : List (Nat × Nat) :=
 (List.range ops.length).flatMap fun j => (List.range j).filterMap fun i => if ((ancs ops).getD j []).contains i then none else some (i, j)
def backs (ops : List Oper) : Bool :=
 (List.range ops.length).all fun j => ((ops.getD j default).after.toList).all fun e => !Region.binds .any e || decide (e.on < j)
def shapely (ops : Array Oper) : Bool :=
 backs ops.toList && (unord ops.toList).all fun x => Oper.apart ops (ops.getD x.1 default) (ops.getD x.2 default)
def outOf (r : Rec) (n : Nat) : Bool := !(decide (r.lo ≤ n) && decide (n < r.hi))
def compat (x y : Rec) : Bool :=
 decide (x.hi ≤ y.lo) && x.wr.all (fun n => !y.rd.contains n && !y.wr.contains n && outOf y n) && y.wr.all (fun n => !x.rd.contains n && !x.wr.contains n && outOf x n) && y.rd.all (outOf x) && x.rd.all (outOf y)
def adraw (E : Env) (call : Call) (ops : Array Oper) (a : AA) : M AA := fun s =>
 if shapely ops then match dgo E call ops ops.toList a [] s with
  | some ((a', rs), s') => if (unord ops.toList).all fun x => compat (rs.getD x.1 ⟨0, 0, [], []⟩) (rs.getD x.2 ⟨0, 0, [], []⟩) then some (a', s') else none
  | none => none
 else none
def aregion (E : Env) (call : Call) (ops : Array Oper) : List Oper → AA → M (Except (Chain × AA) AA)
 | [], a => mret (.ok a)
 | o :: l, a => match aguard ops a o with
  | some true => mb (astep E call a o) fun r => match r with
   | .ok a' => aregion E call ops l a'
   | .error c => mret (.error (c, a))
  | some false => mb (aput a o.dst undef) fun r => match r with
   | .ok a' => aregion E call ops l a'
   | .error _ => mno
  | none => mno
def aloop (f : AA → M (Exit × AA)) : Nat → AA → M (Exit × AA)
 | 0, _ => mno
 | n + 1, a => mb (f a) fun r => match r.1 with
  | .normal => aloop f n r.2
  | _ => mret r
def acode (E : Env) (call : Call) : Code → AA → M (Exit × AA)
 | .skip, a => mret (.normal, a)
 | .label _, a => mret (.normal, a)
 | .exit id, a => mret (.exit id, a)
 | .goto l, a => mret (.goto l, a)
 | .ret, a => mret (.ret, a)
 | .seq x y, a => mb (acode E call x a) fun r => match r.1 with
  | .normal => acode E call y r.2
  | _ => mret r
 | .cond c x y, a => match a.eval E.gl c with
  | some (.bool true) => acode E call x a
  | some (.bool false) => acode E call y a
  | _ => mno
 | .block id b, a => mb (acode E call b a) fun r => match r.1 with
  | .exit id' => if id' = id then mret (.normal, r.2) else mret r
  | _ => mret r
 | .loop b, a => aloop (acode E call b) 100000 a
 | .scope b, a => mb (acode E call b a) fun r => match r.1 with
  | .goto _ => mno
  | _ => mret r
 | .region _ ops draw, a => if draw then mb (adraw E call ops a) fun a' => mret (.normal, a') else mb (aregion E call ops ops.toList a) fun r => match r with
  | .ok a' => mret (.normal, a')
  | .error (c, a') => mret (.panic c, a')
 | .rangeFunc _ _ _ _, _ => mno
 | .refuse _, _ => mno
def ares1 (E : Env) (a : AA) : ResultVar → M Value
 | .tmp t => fun s => (match a.t.get t with | some v => some (v, s) | none => none)
 | .cell t ty => fun s => (match a.t.get t with
  | some (.pointer (some ad)) => (match arun E.P E.G (loadVar ty ad) s with
   | some (.ok v, s1) => some (v, s1)
   | _ => none)
  | _ => none)
def aresl (E : Env) (a : AA) : List ResultVar → List Value → M (List Value)
 | [], acc => mret acc
 | r :: l, acc => mb (ares1 E a r) fun v => aresl E a l (acc ++ [v])
def ares (E : Env) (a : AA) (fn : Func) : M Value := mb (aresl E a fn.results.toList []) fun l => match l with
 | [v] => mret v
 | l => mret (.tuple l.toArray)
def AA.start (args : Array Value) (n : Nat) : AA := ⟨args.toList.zipIdx.foldl (fun t x => Tr.put t x.2 (some x.1)) [], max args.size n, []⟩
end Go.Ex
namespace Go.Ex
open Go.RowKit
def ov {X : Type} (f : Nat → Nat → X) (C : Nat → Nat → Bool) (L : Nat → Bool) : Nat → Nat → X
 | 0, n => f 0 n
 | m + 1, n => if L m && C m n then f (m + 1) n else ov f C L m n
theorem ov_read {X : Type} {f : Nat → Nat → X} {C : Nat → Nat → Bool} {L : Nat → Bool} {N i : Nat} {R : Nat → Prop} (hi : i < N) (hL : L i = false) (fr : ∀ m, m < N → ∀ n, C m n = false → f (m + 1) n = f m n)
 (h1 : ∀ m, m < i → L m = false → ∀ n, R n → C m n = false) (h2 : ∀ m, i < m → m < N → L m = true → ∀ n, R n → C m n = false) {n : Nat} (hn : R n) : ov f C L N n = f i n := by
 have key : ∀ m, m ≤ N → ov f C L m n = f (min m i) n := by
  intro m
  induction m with
  | zero => intro _; rw [Nat.zero_min]; rfl
  | succ m ih =>
   intro hm
   have ih := ih (by omega)
   unfold ov
   by_cases hmi : m < i
   ·rw [show min (m + 1) i = m + 1 by omega]
    rw [show min m i = m by omega] at ih
    split
    ·rfl
    ·rename_i hc
     rw [ih]
     by_cases hl : L m = true
     ·exact (fr m (by omega) n (by simpa [hl] using hc)).symm
     ·exact (fr m (by omega) n (h1 m hmi (by simpa using hl) n hn)).symm
   ·rw [show min (m + 1) i = i by omega]
    rw [show min m i = i by omega] at ih
    rw [if_neg, ih]
    intro hc
    simp only [Bool.and_eq_true] at hc
    by_cases hmi2 : m = i
    ·subst hmi2; rw [hL] at hc; cases hc.1
    ·rw [h2 m (by omega) (by omega) hc.1 n hn] at hc; cases hc.2
 rw [key N (Nat.le_refl _), Nat.min_eq_right (by omega)]
theorem ov_step {X : Type} {f : Nat → Nat → X} {C : Nat → Nat → Bool} {L L' : Nat → Bool} {N i : Nat} (hi : i < N) (hL : L i = false) (hL' : ∀ m, L' m = if m = i then true else L m)
 (h2 : ∀ m, i < m → m < N → L m = true → ∀ n, C i n = true → C m n = false) (n : Nat) : ov f C L' N n = if C i n then f (i + 1) n else ov f C L N n := by
 have key : ∀ m, m ≤ N → ov f C L' m n = if i < m ∧ C i n = true then f (i + 1) n else ov f C L m n := by
  intro m
  induction m with
  | zero => intro _; rw [if_neg (by omega)]; rfl
  | succ m ih =>
   intro hm
   have ih := ih (by omega)
   unfold ov
   rw [hL', ih]
   by_cases hmi : m = i
   ·subst hmi
    rw [if_pos rfl, hL]
    cases hc : C m n
    ·rw [if_neg (by simp), if_neg (by simp), if_neg (by simp), if_neg (by simp)]
    ·rw [if_pos (by simp), if_pos ⟨Nat.lt_succ_self _, rfl⟩]
   ·rw [if_neg hmi]
    by_cases hc : (L m && C m n) = true
    ·rw [if_pos hc, if_pos hc]
     simp only [Bool.and_eq_true] at hc
     rw [if_neg]
     rintro ⟨h3, h4⟩
     rw [h2 m (by omega) (by omega) hc.1 n h4] at hc; cases hc.2
    ·rw [if_neg hc, if_neg hc]
     by_cases h3 : i < m
     ·simp only [h3, show i < m + 1 by omega]
     ·rw [if_neg (fun h => h3 h.1), if_neg (fun h => by omega)]
 rw [key N (Nat.le_refl _)]
 simp only [hi, true_and]
structure Runs (E : Env) (call : Call) (ops : Array Oper) (l : List Oper) (S : Nat → St) (A : Nat → AA) (V : Nat → Value) (R : Nat → Rec) : Prop where
 one : ∀ i o, l[i]? = some o → isDefer o.op = false ∧ logged (dstep E call ops (A i) o) (S i) = some ((V i, R i), S (i + 1)) ∧ (A i).put o.dst (V i) = some (A (i + 1))
theorem dgo_runs {E : Env} {call : Call} {ops : Array Oper} : ∀ (l : List Oper) (a : AA) (acc : List Rec) (s : St) (a' : AA) (rs : List Rec) (s' : St), dgo E call ops l a acc s = some ((a', rs), s') →
 ∃ S A V R, Runs E call ops l S A V R ∧ S 0 = s ∧ A 0 = a ∧ S l.length = s' ∧ A l.length = a' ∧ rs.length = acc.length + l.length ∧ (∀ i, i < acc.length → rs[i]? = acc[i]?) ∧ ∀ i, i < l.length → rs[acc.length + i]? = some (R i) := by
 intro l
 induction l with
 | nil =>
  intro a acc s a' rs s' h
  cases h
  exact ⟨fun _ => s, fun _ => a, fun _ => undef, fun _ => ⟨0, 0, [], []⟩, ⟨fun i o h => by simp at h⟩, rfl, rfl, rfl, rfl, rfl, fun _ _ => rfl, fun i hi => by simp at hi⟩
 | cons o l ih =>
  intro a acc s a' rs s' h
  unfold dgo at h
  split at h <;> (try (cases h; done))
  rename_i hd
  obtain ⟨⟨v, r⟩, s1, h1, h2⟩ := mb_some h
  dsimp only at h2
  cases hp : a.put o.dst v with
  | none => rw [hp] at h2; cases h2
  | some a1 =>
   rw [hp] at h2
   obtain ⟨S, A, V, R, hR, e1, e2, e3, e4, e5, e6, e7⟩ := ih a1 _ s1 a' rs s' h2
   refine ⟨fun i => match i with | 0 => s | i + 1 => S i, fun i => match i with | 0 => a | i + 1 => A i, fun i => match i with | 0 => v | i + 1 => V i, fun i => match i with | 0 => r | i + 1 => R i, ⟨fun i o' ho => ?_⟩, rfl, rfl, e3, e4, ?_, ?_, ?_⟩
   ·cases i with
    | zero =>
     simp at ho; subst ho
     dsimp only
     rw [e1, e2]
     exact ⟨by simpa using hd, h1, hp⟩
    | succ i => exact hR.one i o' (by simpa using ho)
   ·rw [e5]; simp; omega
   ·intro i hi
    rw [e6 i (by simp; omega), List.getElem?_append_left hi]
   ·intro i hi
    cases i with
    | zero =>
     rw [Nat.add_zero, e6 acc.length (by simp)]
     simp
    | succ i =>
     have := e7 i (by simpa using hi)
     simp only [List.length_append, List.length_cons, List.length_nil] at this
     rw [show acc.length + (i + 1) = acc.length + (0 + 1) + i by omega]
     exact this
theorem ancs_go : ∀ (l : List Oper) (acc : List (List Nat)), (l.foldl (fun acc o => acc ++ [o.after.toList.flatMap fun e => if Region.binds .any e then e.on :: acc.getD e.on [] else []]) acc).length = acc.length + l.length ∧
 (∀ j, j < acc.length → (l.foldl (fun acc o => acc ++ [o.after.toList.flatMap fun e => if Region.binds .any e then e.on :: acc.getD e.on [] else []]) acc).getD j [] = acc.getD j []) ∧
 ∀ j o, l[j]? = some o → ∀ k, k ∈ (l.foldl (fun acc o => acc ++ [o.after.toList.flatMap fun e => if Region.binds .any e then e.on :: acc.getD e.on [] else []]) acc).getD (acc.length + j) [] →
  ∃ e ∈ o.after.toList, Region.binds .any e = true ∧ (k = e.on ∨ k ∈ (l.foldl (fun acc o => acc ++ [o.after.toList.flatMap fun e => if Region.binds .any e then e.on :: acc.getD e.on [] else []]) acc).getD e.on []) := by
 intro l
 induction l with
 | nil => intro acc; exact ⟨rfl, fun _ _ => rfl, fun j o h => by simp at h⟩
 | cons o l ih =>
  intro acc
  simp only [List.foldl_cons]
  generalize hx : (o.after.toList.flatMap fun e => if Region.binds .any e then e.on :: acc.getD e.on [] else []) = x
  obtain ⟨h1, h2, h3⟩ := ih (acc ++ [x])
  refine ⟨by rw [h1]; simp; omega, fun j hj => ?_, fun j o' ho k hk => ?_⟩
  ·rw [h2 j (by simp; omega)]
   simp only [List.getD_eq_getElem?_getD, List.getElem?_append_left hj]
  ·cases j with
   | zero =>
    simp at ho; subst ho
    rw [Nat.add_zero, h2 _ (by simp)] at hk
    have : (acc ++ [x]).getD acc.length [] = x := by simp [List.getD_eq_getElem?_getD]
    rw [this, ← hx] at hk
    obtain ⟨e, he, hk⟩ := List.mem_flatMap.1 hk
    split at hk
    ·rename_i hb
     refine ⟨e, he, hb, ?_⟩
     rcases List.mem_cons.1 hk with hk | hk
     ·exact .inl hk
     ·right
      by_cases hl : e.on < acc.length
      ·rw [h2 _ (by simp; omega)]
       simp only [List.getD_eq_getElem?_getD, List.getElem?_append_left hl] at hk ⊢
       exact hk
      ·simp [List.getD_eq_getElem?_getD, List.getElem?_eq_none (by omega : acc.length ≤ e.on)] at hk
    ·cases hk
   | succ j =>
    refine h3 j o' (by simpa using ho) k ?_
    simpa [Nat.add_assoc, Nat.add_comm 1 j] using hk
def clash (r : Rec) (n : Nat) : Bool := r.wr.contains n || !outOf r n
def looks (r : Rec) (n : Nat) : Prop := n ∈ r.rd ∨ outOf r n = false
theorem outOf_false {r : Rec} {n : Nat} : outOf r n = false ↔ r.lo ≤ n ∧ n < r.hi := by
 unfold outOf
 simp
theorem compat_facts {x y : Rec} (h : compat x y = true) (hx : x.lo ≤ x.hi) (hy : y.lo ≤ y.hi) : (∀ n, looks y n → clash x n = false) ∧ (∀ n, looks x n → clash y n = false) ∧ ∀ n, clash x n = true → clash y n = false := by
 unfold compat at h
 simp only [Bool.and_eq_true, decide_eq_true_eq, List.all_eq_true, Bool.not_eq_true', List.contains_eq_mem, decide_eq_false_iff_not] at h
 obtain ⟨⟨⟨⟨h0, h1⟩, h2⟩, h3⟩, h4⟩ := h
 have hxy : ∀ n, outOf x n = false → outOf y n = true := by
  intro n h
  rw [outOf_false] at h
  cases e : outOf y n with
  | true => rfl
  | false => rw [outOf_false] at e; omega
 refine ⟨fun n hn => ?_, fun n hn => ?_, fun n hn => ?_⟩
 ·unfold clash
  simp only [Bool.or_eq_false_iff, Bool.not_eq_false', List.contains_eq_mem, decide_eq_false_iff_not]
  rcases hn with hn | hn
  ·exact ⟨fun hm => (h1 n hm).1.1 hn, h3 n hn⟩
  ·refine ⟨fun hm => (by have := (h1 n hm).2; rw [hn] at this; cases this), ?_⟩
   cases e : outOf x n with
   | true => rfl
   | false => have := hxy n e; rw [hn] at this; cases this
 ·unfold clash
  simp only [Bool.or_eq_false_iff, Bool.not_eq_false', List.contains_eq_mem, decide_eq_false_iff_not]
  rcases hn with hn | hn
  ·exact ⟨fun hm => (h2 n hm).1.1 hn, h4 n hn⟩
  ·exact ⟨fun hm => (by have := (h2 n hm).2; rw [hn] at this; cases this), hxy n hn⟩
 ·unfold clash at hn ⊢
  simp only [Bool.or_eq_true, Bool.not_eq_true', Bool.or_eq_false_iff, Bool.not_eq_false', List.contains_eq_mem, decide_eq_true_eq, decide_eq_false_iff_not] at hn ⊢
  rcases hn with hn | hn
  ·exact ⟨fun hm => (h1 n hn).1.2 hm, (h1 n hn).2⟩
  ·exact ⟨fun hm => (by have := (h2 n hm).2; rw [hn] at this; cases this), hxy n hn⟩
theorem Loc.dval (dst : Option Tmp) (r : Except Chain AA) : Loc (dval dst r) := by
 cases r with
 | error c => exact .no
 | ok a =>
  cases dst with
  | none => exact .ret _
  | some d =>
   cases h : a.t.get d with
   | none => exact Loc.no.congr fun s => by simp only [Ex.dval, h]; rfl
   | some v => exact (Loc.ret v).congr fun s => by simp only [Ex.dval, h]; rfl
theorem Loc.dstep {E : Env} {call : Call} (h : ∀ f args, Loc (call f args)) (ops : Array Oper) (a : AA) (o : Oper) : Loc (dstep E call ops a o) := by
 unfold Ex.dstep
 split
 ·exact (Loc.step h _ _).bind fun r => Loc.dval _ _
 ·exact .ret _
 ·exact .no
structure Fact (E : Env) (call : Call) (ops : Array Oper) (S : Nat → St) (A : Nat → AA) (V : Nat → Value) (R : Nat → Rec) (i : Nat) (o : Oper) : Prop where
 df : isDefer o.op = false
 put : (A i).put o.dst (V i) = some (A (i + 1))
 lo : (R i).lo = (S i).ctr
 hi : (R i).hi = (S (i + 1)).ctr
 top : (S (i + 1)).top = (S i).top
 le : (R i).lo ≤ (R i).hi
 room : (S i).ctr ≤ (S i).top → (S (i + 1)).ctr ≤ (S i).top
 frame : ∀ n, clash (R i) n = false → (S (i + 1)).h.get n = (S i).h.get n
 here : ∀ t : St, t.ctr = (R i).lo → (R i).hi ≤ t.top → (∀ n, looks (R i) n → t.h.get n = (S i).h.get n) → ∃ t', dstep E call ops (A i) o t = some (V i, t') ∧ t'.ctr = (R i).hi ∧ t'.top = t.top ∧ ∀ n, t'.h.get n = if clash (R i) n then (S (i + 1)).h.get n else t.h.get n
theorem Runs.fact {E : Env} {call : Call} (hloc : ∀ f args, Loc (call f args)) {ops : Array Oper} {l : List Oper} {S : Nat → St} {A : Nat → AA} {V : Nat → Value} {R : Nat → Rec} (h : Runs E call ops l S A V R) {i : Nat} {o : Oper} (ho : l[i]? = some o) : Fact E call ops S A V R i o := by
 obtain ⟨h1, h2, h3⟩ := h.one i o ho
 unfold logged at h2
 cases e : dstep E call ops (A i) o { S i with rd := [], wr := [] } with
 | none => rw [e] at h2; cases h2
 | some x =>
  obtain ⟨v, s1⟩ := x
  rw [e] at h2
  simp only [Option.some.injEq, Prod.mk.injEq] at h2
  obtain ⟨⟨rfl, hr⟩, hs⟩ := h2
  obtain ⟨r, w, g1, g2, g3, g3t, g3r, g4, g5⟩ := Loc.dstep hloc ops (A i) o _ _ _ e
  simp only [List.append_nil] at g1 g2
  have hsh : (S (i + 1)).h = s1.h := by rw [← hs]
  have hsc : (S (i + 1)).ctr = s1.ctr := by rw [← hs]
  have hst : (S (i + 1)).top = s1.top := by rw [← hs]
  have hRlo : (R i).lo = (S i).ctr := by rw [← hr]
  have hRhi : (R i).hi = s1.ctr := by rw [← hr]
  have hRrd : (R i).rd = r := by rw [← hr]; exact g1
  have hRwr : (R i).wr = w := by rw [← hr]; exact g2
  have hcl : ∀ n, clash (R i) n = true ↔ n ∈ w ∨ ((S i).ctr ≤ n ∧ n < s1.ctr) := by
   intro n
   unfold clash
   simp only [Bool.or_eq_true, Bool.not_eq_true', List.contains_eq_mem, decide_eq_true_eq, outOf_false, hRwr, hRlo, hRhi]
  refine ⟨h1, h3, hRlo, by rw [hRhi, hsc], by rw [hst]; exact g3t, by rw [hRlo, hRhi]; exact g3, by rw [hsc]; exact g3r, fun n hn => ?_, fun t t1 t2 t3 => ?_⟩
  ·rw [hsh]
   refine g4 n (fun hm => ?_) (fun hm => ?_)
   ·rw [(hcl n).2 (.inl hm)] at hn; cases hn
   ·rw [(hcl n).2 (.inr hm)] at hn; cases hn
  ·obtain ⟨t', f1, f2, f2t, _, _, f5⟩ := g5 t (by rw [t1, hRlo]) (by rw [← hRhi]; exact t2) fun n hn => t3 n (by
    unfold looks
    rw [hRrd, outOf_false, hRlo, hRhi]
    exact hn)
   refine ⟨t', f1, by rw [f2, hRhi], f2t, fun n => ?_⟩
   rw [f5, hsh]
   by_cases hc : clash (R i) n = true
   ·rw [if_pos hc, if_pos ((hcl n).1 hc)]
   ·rw [if_neg hc, if_neg (fun h => hc ((hcl n).2 h))]
theorem ready_spec {md : Region.Mode} {ops : Array Oper} {listed : Array Bool} {i : Nat} (h : i ∈ Region.ready md ops listed) : i < ops.size ∧ listed.getD i true = false ∧ ∀ o, ops[i]? = some o → ∀ e ∈ o.after.toList, Region.binds md e = true → listed.getD e.on false = true := by
 simp only [Region.ready, List.mem_filter, List.mem_range, Bool.and_eq_true, Bool.not_eq_true'] at h
 refine ⟨h.1, h.2.1, fun o ho e he hb => ?_⟩
 have := h.2.2
 rw [ho] at this
 simp only [Option.map_some, Option.getD_some, Array.all_eq_true'] at this
 have := this e (by simpa using he)
 simpa [hb] using this
theorem wpAny_inv {P : Program} {md : Region.Mode} {ops : Array Oper} {Q : Exit → Act → World → Prop} {I : Array Bool → Act → World → Prop}
 (hstep : ∀ (listed : Array Bool) (a : Act) (w : World) (i : Nat), listed.size = ops.size → I listed a w → i ∈ Region.ready md ops listed → ∀ K : Act → World → Prop, (∀ a' w', I (listed.setIfInBounds i true) a' w' → K a' w') → wpOp P ops Q i K a w)
 (hend : ∀ (listed : Array Bool) (a : Act) (w : World), listed.size = ops.size → I listed a w → Region.ready md ops listed = [] → Q .normal a w) :
 ∀ (fuel : Nat) (listed : Array Bool) (a : Act) (w : World), listed.size = ops.size → ops.size ≤ listed.toList.count true + fuel → I listed a w → wpAny P md ops Q fuel listed a w := by
 intro fuel
 induction fuel with
 | zero =>
  intro listed a w hs hc hI
  have hall : ∀ b ∈ listed.toList, true = b := List.count_eq_length.1 (Nat.le_antisymm List.count_le_length (by rw [Array.length_toList]; omega))
  have hr : Region.ready md ops listed = [] := by
   apply List.eq_nil_iff_forall_not_mem.2
   intro i hi
   obtain ⟨h1, h2, _⟩ := ready_spec hi
   have h3 : listed[i]? = some listed[i] := Array.getElem?_eq_getElem (by omega)
   have h4 := hall listed[i] (by simp)
   rw [Array.getD_eq_getD_getElem?, h3, ← h4] at h2
   simp at h2
  exact ⟨hr, hend listed a w hs hI hr⟩
 | succ fuel ih =>
  intro listed a w hs hc hI
  refine ⟨fun hr => hend listed a w hs hI hr, fun i hi => hstep listed a w i hs hI hi _ fun a' w' hI' => ih _ a' w' (by simpa using hs) ?_ hI'⟩
  obtain ⟨h1, h2, _⟩ := ready_spec hi
  have h3 : listed[i]? = some listed[i] := Array.getElem?_eq_getElem (by omega)
  rw [Array.getD_eq_getD_getElem?, h3] at h2
  simp only [Option.getD_some] at h2
  have h5 : listed.toList[i]'(by simp; omega) = false := by simpa using h2
  rw [Array.toList_setIfInBounds, List.count_set (by simp; omega), h5, if_neg (by simp), if_pos (by simp)]
  omega
def Closed (ops : Array Oper) (L : Nat → Bool) : Prop := ∀ j o, ops[j]? = some o → L j = true → ∀ e ∈ o.after.toList, Region.binds .any e = true → L e.on = true
theorem ancs_in {ops : Array Oper} {L : Nat → Bool} (hb : backs ops.toList = true) (hc : Closed ops L) : ∀ (j : Nat), (∀ o, ops[j]? = some o → ∀ e ∈ o.after.toList, Region.binds .any e = true → L e.on = true) → j < ops.size → ∀ k, k ∈ (ancs ops.toList).getD j [] → L k = true := by
 intro j
 induction j using Nat.strongRecOn with
 | _ j ih =>
  intro hj hlt k hk
  have ho : ops.toList[j]? = some ops[j] := by simp [hlt]
  have := (ancs_go ops.toList []).2.2 j ops[j] ho k (by simpa [ancs] using hk)
  obtain ⟨e, he, hbe, hk⟩ := this
  have hbk := List.all_eq_true.1 hb j (by simpa using hlt)
  have hbk := List.all_eq_true.1 hbk e (by simpa [List.getD_eq_getElem?_getD, hlt] using he)
  have hon : e.on < j := by simpa [hbe] using hbk
  have hL := hj ops[j] (by simp [hlt]) e he hbe
  rcases hk with rfl | hk
  ·exact hL
  ·exact ih e.on hon (fun o ho e' he' hb' => hc e.on o ho hL e' he' hb') (by omega) k (by simpa [ancs] using hk)
theorem unord_mem {ops : List Oper} {i j : Nat} (hij : i < j) (hj : j < ops.length) (h : i ∉ (ancs ops).getD j []) : (i, j) ∈ unord ops := by
 unfold unord
 refine List.mem_flatMap.2 ⟨j, by simpa using hj, List.mem_filterMap.2 ⟨i, by simpa using hij, ?_⟩⟩
 rw [if_neg]
 simpa using h
theorem only_eq {a a' : AA} {ts : List Tmp} (h : ∀ i ∈ ts, a'.t.get i = a.t.get i) (hn : a'.n = a.n) (hd : a'.ds = a.ds) : a'.only ts = a.only ts := by
 unfold AA.only
 have : ∀ (l : List Tmp) (t : Tr Value), (∀ i ∈ l, a'.t.get i = a.t.get i) → l.foldl (fun t i => match a'.t.get i with | some v => Tr.put t i (some v) | none => t) t = l.foldl (fun t i => match a.t.get i with | some v => Tr.put t i (some v) | none => t) t := by
  intro l
  induction l with
  | nil => intro t _; rfl
  | cons x l ih =>
   intro t h
   simp only [List.foldl_cons]
   rw [h x (by simp)]
   exact ih _ fun i hi => h i (by simp [hi])
 rw [hn, hd]
 exact congrArg (fun t => (⟨t, a.n, a.ds⟩ : AA)) (this ts [] h)
theorem only_get {a : AA} {ts : List Tmp} {i : Nat} {v : Value} (h : (a.only ts).t.get i = some v) : a.t.get i = some v := by
 unfold AA.only at h
 have : ∀ (l : List Tmp) (t : Tr Value), (∀ i v, t.get i = some v → a.t.get i = some v) → ∀ i v, (l.foldl (fun t i => match a.t.get i with | some v => Tr.put t i (some v) | none => t) t).get i = some v → a.t.get i = some v := by
  intro l
  induction l with
  | nil => intro t ht; exact ht
  | cons x l ih =>
   intro t ht
   simp only [List.foldl_cons]
   refine ih _ fun i v hi => ?_
   cases hx : a.t.get x with
   | none => rw [hx] at hi; exact ht i v hi
   | some u =>
    rw [hx] at hi
    simp only [Tr.get_put] at hi
    split at hi
    ·rename_i e; subst e; cases hi; exact hx
    ·exact ht i v hi
 refine this ts [] (fun i v hi => ?_) i v h
 simp [Tr.get, lget_nil] at hi
theorem only_rel {p : Rn} {a : AA} {b : Act} (h : ARL p a b) (ts : List Tmp) : ARL p (a.only ts) b := ⟨h.size, fun i v hi => h.val i v (only_get hi), h.ds⟩
theorem put_get {a a' : AA} {dst : Option Tmp} {v : Value} (h : a.put dst v = some a') : (∀ i, a'.t.get i = if dst = some i then some v else a.t.get i) ∧ a'.n = a.n ∧ a'.ds = a.ds := by
 cases dst with
 | none => cases h; exact ⟨fun i => by simp, rfl, rfl⟩
 | some d =>
  simp only [AA.put] at h
  split at h <;> cases h
  refine ⟨fun i => ?_, rfl, rfl⟩
  simp only [Tr.get_put, Option.some.injEq]
  by_cases hi : i = d
  ·subst hi; simp
  ·rw [if_neg hi, if_neg (fun e => hi e.symm)]
theorem put_some {a a0 a1 : AA} {dst : Option Tmp} {v u : Value} (h : a0.put dst u = some a1) (hn : a.n = a0.n) : ∃ a2, a.put dst v = some a2 := by
 cases dst with
 | none => exact ⟨a, rfl⟩
 | some d =>
  simp only [AA.put] at h ⊢
  split at h
  ·rename_i hd; rw [if_pos (by rw [hn]; exact hd)]; exact ⟨_, rfl⟩
  ·cases h
theorem ov_none {X : Type} {f : Nat → Nat → X} {C : Nat → Nat → Bool} {L : Nat → Bool} (h : ∀ m, L m = false) (N n : Nat) : ov f C L N n = f 0 n := by
 induction N with
 | zero => rfl
 | succ N ih => unfold ov; rw [h N, if_neg (by simp)]; exact ih
theorem ov_all {X : Type} {f : Nat → Nat → X} {C : Nat → Nat → Bool} {L : Nat → Bool} {N : Nat} (h : ∀ m, m < N → L m = true) (fr : ∀ m, m < N → ∀ n, C m n = false → f (m + 1) n = f m n) (n : Nat) : ∀ k, k ≤ N → ov f C L k n = f k n := by
 intro k
 induction k with
 | zero => intro _; rfl
 | succ k ih =>
  intro hk
  unfold ov
  rw [h k (by omega), Bool.true_and]
  cases hc : C k n
  ·rw [if_neg (by simp), ih (by omega)]; exact (fr k (by omega) n hc).symm
  ·rw [if_pos rfl]
theorem ARL.congr {p : Rn} {a a' : AA} {b : Act} (h : ARL p a b) (ht : ∀ i, a'.t.get i = a.t.get i) (hn : a'.n = a.n) (hd : a'.ds = a.ds) : ARL p a' b :=
 ⟨hn ▸ h.size, fun i v e => hn ▸ h.val i v (ht i ▸ e), hd ▸ h.ds⟩
section
variable {E : Env} {B : Bs} {call : Call} {p : Rn} {s s' : St} {w : World} {a a' : AA} {b : Act} {Q : Exit → Act → World → Prop}
theorem draw_sound (hE : Good E) (hcall : CallOk E B call) (hloc : ∀ f args, Loc (call f args)) (hm : E.P.follows .mixedOrders = true) {id : Nat} {ops : Array Oper} (hw : WE E B p s w) (ha : ARL p a b) (h : adraw E call ops a s = some (a', s'))
 (hQ : ∀ q w' b', Le p q → WE E B q s' w' → ARL q a' b' → Q .normal b' w') : (Code.region id ops true).wp E.P Q b w := by
 unfold adraw at h
 split at h <;> (try (cases h; done))
 rename_i hsh
 cases hd : dgo E call ops ops.toList a [] s with
 | none => rw [hd] at h; cases h
 | some x =>
 obtain ⟨⟨a1, rs⟩, s1⟩ := x
 rw [hd] at h
 dsimp only at h
 split at h <;> cases h
 rename_i hcomp
 obtain ⟨S, A, V, R, hR, e1, e2, e3, e4, e5, _, e7⟩ := dgo_runs _ _ _ _ _ _ _ hd
 simp only [shapely, Bool.and_eq_true] at hsh
 obtain ⟨hb, hap⟩ := hsh
 simp only [Array.length_toList, List.length_nil, Nat.zero_add] at e3 e4 e5 e7
 have hlen : ∀ i, i < ops.size → ops.toList[i]? = some (ops.getD i default) := by
  intro i hi; simp [Array.getD_eq_getD_getElem?, hi]
 have fact : ∀ i, i < ops.size → Fact E call ops S A V R i (ops.getD i default) := fun i hi => hR.fact hloc (hlen i hi)
 have hmono : ∀ j, j ≤ ops.size → ∀ i, i ≤ j → (S i).ctr ≤ (S j).ctr := by
  intro j
  induction j with
  | zero => intro _ i hi; rw [Nat.le_zero.1 hi]; exact Nat.le_refl _
  | succ j ih =>
   intro hj i hi
   rcases Nat.lt_or_eq_of_le hi with h | h
   ·have f := fact j (by omega)
    have := f.le; rw [f.lo, f.hi] at this
    exact Nat.le_trans (ih (by omega) i (by omega)) this
   ·rw [h]; exact Nat.le_refl _
 have htop : ∀ j, j ≤ ops.size → (S j).top = s.top ∧ (S j).ctr ≤ s.top := by
  intro j
  induction j with
  | zero => intro _; rw [e1]; exact ⟨rfl, hw.wr.room⟩
  | succ j ih =>
   intro hj
   have f := fact j (by omega)
   have := ih (by omega)
   exact ⟨by rw [f.top, this.1], by have h := f.room (by rw [this.1]; exact this.2); rw [this.1] at h; exact h⟩
 have hn : ∀ j, j ≤ ops.size → (A j).n = a.n ∧ (A j).ds = a.ds := by
  intro j
  induction j with
  | zero => intro _; rw [e2]; exact ⟨rfl, rfl⟩
  | succ j ih =>
   intro hj
   have f := put_get (fact j (by omega)).put
   have := ih (by omega)
   exact ⟨by rw [f.2.1, this.1], by rw [f.2.2, this.2]⟩
 have pair : ∀ i j, i < j → j < ops.size → i ∉ (ancs ops.toList).getD j [] → compat (R i) (R j) = true ∧ Oper.apart ops (ops.getD i default) (ops.getD j default) = true := by
  intro i j hij hj hk
  have hmem := unord_mem hij (by simpa using hj) hk
  have h1 := List.all_eq_true.1 hcomp _ hmem
  have h2 := List.all_eq_true.1 hap _ hmem
  have g1 := e7 i (by omega)
  have g2 := e7 j hj
  simp only [List.getD_eq_getElem?_getD, g1, g2, Option.getD_some] at h1
  exact ⟨h1, h2⟩
 let fH : Nat → Nat → Option Obj := fun i n => (S i).h.get n
 let CH : Nat → Nat → Bool := fun i n => clash (R i) n
 let fT : Nat → Nat → Option Value := fun i n => (A i).t.get n
 let CT : Nat → Nat → Bool := fun i n => (ops.getD i default).dst == some n
 let F := (S ops.size).ctr
 let I : Array Bool → Act → World → Prop := fun listed b w =>
  Closed ops (fun i => listed.getD i false) ∧ ∃ (q : Rn) (t : St) (al : AA), Le p q ∧ WE E B q t w ∧ ARL q al b ∧ t.ctr = F ∧ t.top = s.top ∧ al.n = a.n ∧ al.ds = a.ds ∧
   (∀ n, t.h.get n = ov fH CH (fun i => listed.getD i false) ops.size n) ∧ (∀ n, al.t.get n = ov fT CT (fun i => listed.getD i false) ops.size n) ∧
   ∀ j, j < ops.size → listed.getD j false = false → ∀ n x, q n = some x → outOf (R j) n = true
 have frH : ∀ m, m < ops.size → ∀ n, CH m n = false → fH (m + 1) n = fH m n := fun m hm n hc => (fact m hm).frame n hc
 have frT : ∀ m, m < ops.size → ∀ n, CT m n = false → fT (m + 1) n = fT m n := by
  intro m hm n hc
  have := (put_get (fact m hm).put).1 n
  show (A (m + 1)).t.get n = (A m).t.get n
  rw [this, if_neg]
  intro e
  have hc : ((ops.getD m default).dst == some n) = false := hc
  rw [e] at hc; simp at hc
 have hF : s.ctr ≤ F := by have := hmono ops.size (Nat.le_refl _) 0 (Nat.zero_le _); rw [e1] at this; exact this
 have hFtop : F ≤ s.top := (htop ops.size (Nat.le_refl _)).2
 refine wp_region_any hm (wpAny_inv (I := I) ?_ ?_ ops.size _ _ _ (by simp) (by simp) ?_)
 ·-- one more
  intro listed b w i hsz hI hrd K hK
  obtain ⟨hcl, q, t, al, l1, hwe, hal, ht1, ht2, han, had, htH, htT, hfr⟩ := hI
  obtain ⟨hi, hLi0, hpre⟩ := ready_spec hrd
  have hil : i < listed.size := by omega
  have hLi : listed.getD i false = false := by
   simp only [Array.getD_eq_getD_getElem?, Array.getElem?_eq_getElem hil, Option.getD_some] at hLi0 ⊢
   exact hLi0
  have ho : ops[i]? = some (ops.getD i default) := by simp [Array.getD_eq_getD_getElem?, hi]
  have f := fact i hi
  have hanc : ∀ k, k ∈ (ancs ops.toList).getD i [] → listed.getD k false = true := ancs_in hb hcl i (fun o' ho' e he hb' => hpre o' ho' e he hb') hi
  have before : ∀ m, m < i → listed.getD m false = false → compat (R m) (R i) = true ∧ Oper.apart ops (ops.getD m default) (ops.getD i default) = true := fun m hmi hL =>
   pair m i hmi hi fun hk => by rw [hanc m hk] at hL; cases hL
  have behind : ∀ m, i < m → m < ops.size → listed.getD m false = true → compat (R i) (R m) = true ∧ Oper.apart ops (ops.getD i default) (ops.getD m default) = true := fun m hmi hmN hL =>
   pair i m hmi hmN fun hk => by
    have := ancs_in hb hcl m (fun o' ho' e he hb' => hcl m o' ho' hL e he hb') hmN i hk
    simp only [hLi] at this; cases this
  have le : ∀ m, m < ops.size → (R m).lo ≤ (R m).hi := fun m hm => (fact m hm).le
  have h1H : ∀ m, m < i → listed.getD m false = false → ∀ n, looks (R i) n → CH m n = false := fun m hmi hL n hn => (compat_facts (before m hmi hL).1 (le m (by omega)) (le i hi)).1 n hn
  have h2H : ∀ m, i < m → m < ops.size → listed.getD m false = true → ∀ n, looks (R i) n → CH m n = false := fun m hmi hmN hL n hn => (compat_facts (behind m hmi hmN hL).1 (le i hi) (le m hmN)).2.1 n hn
  have h3H : ∀ m, i < m → m < ops.size → listed.getD m false = true → ∀ n, CH i n = true → CH m n = false := fun m hmi hmN hL n hn => (compat_facts (behind m hmi hmN hL).1 (le i hi) (le m hmN)).2.2 n hn
  have cT : ∀ m n, CT m n = true ↔ (ops.getD m default).dst = some n := fun m n => by show ((ops.getD m default).dst == some n) = true ↔ _; rw [beq_iff_eq]
  have nT : ∀ m n, (ops.getD m default).dst ≠ some n → CT m n = false := fun m n h => by
   cases e : CT m n with
   | false => rfl
   | true => exact absurd ((cT m n).1 e) h
  have h1T : ∀ m, m < i → listed.getD m false = false → ∀ n, n ∈ (ops.getD i default).looksAt ops → CT m n = false := fun m hmi hL n hn => nT m n fun e => (Oper.apart_spec (before m hmi hL).2).1 n e hn
  have h2T : ∀ m, i < m → m < ops.size → listed.getD m false = true → ∀ n, n ∈ (ops.getD i default).looksAt ops → CT m n = false := fun m hmi hmN hL n hn => nT m n fun e => (Oper.apart_spec (behind m hmi hmN hL).2).2.2 n e hn
  have h3T : ∀ m, i < m → m < ops.size → listed.getD m false = true → ∀ n, CT i n = true → CT m n = false := fun m hmi hmN hL n hn => nT m n ((Oper.apart_spec (behind m hmi hmN hL).2).2.1 n ((cT i n).1 hn))
  have honly : al.only ((ops.getD i default).looksAt ops) = (A i).only ((ops.getD i default).looksAt ops) :=
   only_eq (fun n hn => by rw [htT n]; exact ov_read hi hLi frT h1T h2T hn) (by rw [han, (hn i (by omega)).1]) (by rw [had, (hn i (by omega)).2])
  obtain ⟨T', hT, hTc, hTt, hTh⟩ := f.here ⟨t.h, (R i).lo, (R i).hi, [], []⟩ rfl (Nat.le_refl _) (fun n hn => by show t.h.get n = _; rw [htH n]; exact ov_read (f := fH) hi hLi frH h1H h2H hn)
  have hlo := hmono i (by omega) 0 (Nat.zero_le _)
  rw [e1] at hlo
  have hhi := hmono ops.size (Nat.le_refl _) (i + 1) (by omega)
  have hWT : WE E { B with lo := (R i).lo, old := fun n => ∃ x, q n = some x } q ⟨t.h, (R i).lo, (R i).hi, [], []⟩ w := by
   refine ⟨⟨hwe.wr.below, hwe.wr.base, fun n b k e => ⟨.inl ⟨_, e⟩, (hwe.wr.dom n b k e).2⟩, hwe.wr.heap, hwe.wr.inj, hwe.wr.own, ?_, ?_, Nat.le_refl _, f.le⟩, hwe.gl⟩
   ·have := hw.wr.ctr; show E.G ≤ (R i).lo; rw [f.lo]; exact Nat.le_trans this hlo
   ·rintro n ⟨x, hx⟩
    have := hfr i hi hLi n x hx
    show n < (R i).lo ∨ (R i).hi ≤ n
    by_cases h : (R i).lo ≤ n ∧ n < (R i).hi
    ·rw [outOf_false.2 h] at this; cases this
    ·omega
  have hL' : ∀ m, (listed.setIfInBounds i true).getD m false = if m = i then true else listed.getD m false := by
   intro m
   rw [Array.getD_eq_getD_getElem?, Array.getElem?_setIfInBounds, Array.getD_eq_getD_getElem?]
   by_cases hm : m = i
   ·subst hm; rw [if_pos rfl, if_pos hil, if_pos rfl]; rfl
   ·rw [if_neg (fun e => hm e.symm), if_neg hm]
  have fin : ∀ q' w' al2 b', Le q q' → WE E { B with lo := (R i).lo, old := fun n => ∃ x, q n = some x } q' T' w' → al.put (ops.getD i default).dst (V i) = some al2 → ARL q' al2 b' → I (listed.setIfInBounds i true) b' w' := by
   intro q' w' al2 b' l2 hwe' hput harl
   obtain ⟨hp1, hp2, hp3⟩ := put_get hput
   obtain ⟨hq1, _, _⟩ := put_get f.put
   refine ⟨fun j o' ho' hj e he hb' => ?_, q', { T' with ctr := F, top := s.top }, al2, l1.trans l2, ⟨?_, hwe'.gl⟩, harl, rfl, rfl, by rw [hp2, han], by rw [hp3, had], fun n => ?_, fun n => ?_, fun j hj hjL n x hx => ?_⟩
   ·simp only [hL'] at hj ⊢
    split
    ·rfl
    ·by_cases hji : j = i
     ·subst hji; exact hpre o' ho' e he hb'
     ·rw [if_neg hji] at hj; exact hcl j o' ho' hj e he hb'
   ·have h0 := hwe'.wr
    refine ⟨h0.below, h0.base, fun n b k e => ⟨?_, (h0.dom n b k e).2⟩, h0.heap, h0.inj, h0.own, ?_, hw.wr.far, ?_, hFtop⟩
    ·rcases (h0.dom n b k e).1 with ⟨x, hx⟩ | h
     ·rcases (hwe.wr.dom n x.1 x.2 hx).1 with h | h
      ·exact .inl h
      ·exact .inr ⟨h.1, by have := h.2; rw [ht1] at this; exact this⟩
     ·have h1 : (R i).lo ≤ n := h.1
      have h2 : n < T'.ctr := h.2
      rw [hTc, f.hi] at h2
      rw [f.lo] at h1
      have h3 : B.lo ≤ s.ctr := hw.wr.lo
      exact .inr ⟨by show B.lo ≤ n; omega, by show n < F; omega⟩
    ·have := hw.wr.ctr; show E.G ≤ F; exact Nat.le_trans this hF
    ·have h3 : B.lo ≤ s.ctr := hw.wr.lo
     show B.lo ≤ F; omega
   ·show T'.h.get n = _
    rw [hTh n, ov_step hi hLi hL' h3H n]
    show (if clash (R i) n then (S (i + 1)).h.get n else t.h.get n) = if CH i n then fH (i + 1) n else _
    rw [htH n]
   ·rw [hp1, ov_step hi hLi hL' h3T n]
    by_cases hc : (ops.getD i default).dst = some n
    ·rw [if_pos hc, if_pos ((cT i n).2 hc)]
     show _ = (A (i + 1)).t.get n
     rw [hq1, if_pos hc]
    ·rw [if_neg hc, nT i n hc, if_neg (by simp), htT n]
   ·have hji : j ≠ i := by intro e; subst e; rw [hL', if_pos rfl] at hjL; cases hjL
    rw [hL', if_neg hji] at hjL
    rcases (hwe'.wr.dom n x.1 x.2 hx).1 with ⟨y, hy⟩ | h
    ·exact hfr j hj hjL n y hy
    ·have h1 : (R i).lo ≤ n := h.1
     have h2 : n < T'.ctr := h.2
     rw [hTc] at h2
     cases hout : outOf (R j) n with
     | true => rfl
     | false =>
      exfalso
      rw [outOf_false] at hout
      rw [(fact j hj).lo, (fact j hj).hi] at hout
      rw [f.lo] at h1; rw [f.hi] at h2
      rcases Nat.lt_or_gt_of_ne hji with h | h
      ·have := hmono i (by omega) (j + 1) (by omega); omega
      ·have := hmono j (by omega) (i + 1) (by omega); omega
  have hput : ∃ al2, al.put (ops.getD i default).dst (V i) = some al2 := put_some f.put (by rw [han, (hn i (by omega)).1])
  obtain ⟨al2, hput⟩ := hput
  unfold wpOp
  rw [ho]
  dsimp only
  unfold dstep at hT
  rw [← honly] at hT
  cases hg : aguard ops (al.only ((ops.getD i default).looksAt ops)) (ops.getD i default) with
  | none => rw [hg] at hT; cases hT
  | some tt =>
   rw [hg] at hT
   have hwant := guard_rel (only_rel hal _) hg
   cases tt with
   | true =>
    obtain ⟨r, T1, hs1, hs2⟩ := mb_some hT
    rw [if_pos hwant]
    left
    refine step_sound (B := { B with lo := (R i).lo, old := fun n => ∃ x, q n = some x }) hE (fun f args s r s' h hf lo old => hcall f args s r s' h hf lo old) hWT (only_rel hal _) hs1 ⟨fun q' w' a1 a0 b0 v v' l2 hwe' hr harl hpu hv hnd => ?_, fun q' w' c c' _ _ hr _ => ?_⟩
    ·subst hr
     obtain ⟨rfl, rfl⟩ := hnd fun c hc => by have := f.df; rw [hc] at this; cases this
     have hdv : T1 = T' ∧ ∀ d, (ops.getD i default).dst = some d → V i = v := by
      unfold dval at hs2
      cases hdst : (ops.getD i default).dst with
      | none =>
       rw [hdst] at hs2
       have h1 : (some (undef, T1) : Option (Value × St)) = some (V i, T') := hs2
       exact ⟨(Prod.mk.inj (Option.some.inj h1)).2, fun d h => by cases h⟩
      | some d =>
       rw [hdst] at hs2 hpu
       dsimp only at hs2
       rw [(put_get hpu).1 d, if_pos rfl] at hs2
       cases hs2
       exact ⟨rfl, fun _ _ => rfl⟩
     obtain ⟨rfl, hvv⟩ := hdv
     refine hK _ _ (fin q' w' al2 _ l2 hwe' hput ?_)
     cases hdst : (ops.getD i default).dst with
     | none => rw [hdst] at hput; cases hput; exact hal.le l2
     | some d =>
      rw [hdst] at hput
      rw [hvv d hdst] at hput
      exact put_rel (hal.le l2) hput hv
    ·subst hr; cases hs2
   | false =>
    have hT' : (V i, T') = (undef, ⟨t.h, (R i).lo, (R i).hi, [], []⟩) := by
     have : (some (undef, (⟨t.h, (R i).lo, (R i).hi, [], []⟩ : St)) : Option (Value × St)) = some (V i, T') := hT
     exact (Option.some.inj this).symm
    simp only [Prod.mk.injEq] at hT'
    obtain ⟨hV, rfl⟩ := hT'
    rw [if_neg (by rw [hwant]; simp)]
    refine hK _ _ (fin q w al2 _ (Le.refl _) hWT hput ?_)
    rw [hV] at hput
    exact put_rel hal hput (VR.undef _)
 ·-- all is done
  intro listed b w hsz hI hrd
  obtain ⟨hcl, q, t, al, l1, hwe, hal, ht1, ht2, han, had, htH, htT, _⟩ := hI
  have hall : ∀ j, j < ops.size → listed.getD j false = true := by
   intro j
   induction j using Nat.strongRecOn with
   | _ j ih =>
    intro hj
    cases hlj : listed.getD j false with
    | true => rfl
    | false =>
     exfalso
     have hmem : j ∈ Region.ready .any ops listed := by
      simp only [Region.ready, List.mem_filter, List.mem_range, Bool.and_eq_true, Bool.not_eq_true']
      refine ⟨hj, ?_, ?_⟩
      ·have hjl : j < listed.size := by omega
       simp only [Array.getD_eq_getD_getElem?, Array.getElem?_eq_getElem hjl, Option.getD_some] at hlj ⊢
       exact hlj
      ·simp only [Array.getElem?_eq_getElem hj, Option.map_some, Option.getD_some, Array.all_eq_true', Bool.or_eq_true, Bool.not_eq_true']
       intro e he
       cases hbe : Region.binds .any e with
       | false => exact .inl rfl
       | true =>
        right
        have hbk := List.all_eq_true.1 hb j (by simpa using hj)
        have hbk := List.all_eq_true.1 hbk e (by simpa [List.getD_eq_getElem?_getD, hj] using he)
        have hon : e.on < j := by simpa [hbe] using hbk
        exact ih e.on hon (by omega)
     rw [hrd] at hmem; cases hmem
  have hfH : ∀ n, (S ops.size).h.get n = t.h.get n := fun n => by rw [htH n, ov_all hall frH n _ (Nat.le_refl _)]
  have hfT : ∀ n, a'.t.get n = al.t.get n := fun n => by rw [htT n, ov_all hall frT n _ (Nat.le_refl _), ← e4]
  rw [← e3] at hQ
  refine hQ q w b l1 ⟨hwe.wr.congr hfH (by rw [ht1]) (by rw [ht2, (htop _ (Nat.le_refl _)).1]), hwe.gl⟩ (hal.congr hfT ?_ ?_)
  ·rw [han, ← e4, (hn _ (Nat.le_refl _)).1]
  ·rw [had, ← e4, (hn _ (Nat.le_refl _)).2]
 ·-- nothing is done yet
  have hno : ∀ j, (Array.replicate ops.size false).getD j false = false := by
   intro j
   rw [Array.getD_eq_getD_getElem?, Array.getElem?_replicate]
   split <;> rfl
  refine ⟨fun j o _ h => (by simp only [hno] at h; cases h), p, { s with ctr := F }, a, Le.refl _, ⟨?_, hw.gl⟩, ha, rfl, rfl, rfl, rfl, fun n => ?_, fun n => ?_, fun j hj _ n x hx => ?_⟩
  ·have h0 := hw.wr.drew
   refine ⟨h0.below, h0.base, fun n b k e => ⟨(h0.dom n b k e).1.imp (fun h => h) fun h => ⟨h.1, Nat.lt_of_lt_of_le h.2 hF⟩, (h0.dom n b k e).2⟩, h0.heap, h0.inj, h0.own, Nat.le_trans h0.ctr hF, h0.far, Nat.le_trans h0.lo hF, hFtop⟩
  ·rw [ov_none hno]; show s.h.get n = (S 0).h.get n; rw [e1]
  ·rw [ov_none hno]; show a.t.get n = (A 0).t.get n; rw [e2]
  ·cases hout : outOf (R j) n with
   | true => rfl
   | false =>
    exfalso
    rw [outOf_false, (fact j hj).lo, (fact j hj).hi] at hout
    have h1 := hmono j (by omega) 0 (Nat.zero_le _)
    rw [e1] at h1
    have h2 := (htop (j + 1) (by omega)).2
    have h3 := hw.wr.lo
    have h4 : (E.cx B).lo = B.lo := rfl
    rcases (hw.wr.dom n x.1 x.2 hx).1 with h | h
    ·rcases hw.wr.far n h with h5 | h5 <;> omega
    ·omega
end
end Go.Ex

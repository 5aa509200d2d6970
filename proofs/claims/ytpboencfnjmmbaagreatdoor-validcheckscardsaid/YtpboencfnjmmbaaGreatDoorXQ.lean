/-
  Whatever a plain run of a call answers, the call in memory answers too.
  Conditions: as each theorem says. (No program is named here.)
-/
import Derived.Test.YtpboencfnjmmbaaGreatDoorXP
namespace Go.Ex
set_option linter.unusedVariables false
open Go.RowKit

theorem start_get : ∀ (l : List Value) (k : Nat) (t : Tr Value), (∀ i v, t.get i = some v → i < k) → ∀ i v, ((l.zipIdx k).foldl (fun t (x : Value × Nat) => Tr.put t x.2 (some x.1)) t).get i = some v → t.get i = some v ∨ (k ≤ i ∧ l[i - k]? = some v) := by
  intro l
  induction l with
  | nil => intro k t _ i v h; exact .inl h
  | cons x l ih =>
    intro k t ht i v h
    simp only [List.zipIdx_cons, List.foldl_cons] at h
    rcases ih (k + 1) _ (fun j u hj => by
      simp only [Tr.get_put] at hj
      split at hj
      · omega
      · have := ht j u hj; omega) i v h with h3 | ⟨h1, h2⟩
    · simp only [Tr.get_put] at h3
      split at h3
      · rename_i e; subst e; cases h3; exact .inr ⟨Nat.le_refl _, by simp⟩
      · exact .inl h3
    · refine .inr ⟨by omega, ?_⟩
      rw [show i - k = (i - (k + 1)) + 1 by omega]
      simpa using h2
theorem start_rel {p : Rn} {args args' : Array Value} (h : Arr (VR p) args args') (n : Nat) : ARL p (AA.start args n) { tmps := args' ++ Array.replicate (n - args'.size) undef, defers := [] } := by
  refine ⟨?_, fun i v hi => ?_, trivial⟩
  · have := h.1
    simp only [Array.size_append, Array.size_replicate, AA.start]
    omega
  · rcases start_get args.toList 0 [] (fun i v h => by simp [Tr.get, lget_nil] at h) i v hi with h1 | ⟨_, h1⟩
    · simp [Tr.get, lget_nil] at h1
    · simp only [Nat.sub_zero, Array.getElem?_toList] at h1
      obtain ⟨u, h2, hu⟩ := h.get h1
      have hlt : i < args.size := (Array.getElem?_eq_some_iff.1 h1).1
      refine ⟨by simp only [AA.start]; omega, ?_⟩
      rw [Array.getD_eq_getD_getElem?, Array.getElem?_append, if_pos (by rw [← h.1]; exact hlt), h2]
      exact hu

def UR (q : Rn) : Option Chain → FrameMode → Prop
  | none, .returning => True
  | some c, .panicking c' => ChR q c c'
  | _, _ => False
theorem UR.le {p q : Rn} (l : Le p q) {u : Option Chain} {m : FrameMode} (h : UR p u m) : UR q u m := by
  cases u <;> cases m <;> first | exact h | exact ChR.le l h
theorem ChR.append {p : Rn} : ∀ {x y x' y' : Chain}, ChR p x x' → ChR p y y' → ChR p (x ++ y) (x' ++ y')
  | [], _, [], _, _, h => h
  | _ :: _, _, _ :: _, _, h, k => ⟨h.1, h.2.1, h.2.2.1, ChR.append h.2.2.2 k⟩
  | [], _, _ :: _, _, h, _ => h.elim
  | _ :: _, _, [], _, h, _ => h.elim
theorem ChR.drop {p : Rn} : ∀ {x y : Chain}, ChR p x y → ChR p (x.dropWhile fun e => !e.goexit) (y.dropWhile fun e => !e.goexit)
  | [], [], h => h
  | a :: x, b :: y, h => by
    rw [List.dropWhile_cons, List.dropWhile_cons, h.2.2.1]
    split
    · exact ChR.drop h.2.2.2
    · exact h
  | [], _ :: _, h => h.elim
  | _ :: _, [], h => h.elim
theorem UR.settle {p : Rn} {u : Option Chain} {m : FrameMode} (h : UR p u m) : UR p (asettle u) (settle m) := by
  cases u with
  | none => cases m <;> first | exact h.elim | exact h
  | some c =>
    cases m <;> first | exact h.elim | skip
    rename_i c'
    have h : ChR p c c' := h
    match c, c', h with
    | [], [], h => exact h
    | ⟨v, r, g⟩ :: x, ⟨v', r', g'⟩ :: y, h =>
      obtain ⟨h1, h2, h3, h4⟩ := h
      simp only at h2 h3
      subst h2 h3
      cases r' with
      | false => exact ⟨h1, rfl, rfl, h4⟩
      | true =>
        have hd := h4.drop
        simp only [asettle, Go.settle]
        generalize x.dropWhile (fun e => !e.goexit) = xd at *
        generalize y.dropWhile (fun e => !e.goexit) = yd at *
        match xd, yd, hd with
        | [], [], _ => trivial
        | _ :: _, _ :: _, hd => exact hd
        | [], _ :: _, hd => exact hd.elim
        | _ :: _, [], hd => exact hd.elim
    | [], _ :: _, h => exact h.elim
    | _ :: _, [], h => exact h.elim
theorem UR.raised {p : Rn} {u : Option Chain} {m : FrameMode} {c c' : Chain} (h : UR p u m) (hc : ChR p c c') : UR p (araised u c) (raised m c') := by
  cases u with
  | none => cases m <;> first | exact h.elim | exact hc
  | some d => cases m <;> first | exact h.elim | exact ChR.append hc h

section
variable {E : Env} {B : Bs} {call : Call}

theorem rec_sound {p : Rn} {u : Option Chain} {um : FrameMode} (h : UR p u um) (c0 : Frame) (cs : List Frame) :
    (∃ v' um', recoverD ({ c0 with mode := um } :: cs) = some (v', { c0 with mode := um' } :: cs) ∧ VR p (arec u).1 v' ∧ UR p (arec u).2 um') ∨ (recoverD ({ c0 with mode := um } :: cs) = none ∧ (arec u).1 = .nilIface ∧ UR p (arec u).2 um) := by
  cases u with
  | none =>
    cases um <;> first | exact h.elim | skip
    exact .inr ⟨rfl, rfl, trivial⟩
  | some c =>
    cases um <;> first | exact h.elim | skip
    rename_i c'
    have h : ChR p c c' := h
    match c, c', h with
    | [], [], h => exact .inr ⟨rfl, rfl, h⟩
    | ⟨v, r, g⟩ :: x, ⟨v', r', g'⟩ :: y, h =>
      obtain ⟨h1, h2, h3, h4⟩ := h
      simp only at h2 h3
      subst h2 h3
      cases r' with
      | true => exact .inr ⟨rfl, rfl, h1, rfl, rfl, h4⟩
      | false =>
        cases g' with
        | true => exact .inr ⟨rfl, rfl, h1, rfl, rfl, h4⟩
        | false => exact .inl ⟨v', _, rfl, h1, h1, rfl, rfl, h4⟩
    | [], _ :: _, h => exact h.elim
    | _ :: _, [], h => exact h.elim

theorem regionS_sound (hE : Good E) (hcall : CallOk E B call) {ops : Array Oper} {c0 : Frame} {cs : List Frame} {Q : Exit → Act → List Frame → World → Prop} : ∀ (l : List Oper) (k : Nat), (∀ j, l[j]? = ops[k + j]?) → ∀ {p : Rn} {s s' : St} {w : World} {a : AA} {b : Act} {u : Option Chain} {um : FrameMode} {r : AA × Option Chain},
    WE E B p s w → ARL p a b → UR p u um → aregionS E call ops l a u s = some (r, s') →
    (∀ q w' b' um', Le p q → WE E B q s' w' → ARL q r.1 b' → UR q r.2 um' → Q .normal b' ({ c0 with mode := um' } :: cs) w') → wpOpsS E.P ops Q (List.range' k l.length) b ({ c0 with mode := um } :: cs) w := by
  intro l
  induction l with
  | nil => intro k _ p s s' w a b u um r hw ha hu h hQ; cases h; exact hQ p w b um (Le.refl _) hw ha hu
  | cons o l ih =>
    intro k hk p s s' w a b u um r hw ha hu h hQ
    have ho : ops[k]? = some o := by have := hk 0; simpa using this.symm
    have ih := @ih (k + 1) (fun j => by have := hk (j + 1); simpa [Nat.add_assoc, Nat.add_comm 1 j] using this)
    simp only [List.length_cons, List.range'_succ, wpOpsS, ho]
    unfold aregionS at h
    cases hg : aguard ops a o with
    | none => rw [hg] at h; cases h
    | some t =>
      rw [hg] at h
      have hwant := guard_rel ha hg
      cases t with
      | false =>
        obtain ⟨r1, s1, h3, h4⟩ := mb_some h
        rw [if_neg (by rw [hwant]; simp)]
        obtain ⟨a1, e2, rfl, rfl⟩ := aput_some h3
        exact ih hw (put_rel ha e2 (VR.undef _)) hu h4 hQ
      | true =>
        rw [if_pos hwant]
        dsimp only at h
        by_cases hrec : isRec o.op = true
        · rw [if_pos hrec] at h
          obtain ⟨r1, s1, h3, h4⟩ := mb_some h
          obtain ⟨a1, e2, rfl, rfl⟩ := aput_some h3
          have hen : (execOp b.eval o).run E.P w = .ok .recover w := by
            cases hop : o.op <;> rw [hop] at hrec <;> first | (cases hrec; done) | skip
            rename_i c
            obtain ⟨cal, args, ts⟩ := c
            cases cal <;> first | (cases hrec; done) | skip
            rename_i bi
            cases bi <;> first | (cases hrec; done) | skip
            simp only [execOp, hop, resolve, Sem.run_bind, Sem.run_pure, Result.andThen_ok, invoke, Go.builtin]
          rw [hen]
          dsimp only
          rcases rec_sound hu c0 cs with ⟨v', um', e3, hv, hu'⟩ | ⟨e3, hv, hu'⟩
          · rw [e3]
            exact ih hw (put_rel ha e2 hv) hu' h4 hQ
          · rw [e3]
            refine ih hw (put_rel ha e2 ?_) hu' h4 hQ
            rw [hv]; exact VR.of_leaf rfl
        · rw [if_neg hrec] at h
          obtain ⟨r1, s1, h3, h4⟩ := mb_some h
          have hst := step_sound (K := fun b' w' => wpOpsS E.P ops Q (List.range' (k + 1) l.length) b' ({ c0 with mode := um } :: cs) w') (Q := fun e a' w' => Q e a' ({ c0 with mode := um } :: cs) w') hE hcall hw ha h3 ⟨fun q w' a1 a0 b0 v v' l1 hw' hr har hpu hv _ => by
            subst hr
            exact ih hw' (put_rel har hpu hv) (hu.le l1) h4 fun q' w2 b2 um2 l2 => hQ q' w2 b2 um2 (l1.trans l2), fun q w' c c' l1 hw' hr hc => by subst hr; cases h4⟩
          unfold Oper.wp at hst
          cases hr : (execOp b.eval o).run E.P w with
          | halt x w1 => rw [hr] at hst; exact hst
          | ok n w1 =>
            rw [hr] at hst
            cases n <;> first | exact hst | exact hst.elim

def DOk (E : Env) (B : Bs) (call : Call) : Prop := ∀ g args u s r u' s', acallD E call g args u s = some ((r, u'), s') → (E.fn g).isSome = true ∧ ∀ p w args' um, WE E B p s w → Arr (VR p) args args' → UR p u um →
  CallsD E.P g args' um w fun e um' w' => ∃ q, Le p q ∧ WE E B q s' w' ∧ EndR q r e ∧ UR q u' um'

theorem callD_sound (hE : Good E) (hcall : CallOk E B call) (hloc : ∀ f args, Loc (call f args)) (hm : E.P.follows .mixedOrders = true) : DOk E B call := by
  intro g args u s r u' s' h
  unfold acallD at h
  cases hf : E.fn g with
  | none => rw [hf] at h; cases h
  | some fn =>
    refine ⟨rfl, fun p w args' um hw harg hu => ?_⟩
    rw [hf] at h
    dsimp only at h
    obtain ⟨id, ops, y, hbody⟩ : ∃ id ops y, fn.body = some (.seq (.region id ops false) y) := by
      cases hb : fn.body with
      | none => rw [hb] at h; cases h
      | some c =>
        rw [hb] at h
        cases c <;> first | (cases h; done) | skip
        rename_i x y
        cases x <;> first | (cases h; done) | skip
        rename_i id ops d
        cases d <;> first | (cases h; done) | exact ⟨id, ops, y, rfl⟩
    rw [hbody] at h
    dsimp only at h
    obtain ⟨⟨a1, u1⟩, s1, h1, h2⟩ := mb_some h
    obtain ⟨⟨e2, a2⟩, s2, h3, h4⟩ := mb_some h2
    refine callsD_of_wpS (hE.call g fn hf).1 hbody fun c₀ cs hc => ?_
    refine wpS_seq (wpS_region ?_)
    rw [List.range_eq_range', ← Array.length_toList]
    have hc0 : c₀ = { c₀ with mode := um } := by rw [← hc]
    rw [hc0]
    refine regionS_sound hE hcall ops.toList 0 (fun j => by simp) hw (start_rel harg _) hu h1 fun q w' b' um' l1 hw1 ha1 hu1 => ?_
    refine wpS_of_wp (Code.wp_mono (fun e b2 w2 hp => ?_) (code_sound hE hcall hloc hm y hw1 ha1 h3))
    obtain ⟨q2, l2, hw2, he, ha2⟩ := hp
    unfold adone at h4
    cases hds : a2.ds with
    | cons d ds => simp only [hds] at h4; cases h4
    | nil =>
      simp only [hds] at h4
      have hd := ha2.ds
      simp only [hds] at hd
      have hd : b2.defers = [] := by
        cases hb : b2.defers with
        | nil => rfl
        | cons x xs => rw [hb] at hd; exact hd.elim
      cases e2 <;> cases e <;> first | exact he.elim | (cases h4; done) | skip
      · obtain ⟨v, s3, h5, h6⟩ := mb_some h4
        cases h6
        obtain ⟨q3, v', l3, hw3, hv, e3⟩ := res_sound hw2 ha2 h5
        exact ⟨hd, um', rfl, v', e3, q3, (l1.trans l2).trans l3, hw3, hv, hu1.le (l2.trans l3)⟩
      · obtain ⟨v, s3, h5, h6⟩ := mb_some h4
        cases h6
        obtain ⟨q3, v', l3, hw3, hv, e3⟩ := res_sound hw2 ha2 h5
        exact ⟨hd, um', rfl, v', e3, q3, (l1.trans l2).trans l3, hw3, hv, hu1.le (l2.trans l3)⟩
      · cases h4
        exact ⟨hd, um', rfl, q2, l1.trans l2, hw2, he, hu1.le l2⟩

theorem leaves_sound (hE : Good E) (hD : DOk E B call) {fn : Func} {R : Ending → World → Prop} {a : AA} {tmps : Array Value} : ∀ (ds : List Deferred) {p : Rn} {s s' : St} {w : World} {b : Act} {u : Option Chain} {um : FrameMode} {ds' : List Deferred} {r : Except Chain Value},
    WE E B p s w → ARL p a b → b.tmps = tmps → DsR p ds ds' → UR p u um → aleaves E call fn a ds u s = some (r, s') → (∀ q w' e, Le p q → WE E B q s' w' → EndR q r e → R e w') → Leaves E.P fn tmps R ds' um w := by
  intro ds
  induction ds with
  | nil =>
    intro p s s' w b u um ds' r hw ha hb hd hu h hR
    cases ds' with
    | cons _ _ => exact hd.elim
    | nil =>
      cases u with
      | none =>
        cases um <;> first | exact hu.elim | skip
        obtain ⟨v, s1, h1, h2⟩ := mb_some h
        cases h2
        obtain ⟨q, v', l1, hw1, hv, e1⟩ := res_sound hw ha h1
        rw [hb] at e1
        exact ⟨v', e1, hR q w _ l1 hw1 hv⟩
      | some c =>
        cases um <;> first | exact hu.elim | skip
        cases h
        exact hR p w _ (Le.refl _) hw hu
  | cons d ds ih =>
    intro p s s' w b u um ds' r hw ha hb hd hu h hR
    cases ds' with
    | nil => exact hd.elim
    | cons d' ds' =>
      obtain ⟨⟨f, x, x', h1, h2, h3, h4, h5⟩, hd⟩ := hd
      unfold aleaves at h
      rw [h1] at h
      cases f <;> first | (cases h; done) | skip
      rename_i g
      dsimp only at h
      obtain ⟨⟨r1, u1⟩, s1, g1, g2⟩ := mb_some h
      obtain ⟨hfn, hcalls⟩ := hD g _ u s r1 u1 s1 g1
      obtain ⟨fnn, hfnn⟩ := Option.isSome_iff_exists.1 hfn
      refine ⟨by intro e; subst e; cases u <;> exact hu.elim, .func g, x', g, d'.args ++ x', h2, ?_, ?_⟩
      · rw [h2]; exact (hE.call g fnn hfnn).2 _ _
      · have := hcalls p w (d'.args ++ x') um hw (h5.append h4) hu
        intro c0 cs hc
        obtain ⟨e, um', w', fr, ⟨q, l1, hw1, he, hu1⟩, k1, k2, k3⟩ := this c0 cs hc
        refine ⟨e, um', w', fr, ?_, k1, k2, k3⟩
        have hR' : ∀ q' w' e, Le q q' → WE E B q' s' w' → EndR q' r e → R e w' := fun q' w' e l2 => hR q' w' e (l1.trans l2)
        cases r1 with
        | ok v =>
          cases e <;> first | exact he.elim | skip
          exact ih hw1 (ha.le l1) hb (hd.le l1) hu1.settle g2 hR'
        | error c =>
          cases e <;> first | exact he.elim | skip
          exact ih hw1 (ha.le l1) hb (hd.le l1) (hu1.raised he) g2 hR'

/-- What stands in for a call. -/
def OvOk (E : Env) (B : Bs) (o : Ov) : Prop := ∀ f m, o f = some m → (∀ args, Loc (m args)) ∧ ∀ args s r s', m args s = some (r, s') → ∀ lo old p w args', WE E { B with lo, old } p s w → Arr (VR p) args args' →
  Calls E.P f args' w fun e w' => ∃ q, Le p q ∧ WE E { B with lo, old } q s' w' ∧ EndR q r e

theorem Loc.regionS {call : Call} (h : ∀ f args, Loc (call f args)) (ops : Array Oper) : ∀ (l : List Oper) (a : AA) (u : Option Chain), Loc (aregionS E call ops l a u) := by
  intro l
  induction l with
  | nil => intro a u; exact .ret _
  | cons o l ih =>
    intro a u
    unfold aregionS
    cases aguard ops a o with
    | none => exact .no
    | some t =>
      cases t with
      | true =>
        refine .ite ((Loc.put _ _ _).bind fun r => ?_) ((Loc.step h _ _).bind fun r => ?_) <;> cases r <;> first | exact .no | exact ih _ _
      | false =>
        refine (Loc.put _ _ _).bind fun r => ?_
        cases r <;> first | exact .no | exact ih _ _
theorem Loc.done {fn : Func} {u : Option Chain} (r : Exit × AA) : Loc (adone E fn u r) := by
  unfold adone
  split
  · split
    · exact Loc.res.bind fun _ => .ret _
    · exact Loc.res.bind fun _ => .ret _
    · exact .ret _
    · exact .no
  · exact .no
theorem Loc.callD {call : Call} (h : ∀ f args, Loc (call f args)) (g : FuncId) (args : Array Value) (u : Option Chain) : Loc (acallD E call g args u) := by
  unfold acallD
  split
  · split
    · exact (Loc.regionS h _ _ _ _).bind fun r => (Loc.code h _ _).bind fun r => Loc.done _
    · exact .no
  · exact .no
theorem Loc.leaves {call : Call} (h : ∀ f args, Loc (call f args)) (fn : Func) (a : AA) : ∀ (ds : List Deferred) (u : Option Chain), Loc (aleaves E call fn a ds u) := by
  intro ds
  induction ds with
  | nil => intro u; cases u <;> first | exact Loc.res.bind fun _ => .ret _ | exact .ret _
  | cons d ds ih =>
    intro u
    unfold aleaves
    split
    · refine (Loc.callD h _ _ _).bind fun r => ?_
      cases r.1 <;> exact ih _
    · exact .no
theorem Loc.ofCall {o : Ov} (ho : ∀ f m, o f = some m → ∀ args, Loc (m args)) : ∀ (n : Nat) (f : FuncId) (args : Array Value), Loc (acall E o n f args) := by
  intro n
  induction n with
  | zero => intro f args; exact .no
  | succ n ih =>
    intro f args
    unfold acall
    split
    · rename_i m hm; exact ho f m hm args
    · split
      · split
        · refine (Loc.code ih _ _).bind fun r => ?_
          unfold aend
          split <;> first | exact Loc.leaves ih _ _ _ _ | exact .no
        · exact .no
      · exact .no

theorem call_sound (hE : Good E) {o : Ov} (ho : OvOk E B o) (hm : E.P.follows .mixedOrders = true) : ∀ n, CallOk E B (acall E o n) := by
  intro n
  induction n with
  | zero => intro f args s r s' h; cases h
  | succ n ih =>
    intro f args s r s' h hf lo old p w args' hw harg
    unfold acall at h
    cases hov : o f with
    | some m =>
      rw [hov] at h
      exact (ho f m hov).2 args s r s' h lo old p w args' hw harg
    | none =>
      rw [hov] at h
      dsimp only at h
      cases hfn : E.fn f with
      | none => rw [hfn] at h; cases h
      | some fn =>
        rw [hfn] at h
        dsimp only at h
        cases hb : fn.body with
        | none => rw [hb] at h; cases h
        | some c =>
          rw [hb] at h
          dsimp only at h
          obtain ⟨⟨e1, a1⟩, s1, h1, h2⟩ := mb_some h
          have hloc : ∀ f args, Loc (acall E o n f args) := Loc.ofCall (fun f m h => (ho f m h).1) n
          have ih' : CallOk E { B with lo, old } (acall E o n) := fun f args s r s' h hf lo old => ih f args s r s' h hf lo old
          have hD := callD_sound hE ih' hloc hm
          refine calls_of_wp_defers (hE.call f fn hfn).1 hb (Code.wp_mono (fun e b w' hp => ?_) (code_sound hE ih' hloc hm c hw (start_rel harg _) h1))
          obtain ⟨q, l1, hw1, he, ha1⟩ := hp
          unfold aend at h2
          have fin : ∀ q' w' e, Le q q' → WE E { B with lo, old } q' s' w' → EndR q' r e → ∃ q, Le p q ∧ WE E { B with lo, old } q s' w' ∧ EndR q r e := fun q' w' e l2 h3 h4 => ⟨q', l1.trans l2, h3, h4⟩
          cases e1 <;> cases e <;> first | exact he.elim | (cases h2; done) | skip
          · exact leaves_sound hE hD a1.ds hw1 ha1 rfl ha1.ds (u := none) (um := .returning) trivial h2 fin
          · exact leaves_sound hE hD a1.ds hw1 ha1 rfl ha1.ds (u := none) (um := .returning) trivial h2 fin
          · exact leaves_sound hE hD a1.ds hw1 ha1 rfl ha1.ds (um := .panicking _) (u := some _) he h2 fin
end
end Go.Ex

/-
  What the operations do, by names of blocks: arithmetic, conversions, interfaces, builtin calls; and one theorem over all.
  Conditions: as each theorem says. (No program is named here.)
-/
import Derived.Test.YtpboencfnjmmbaaGreatDoorXF
namespace Go.Ex
set_option linter.unusedVariables false
open Go.RowKit
section
variable {C : Cx} {α β : Type} {p : Rn} {A : Rn → α → α → Prop} {B : Rn → β → β → Prop}

theorem Sim.makeInterface {x x' : Value} (h : VR p x x') (t : TypeId) : Sim C p VR (Instr.makeInterface t x) (Instr.makeInterface t x') := by
  unfold Instr.makeInterface
  refine (Sim.underE t).bindE fun q lq d => ?_
  split
  · exact .stuck
  · exact .pure fun q1 l1 => (VR.cl _).ifc _ _ _ ((h.le lq).le l1)

theorem Sim.makeFunc {x x' y y' : Array Value} (f : Fn) (hf : noYield f = true) (h : Arr (VR p) x x') (k : Arr (VR p) y y') : Sim C p VR (Instr.makeFunc f x y) (Instr.makeFunc f x' y') :=
  .pure fun q l => (VR.cl _).fn _ _ _ _ _ hf (h.le l) (k.le l)

theorem Sim.extract {x x' : Value} (h : VR p x x') (i : Nat) : Sim C p VR (Instr.extract x i) (Instr.extract x' i) := by
  unfold Instr.extract
  have ix := h.inv
  split
  · obtain ⟨y, rfl, hy⟩ := ix
    dsimp only
    rename_i vs
    cases e : vs[i]? with
    | none => exact .stuck
    | some v => obtain ⟨u, e2, hv⟩ := hy.get e; rw [e2]; exact .pure fun q l => hv.le l
  · exact .stuck

theorem Sim.typeAssert (hz : Zok C.P) {x x' : Value} (h : VR p x x') (t u : TypeId) (ok : Bool) : Sim C p VR (Instr.typeAssert x t u ok) (Instr.typeAssert x' t u ok) := by
  unfold Instr.typeAssert
  have holds : ∀ (q : Rn) (v v' : Value), VR q v v' → Sim C q VR (Pure.pure (if ok = true then Value.tuple #[v, Value.bool true] else v)) (Pure.pure (if ok = true then Value.tuple #[v', Value.bool true] else v')) := by
    intro q v v' hv
    refine .pure fun q1 l1 => ?_
    split
    · exact (VR.cl _).tup _ _ (.two (hv.le l1) (VR.bool _ _))
    · exact hv.le l1
  have fails : ∀ (q : Rn) (a b : Option TypeId) (m : String), Sim C q VR (if ok = true then do let z ← zeroValue u; Pure.pure (Value.tuple #[z, Value.bool false]) else Go.runtimePanic (.typeAssertion a b u m)) (if ok = true then do let z ← zeroValue u; Pure.pure (Value.tuple #[z, Value.bool false]) else Go.runtimePanic (.typeAssertion a b u m)) := by
    intro q a b m
    refine .ite (fun _ => ?_) fun _ => Sim.runtimePanic _
    exact (Sim.zero hz _).bind fun q1 l1 z z' hzz => .pure fun q2 l2 => (VR.cl _).tup _ _ (.two (hzz.le l2) (VR.bool _ _))
  refine (Sim.underE _).bindE fun q lq d => ?_
  have h := h.le lq
  have ix := h.inv
  dsimp only
  split
  · obtain rfl := ix
    exact fails _ _ _ _
  · obtain ⟨v, rfl, hv⟩ := ix
    refine (Sim.infoE _).bindE fun q1 l1 i => ?_
    split
    · exact holds _ _ _ (h.le l1)
    · exact fails _ _ _ _
  · obtain rfl := ix
    cases d with
    | interface ms => simp at *
    | _ => exact fails _ _ _ _
  · obtain ⟨v, rfl, hv⟩ := ix
    cases d with
    | interface ms => simp at *
    | _ => exact .ite (fun _ => holds _ _ _ hv) fun _ => fails _ _ _ _
  · exact .stuck

theorem Sim.intBits (op : BinOp) (k : IntKind) (a b : Int) : Sim C p VR (Op.intBits op k a b) (Op.intBits op k a b) := by
  unfold Op.intBits
  cases op <;> first | exact .stuck | exact .pure fun _ _ => VR.int _ _ _
theorem Sim.intArith (op : BinOp) (k : IntKind) (a b : Int) : Sim C p VR (Op.intArith op k a b) (Op.intArith op k a b) := by
  unfold Op.intArith
  cases op <;> first | exact .stuck | exact .pure fun _ _ => VR.int _ _ _
theorem Sim.intDiv (op : BinOp) (k : IntKind) (a b : Int) : Sim C p VR (Op.intDiv op k a b) (Op.intDiv op k a b) := by
  unfold Op.intDiv
  refine .ite (fun _ => Sim.runtimePanic _) fun _ => ?_
  cases op <;> first | exact .stuck | exact .pure fun _ _ => VR.int _ _ _
theorem Sim.intCmp (op : BinOp) (a b : Int) : Sim C p VR (Op.intCmp op a b) (Op.intCmp op a b) := by
  unfold Op.intCmp
  cases op <;> first | exact .stuck | exact .pure fun _ _ => VR.bool _ _
theorem Sim.shift (op : BinOp) (k j : IntKind) (a b : Int) : Sim C p VR (Op.shift op k a j b) (Op.shift op k a j b) := by
  unfold Op.shift
  refine .ite (fun _ => Sim.runtimePanic _) fun _ => ?_
  cases op <;> first | exact .stuck | exact .pure fun _ _ => VR.int _ _ _
theorem Sim.stringOp (op : BinOp) (a b : ByteArray) : Sim C p VR (Op.stringOp op a b) (Op.stringOp op a b) := by
  unfold Op.stringOp
  cases op <;> first | exact .stuck | exact .pure fun _ _ => VR.bool _ _ | exact .ite (fun _ => .unsupported) fun _ => .pure fun _ _ => VR.str _ _
theorem Sim.unary (op : UnOp) {x x' : Value} (h : VR p x x') : Sim C p VR (Op.unary op x) (Op.unary op x') := by
  unfold Op.unary
  have ix := h.inv
  split
  · obtain rfl := ix; exact Sim.intArith _ _ _ _
  · obtain rfl := ix; exact Sim.intBits _ _ _ _
  · obtain rfl := ix; exact .pure fun _ _ => VR.of_leaf rfl
  · obtain rfl := ix; exact .pure fun _ _ => VR.of_leaf rfl
  · obtain rfl := ix; exact .pure fun _ _ => VR.bool _ _
  · exact .unsupported
  · exact .unsupported
  · exact .stuck

def kindOf : Value → Nat
  | .int _ _ => 1
  | .string _ => 2
  | .float _ _ => 3
  | .complex _ _ _ => 4
  | _ => 0
theorem kindOf_eq {v v' : Value} (h : VR p v v') : kindOf v' = kindOf v := by
  have i := h.inv
  cases v with
  | agg x => obtain ⟨x', rfl, a⟩ := i; rfl
  | pointer a => cases a with
    | none => obtain rfl := i; rfl
    | some a => obtain ⟨b, rfl, _⟩ := i; rfl
  | slice a l c => cases a with
    | none => obtain rfl := i; rfl
    | some a => obtain ⟨b, c', rfl, _⟩ := i; rfl
  | map r => cases r with
    | none => obtain rfl := i; rfl
    | some r => obtain ⟨b, c', rfl, _⟩ := i; rfl
  | chan r => cases r with
    | none => obtain rfl := i; rfl
    | some r => exact i.elim
  | func f x y => obtain ⟨x', y', rfl, _⟩ := i; rfl
  | iface t u => obtain ⟨x', rfl, _⟩ := i; rfl
  | tuple x => obtain ⟨x', rfl, _⟩ := i; rfl
  | bool b => obtain rfl := i; rfl
  | int k n => obtain rfl := i; rfl
  | float k n => obtain rfl := i; rfl
  | complex k n m => obtain rfl := i; rfl
  | string s => obtain rfl := i; rfl
  | nilFunc => obtain rfl := i; rfl
  | nilIface => obtain rfl := i; rfl

theorem binOp_eql {t : TypeId} {x y : Value} (h1 : ¬ (kindOf x = 1 ∧ kindOf y = 1)) (h2 : ¬ (kindOf x = 2 ∧ kindOf y = 2)) (h3 : kindOf x < 3) (h4 : kindOf y < 3) :
    Go.binOp .eql t x y = (do Pure.pure (.bool (← Op.equal t x y))) ∧ Go.binOp .neq t x y = (do Pure.pure (.bool (!(← Op.equal t x y)))) := by
  cases x <;> cases y <;> first
    | exact ⟨rfl, rfl⟩
    | exact (h1 ⟨rfl, rfl⟩).elim
    | exact (h2 ⟨rfl, rfl⟩).elim
    | (simp [kindOf] at h3; done)
    | (simp [kindOf] at h4; done)

def nilOf : Value → Nat
  | .nilIface => 1
  | .agg _ => 2
  | _ => 0
theorem nilOf_eq {v v' : Value} (h : VR p v v') : nilOf v' = nilOf v := by
  have i := h.inv
  cases v with
  | agg x => obtain ⟨x', rfl, a⟩ := i; rfl
  | pointer a => cases a with
    | none => obtain rfl := i; rfl
    | some a => obtain ⟨b, rfl, _⟩ := i; rfl
  | slice a l c => cases a with
    | none => obtain rfl := i; rfl
    | some a => obtain ⟨b, c', rfl, _⟩ := i; rfl
  | map r => cases r with
    | none => obtain rfl := i; rfl
    | some r => obtain ⟨b, c', rfl, _⟩ := i; rfl
  | chan r => cases r with
    | none => obtain rfl := i; rfl
    | some r => exact i.elim
  | func f x y => obtain ⟨x', y', rfl, _⟩ := i; rfl
  | iface t u => obtain ⟨x', rfl, _⟩ := i; rfl
  | tuple x => obtain ⟨x', rfl, _⟩ := i; rfl
  | bool b => obtain rfl := i; rfl
  | int k n => obtain rfl := i; rfl
  | float k n => obtain rfl := i; rfl
  | complex k n m => obtain rfl := i; rfl
  | string s => obtain rfl := i; rfl
  | nilFunc => obtain rfl := i; rfl
  | nilIface => obtain rfl := i; rfl

/-- What is asked of a binary operation's values. -/
def binOk (P : Program) (op : BinOp) (t : TypeId) (x y : Value) : Bool :=
  if kindOf x == 1 && kindOf y == 1 then true
  else if kindOf x == 2 && kindOf y == 2 then true
  else decide (kindOf x < 3) && decide (kindOf y < 3) && ((match op with | .eql | .neq => true | _ => false) && ((flat1 x && flat1 y) || leaf x || leaf y || (match P.underlying t with | some (.pointer _) => true | _ => false)))

theorem Sim.binOp {op : BinOp} {t : TypeId} {x x' y y' : Value} (hok : binOk C.P op t x y = true) (h : VR p x x') (k : VR p y y') : Sim C p VR (Go.binOp op t x y) (Go.binOp op t x' y') := by
  have ix := h.inv
  have iy := k.inv
  unfold binOk at hok
  split at hok
  · rename_i hk
    simp only [Bool.and_eq_true, beq_iff_eq] at hk
    cases x <;> first | (simp [kindOf] at hk; done) | skip
    cases y <;> first | (simp [kindOf] at hk; done) | skip
    obtain rfl := ix; obtain rfl := iy
    cases op <;> simp only [Go.binOp] <;> first
      | exact Sim.shift _ _ _ _ _
      | exact .ite (fun _ => .stuck) fun _ => Sim.intArith _ _ _ _
      | exact .ite (fun _ => .stuck) fun _ => Sim.intDiv _ _ _ _
      | exact .ite (fun _ => .stuck) fun _ => Sim.intBits _ _ _ _
      | exact .ite (fun _ => .stuck) fun _ => Sim.intCmp _ _ _
  · split at hok
    · rename_i _ hk
      simp only [Bool.and_eq_true, beq_iff_eq] at hk
      cases x <;> first | (simp [kindOf] at hk; done) | skip
      cases y <;> first | (simp [kindOf] at hk; done) | skip
      obtain rfl := ix; obtain rfl := iy
      cases op <;> simp only [Go.binOp] <;> exact Sim.stringOp _ _ _
    · rename_i f1 f2
      simp only [Bool.and_eq_true, Bool.or_eq_true, beq_iff_eq, decide_eq_true_eq] at hok f1 f2
      obtain ⟨⟨f3, f4⟩, hop, hok⟩ := hok
      have he : EqOk C.P t x y := by
        rcases hok with ((⟨h1, h2⟩ | h1) | h1) | h1
        · exact .inl ⟨h1, h2⟩
        · exact .inr (.inl h1)
        · exact .inr (.inr (.inl h1))
        · refine .inr (.inr (.inr ?_))
          split at h1
          · rename_i e he; exact ⟨e, he⟩
          · cases h1
      have kx := kindOf_eq h
      have ky := kindOf_eq k
      obtain ⟨g1, g2⟩ := binOp_eql (t := t) f1 f2 f3 f4
      obtain ⟨g3, g4⟩ := binOp_eql (t := t) (x := x') (y := y') (by rw [kx, ky]; exact f1) (by rw [kx, ky]; exact f2) (by rw [kx]; exact f3) (by rw [ky]; exact f4)
      cases op <;> first | cases hop | skip
      · rw [g1, g3]; exact (Sim.equal he h k).bindX fun q l b => .pure fun _ _ => VR.bool _ _
      · rw [g2, g4]; exact (Sim.equal he h k).bindX fun q l b => .pure fun _ _ => VR.bool _ _

/-- What is asked of two values that are compared, ahead of that. -/
def guardOk (x y : Value) : Bool :=
  match x, y with
  | .agg _, .agg _ => flat1 x && flat1 y
  | _, _ => true
theorem eqGuard_none {op : BinOp} {t : TypeId} {a b : Operand} {x y : Value} (h1 : ¬ (nilOf x = 1 ∧ nilOf y = 1)) (h2 : ¬ (nilOf x = 2 ∧ nilOf y = 2)) : Go.eqGuard op t a b x y = Pure.pure () := by
  unfold Go.eqGuard
  cases x <;> cases y <;> first | exact (h1 ⟨rfl, rfl⟩).elim | exact (h2 ⟨rfl, rfl⟩).elim | exact ite_self _
theorem Sim.eqGuard {op : BinOp} {t : TypeId} {a b : Operand} {x x' y y' : Value} (hok : guardOk x y = true) (h : VR p x x') (k : VR p y y') : Sim C p EqA (Go.eqGuard op t a b x y) (Go.eqGuard op t a b x' y') := by
  by_cases h1 : nilOf x = 1 ∧ nilOf y = 1
  · have ix := h.inv
    have iy := k.inv
    cases x <;> first | (simp [nilOf] at h1; done) | skip
    cases y <;> first | (simp [nilOf] at h1; done) | skip
    obtain rfl := ix; obtain rfl := iy
    unfold Go.eqGuard
    refine .ite (fun _ => .pure fun _ _ => rfl) fun _ => ?_
    refine .ite (fun _ => .pure fun _ _ => rfl) fun _ => ?_
    refine (Sim.eqGuardIn _ _ rfl rfl).bindE fun q l b => ?_
    exact .ite (fun _ => .unsupported) fun _ => .pure fun _ _ => rfl
  · by_cases h2 : nilOf x = 2 ∧ nilOf y = 2
    · cases x <;> first | (simp [nilOf] at h2; done) | skip
      cases y <;> first | (simp [nilOf] at h2; done) | skip
      rename_i u v
      have hh : flat1 (.agg u) = true ∧ flat1 (.agg v) = true := by simpa only [guardOk, Bool.and_eq_true] using hok
      obtain rfl := flat_eq hh.1 h
      obtain rfl := flat_eq hh.2 k
      unfold Go.eqGuard
      refine .ite (fun _ => .pure fun _ _ => rfl) fun _ => ?_
      refine Sim.askProgram.bind fun q2 l2 P1 P2 hP => ?_
      obtain ⟨rfl, rfl⟩ := hP
      refine Sim.askProgram.bind fun q2 l2 P1 P2 hP => ?_
      obtain ⟨rfl, rfl⟩ := hP
      refine .ite (fun _ => .pure fun _ _ => rfl) fun _ => ?_
      refine (Sim.eqGuardIn _ _ hh.1 hh.2).bindE fun q l b => ?_
      exact .ite (fun _ => .unsupported) fun _ => .pure fun _ _ => rfl
    · rw [eqGuard_none h1 h2, eqGuard_none (by rw [nilOf_eq h, nilOf_eq k]; exact h1) (by rw [nilOf_eq h, nilOf_eq k]; exact h2)]
      exact .pure fun _ _ => rfl

theorem Sim.loopV {σ : Type} {f f' : Value → σ → Sem (ForInStep σ)} : ∀ (l l' : List Value) (s : σ), Arr (VR p) l.toArray l'.toArray →
    (∀ q, Le p q → ∀ u v r, VR q u v → Sim C q EqA (f u r) (f' v r)) → Sim C p EqA (forIn l s f) (forIn l' s f') := by
  intro l
  induction l generalizing p with
  | nil =>
    intro l' s h _
    obtain rfl := List.eq_nil_of_length_eq_zero (l := l') (by simpa using h.1.symm)
    exact .pure fun _ _ => rfl
  | cons x l ih =>
    intro l' s h k
    cases l' with
    | nil => simp [Arr] at h
    | cons y l' =>
      rw [List.forIn_cons, List.forIn_cons]
      refine (k p (Le.refl _) x y s (h.2 0 x y (by simp) (by simp))).bindX fun q l1 v => ?_
      cases v with
      | done b => exact .pure fun _ _ => rfl
      | yield b =>
        refine ih l' b ⟨by simpa using h.1, fun j u v e f => (h.2 (j + 1) u v (by simpa using e) (by simpa using f)).le l1⟩ fun q1 l2 => k q1 (l1.trans l2)
theorem Sim.bytesToString {x x' : Value} (h : VR p x x') : Sim C p VR (Conv.bytesToString x) (Conv.bytesToString x') := by
  unfold Conv.bytesToString
  have ix := h.inv
  split
  · obtain rfl := ix
    exact .pure fun _ _ => VR.str _ _
  · obtain ⟨b, c', rfl, hab, _⟩ := ix
    dsimp only
    refine (Sim.loadCells hab _).bind fun q l x y hx => ?_
    refine Sim.bindX (e := forIn x ByteArray.empty _) (e' := forIn y ByteArray.empty _) ?_ fun q1 l1 s => .pure fun _ _ => VR.str _ _
    rw [← Array.forIn_toList, ← Array.forIn_toList]
    refine Sim.loopV _ _ _ (by simpa using hx) fun q1 l1 u v r huv => ?_
    have i := huv.inv
    split
    · obtain rfl := i; exact .pure fun _ _ => rfl
    · exact .no fun s => rfl
  · exact .stuck

/-- What a conversion may be. -/
def convOk (P : Program) (s d : TypeId) (x : Value) : Bool :=
  match P.underlying s, P.underlying d, x with
  | _, some (.int _), .int _ _ => true
  | _, some .string, .int _ _ => true
  | _, some .string, .string _ => true
  | some (.slice e), some .string, .slice _ _ _ => (match P.underlying e with | some (.int .u8) => true | _ => false)
  | _, _, _ => false
theorem Sim.convert {s d : TypeId} {x x' : Value} (hok : convOk C.P s d x = true) (h : VR p x x') : Sim C p VR (Go.convert s d x) (Go.convert s d x') := by
  unfold Go.convert
  have ix := h.inv
  refine (Sim.under _).bind fun q l a b hab => ?_
  obtain ⟨rfl, ha⟩ := hab
  refine (Sim.under _).bind fun q1 l1 b b' hb => ?_
  obtain ⟨rfl, hb⟩ := hb
  unfold convOk at hok
  rw [ha, hb] at hok
  split at hok
  · rename_i h2
    cases h2
    obtain rfl := ix
    cases a <;> exact .pure fun _ _ => VR.int _ _ _
  · rename_i h2
    cases h2
    obtain rfl := ix
    cases a <;> exact .pure fun _ _ => VR.str _ _
  · rename_i h2
    cases h2
    obtain rfl := ix
    cases a <;> exact .pure fun _ _ => VR.str _ _
  · rename_i h1 h2
    cases h1; cases h2
    rename_i e a n m
    have fin : Sim C q1 VR (do match ← underlying e with | .int .u8 => Conv.bytesToString (.slice a n m) | .int .i32 => Conv.runesToString (.slice a n m) | _ => Go.stuck "Convert: a slice of what to string?") (do match ← underlying e with | .int .u8 => Conv.bytesToString x' | .int .i32 => Conv.runesToString x' | _ => Go.stuck "Convert: a slice of what to string?") := by
      refine (Sim.under _).bind fun q2 l2 b b' hb => ?_
      obtain ⟨rfl, hb⟩ := hb
      rw [hb] at hok
      split at hok
      · rename_i h1; cases h1; exact Sim.bytesToString (((h.le l).le l1).le l2)
      · cases hok
    cases a with
    | none => obtain rfl := ix; exact fin
    | some a => obtain ⟨b, c', rfl, _⟩ := ix; exact fin
  · cases hok

theorem Sim.lenOf {x x' : Value} (h : VR p x x') : Sim C p EqA (Builtin.lenOf x) (Builtin.lenOf x') := by
  unfold Builtin.lenOf
  have ix := h.inv
  split
  · rename_i a n c
    cases a with
    | none => obtain rfl := ix; exact .pure fun _ _ => rfl
    | some a => obtain ⟨b, c', rfl, _⟩ := ix; exact .pure fun _ _ => rfl
  · obtain rfl := ix; exact .pure fun _ _ => rfl
  · exact .stuck
theorem Arr.same {x : Array Value} (h : ∀ v ∈ x, leaf v = true) : Arr (VR p) x x := Arr.flat (List.all_eq_true.2 fun v hv => h v (by simpa using hv))
theorem Sim.firstCells {x x' : Value} (h : VR p x x') (size n : Nat) : Sim C p ArrA (Builtin.firstCells size n x) (Builtin.firstCells size n x') := by
  unfold Builtin.firstCells
  have ix := h.inv
  split
  · obtain ⟨b, c', rfl, hab, _⟩ := ix; exact Sim.loadCells hab _
  · obtain rfl := ix; exact .pure fun _ _ => .nil
  · obtain rfl := ix
    refine .pure fun q l => Arr.same fun v hv => ?_
    simp only [Array.mem_map] at hv
    obtain ⟨b, _, rfl⟩ := hv
    rfl
  · exact .stuck

theorem Sim.len {args args' : Array Value} (h : Arr (VR p) args args') (ts : Array TypeId) (t : TypeId) : Sim C p VR (Builtin.len_ ts t args) (Builtin.len_ ts t args') := by
  unfold Builtin.len_
  cases e0 : args[0]? with
  | none => exact .no fun s => by cases ts[0]? <;> rfl
  | some m =>
    obtain ⟨m', e0', hm⟩ := h.get e0
    rw [e0']
    cases ts[0]? with
    | none => exact .stuck
    | some mt =>
      dsimp only
      refine (Sim.underE _).bindE fun q lq d => ?_
      have hm := hm.le lq
      have ix := hm.inv
      split
      · obtain rfl := ix; exact .pure fun _ _ => VR.int _ _ _
      · exact .pure fun _ _ => VR.int _ _ _
      · refine (Sim.underE _).bindE fun q1 l1 d => ?_
        split
        · exact .pure fun _ _ => VR.int _ _ _
        · exact .stuck
      · rename_i a n c _
        cases a with
        | none => obtain rfl := ix; exact .pure fun _ _ => VR.int _ _ _
        | some a => obtain ⟨b, c', rfl, _⟩ := ix; exact .pure fun _ _ => VR.int _ _ _
      · obtain rfl := ix; exact .pure fun _ _ => VR.int _ _ _
      · obtain rfl := ix; exact .pure fun _ _ => VR.int _ _ _
      · obtain ⟨r', kk, rfl, hr⟩ := ix
        refine (Sim.getObj hr).bind fun q1 l1 o o' ho => ?_
        obtain ⟨h1, h2⟩ := ho
        cases o with
        | map es cl =>
          obtain ⟨es', rfl, he⟩ := h1
          dsimp only
          rw [he.1]
          exact .pure fun _ _ => VR.int _ _ _
        | _ => exact .stuck
      · exact ix.elim
      · exact .stuck

theorem Sim.copy {args args' : Array Value} (h : Arr (VR p) args args') (ts : Array TypeId) (t : TypeId) : Sim C p VR (Builtin.copy_ ts t args) (Builtin.copy_ ts t args') := by
  unfold Builtin.copy_
  cases e0 : args[0]? with
  | none => exact .no fun s => by cases ts[0]? <;> rfl
  | some m =>
    cases e1 : args[1]? with
    | none => exact .no fun s => by cases ts[0]? <;> rfl
    | some k =>
      obtain ⟨m', e0', hm⟩ := h.get e0
      obtain ⟨k', e1', hk⟩ := h.get e1
      rw [e0', e1']
      cases ts[0]? with
      | none => exact .stuck
      | some mt =>
        dsimp only
        refine (Sim.underE _).bindE fun q lq d => ?_
        have hm := hm.le lq
        have hk := hk.le lq
        have ix := hm.inv
        split
        · split
          · rename_i a n c _
            cases a with
            | none =>
              obtain rfl := ix
              refine (Sim.lenOf hk).bindX fun q1 l1 n1 => ?_
              refine (Sim.sizeOf _).bindE fun q2 l2 n2 => ?_
              exact (Sim.firstCells ((hk.le l1).le l2) _ _).bind fun q3 l3 x y hx => .pure fun _ _ => VR.int _ _ _
            | some a =>
              obtain ⟨b, c', rfl, hab, _⟩ := ix
              refine (Sim.lenOf hk).bindX fun q1 l1 n1 => ?_
              refine (Sim.sizeOf _).bindE fun q2 l2 n2 => ?_
              refine (Sim.firstCells ((hk.le l1).le l2) _ _).bind fun q3 l3 x y hx => ?_
              exact (Sim.storeCells _ _ (((hab.le l1).le l2).le l3) (by simpa using hx) 0).bind fun q4 l4 _ _ _ => .pure fun _ _ => VR.int _ _ _
          · exact .stuck
        · exact .stuck

/-- The greatest, the least of numbers alone. -/
def allInts (args : Array Value) : Bool := args.toList.all fun v => match v with | .int _ _ => true | _ => false
theorem Sim.intsFold {f : Value → Value → Sem Value} (hf : ∀ k x j y, ∃ k' z, f (.int k x) (.int j y) = Pure.pure (.int k' z)) : ∀ (l : List Value) (v : Value), (∃ k x, v = .int k x) → (∀ u ∈ l, ∃ k x, u = .int k x) → ∃ k x, l.foldlM f v = (Pure.pure (.int k x) : Sem Value) := by
  intro l
  induction l with
  | nil => rintro v ⟨k, x, rfl⟩ _; exact ⟨k, x, rfl⟩
  | cons u l ih =>
    rintro v ⟨k, x, rfl⟩ h
    obtain ⟨j, y, rfl⟩ := h u (by simp)
    obtain ⟨k', z, e⟩ := hf k x j y
    rw [List.foldlM_cons, e, pure_bind]
    exact ih _ ⟨k', z, rfl⟩ fun u hu => h u (by simp [hu])
theorem ints_eq {args args' : Array Value} (hk : allInts args = true) (h : Arr (VR p) args args') : args' = args := by
  refine leafs_eq ?_ h
  refine List.all_eq_true.2 fun v hv => ?_
  have := List.all_eq_true.1 hk v hv
  cases v <;> first | rfl | cases this
theorem Sim.max {args args' : Array Value} (hk : allInts args = true) (h : Arr (VR p) args args') (ts : Array TypeId) (t : TypeId) : Sim C p VR (Builtin.max_ ts t args) (Builtin.max_ ts t args') := by
  obtain rfl := ints_eq hk h
  unfold Builtin.max_
  have hi : ∀ u ∈ args'.toList, ∃ k x, u = .int k x := by
    intro u hu
    have := List.all_eq_true.1 hk u hu
    cases u <;> first | exact ⟨_, _, rfl⟩ | cases this
  cases e : args'.toList with
  | nil => exact .stuck
  | cons x rest =>
    rw [e] at hi
    obtain ⟨k, n, e2⟩ := Sim.intsFold (f := Builtin.max2) (fun k x j y => ⟨k, _, rfl⟩) rest x (hi x (by simp)) fun u hu => hi u (by simp [hu])
    dsimp only
    rw [e2]
    exact .pure fun _ _ => VR.int _ _ _
theorem Sim.min {args args' : Array Value} (hk : allInts args = true) (h : Arr (VR p) args args') (ts : Array TypeId) (t : TypeId) : Sim C p VR (Builtin.min_ ts t args) (Builtin.min_ ts t args') := by
  obtain rfl := ints_eq hk h
  unfold Builtin.min_
  have hi : ∀ u ∈ args'.toList, ∃ k x, u = .int k x := by
    intro u hu
    have := List.all_eq_true.1 hk u hu
    cases u <;> first | exact ⟨_, _, rfl⟩ | cases this
  cases e : args'.toList with
  | nil => exact .stuck
  | cons x rest =>
    rw [e] at hi
    obtain ⟨k, n, e2⟩ := Sim.intsFold (f := Builtin.min2) (fun k x j y => ⟨k, _, rfl⟩) rest x (hi x (by simp)) fun u hu => hi u (by simp [hu])
    dsimp only
    rw [e2]
    exact .pure fun _ _ => VR.int _ _ _

theorem Sim.clear (hz : Zok C.P) {args args' : Array Value} (h : Arr (VR p) args args') (ts : Array TypeId) (t : TypeId) : Sim C p VR (Builtin.clear_ ts t args) (Builtin.clear_ ts t args') := by
  unfold Builtin.clear_
  cases e0 : args[0]? with
  | none => exact .no fun s => by cases ts[0]? <;> rfl
  | some x =>
    obtain ⟨x', e1, hx⟩ := h.get e0
    rw [e1]
    cases ts[0]? with
    | none => exact .stuck
    | some t0 =>
      dsimp only
      refine (Sim.underE t0).bindE fun q l d => ?_
      have hx := hx.le l
      have i := hx.inv
      cases x with
      | map r =>
        cases r with
        | none => obtain rfl := i; exact .pure fun _ _ => VR.undef _
        | some r =>
          obtain ⟨r', k, rfl, hr⟩ := i
          refine Sim.entries (f := fun es cl => do Go.setObj r (.map #[] cl); Pure.pure (Value.tuple #[])) (f' := fun es cl => do Go.setObj r' (.map #[] cl); Pure.pure (Value.tuple #[])) (g := do Go.stuck "clear: map expected"; Pure.pure (Value.tuple #[])) (g' := do Go.stuck "clear: map expected"; Pure.pure (Value.tuple #[])) hr (fun _ => rfl) fun q2 l2 es es' cl he _ => ?_
          exact (Sim.setMap (l2 _ _ hr) fun _ _ => ⟨rfl, by simp⟩).bind fun q3 l3 _ _ _ => .pure fun _ _ => VR.undef _
      | slice a n c =>
        cases a with
        | none => obtain rfl := i; exact .pure fun _ _ => VR.undef _
        | some a =>
          obtain ⟨b, c', rfl, hab, _⟩ := i
          cases n with
          | zero => exact .pure fun _ _ => VR.undef _
          | succ n =>
            cases d with
            | slice e =>
              refine (Sim.zero hz e).bind fun q2 l2 z z' hzz => ?_
              refine Sim.bind (Sim.storeCells _ _ (hab.le l2) ?_ 0) fun q3 l3 _ _ _ => .pure fun _ _ => VR.undef _
              have := zeroMap_rel hzz.cells ((n + 1) * z.cells.size)
              simp only [Array.toArray_toList]
              unfold Builtin.zeroCells
              have e := hzz.cells.1
              rw [show (n + 1) * z'.cells.size = (n + 1) * z.cells.size by rw [e]]
              exact this
            | _ => exact .no fun _ => rfl
      | _ => exact .no fun _ => rfl

/-- What an operation answers, by names, and in memory. -/
def DR (p : Rn) (d e : Deferred) : Prop := ∃ f x x', d.target = .fn f x ∧ e.target = .fn f x' ∧ noYield f = true ∧ Arr (VR p) x x' ∧ Arr (VR p) d.args e.args
theorem DR.le {q : Rn} {d e : Deferred} (h : DR p d e) (l : Le p q) : DR q d e := by
  obtain ⟨f, x, x', h1, h2, h3, h4, h5⟩ := h
  exact ⟨f, x, x', h1, h2, h3, h4.le l, h5.le l⟩
def NA : Rn → Next → Next → Prop
  | q, .value v, .value v' => VR q v v'
  | _, .skip, .skip => True
  | q, .enter f x, .enter g y => f = g ∧ Arr (VR q) x y
  | q, .defer d, .defer e => DR q d e
  | _, .recover, .recover => True
  | _, _, _ => False
theorem NA.le {q : Rn} {d e : Next} (h : NA p d e) (l : Le p q) : NA q d e := by
  cases d <;> cases e <;> first | exact h.elim | exact VR.le h l | exact ⟨h.1, Arr.le h.2 l⟩ | exact DR.le h l | exact h

theorem Sim.val {e e' : Sem Value} (h : Sim C p VR e e') : Sim C p NA (do Pure.pure (.value (← e))) (do Pure.pure (.value (← e'))) := h.bind fun q l v v' hv => .pure fun q1 l1 => hv.le l1
theorem Sim.unitN {e e' : Sem Unit} (h : Sim C p (fun _ _ _ => True) e e') : Sim C p NA (do e; Pure.pure .skip) (do e'; Pure.pure .skip) := h.bind fun q l v v' hv => .pure fun q1 l1 => trivial

def builtinOk (b : Builtin) (args : Array Value) : Bool :=
  match b with
  | .len | .copy | .recover | .clear => true
  | .delete => (match args[1]? with | some k => flat1 k | none => true)
  | .max | .min => allInts args
  | _ => false
theorem Sim.builtin (hz : Zok C.P) {b : Builtin} {args args' : Array Value} (hok : builtinOk b args = true) (h : Arr (VR p) args args') (ts : Array TypeId) (t : TypeId) (cs : Array Bool) : Sim C p NA (Go.builtin b ts t cs args) (Go.builtin b ts t cs args') := by
  unfold Go.builtin
  unfold builtinOk at hok
  cases b <;> first | (cases hok; done) | skip
  · exact (Sim.clear hz h ts t).val
  · exact (Sim.copy h ts t).val
  · refine (Sim.delete h (fun k hk => ?_) ts t).val
    simp only [hk] at hok
    exact hok
  · exact (Sim.len h ts t).val
  · exact (Sim.max hok h ts t).val
  · exact (Sim.min hok h ts t).val
  · exact .pure fun _ _ => trivial

/-- What the plain run takes upon itself. -/
def opOk (P : Program) (v : Operand → Value) (o : Oper) : Bool :=
  match o.op with
  | .buildSlice _ n _ => decide (n < unk)
  | .move _ | .assign _ | .pick _ _ _ | .alloc _ | .box _ _ | .build _ _ | .load _ _ | .store _ _ _ | .unOp _ _ _ | .makeInterface _ _ | .makeMap _ _ | .makeSlice _ _ _ | .fieldAddr _ _ _ | .field _ _ _ | .indexAddr _ _ _ | .index _ _ _
  | .entryStore _ _ _ _ | .range _ _ | .next _ _ | .entry _ | .typeAssert _ _ _ _ | .extract _ _ => true
  | .nilCheck x => (match v x with | .func (.method _) _ _ => false | _ => true)
  | .binOp op t x y _ => guardOk (v x) (v y) && binOk P op t (v x) (v y)
  | .convert s d x => convOk P s d (v x)
  | .makeFunc f _ _ => noYield f
  | .slice t x _ _ _ => known (v x) && (match P.underlying t with | some (.pointer _) => false | some (.array n _) => decide (n < unk) | _ => true)
  | .lookup _ _ k _ | .mapUpdate _ _ k _ | .insert _ _ k _ | .mapEntry _ _ k => flat1 (v k)
  | .panic x => (match v x with | .iface _ _ => true | _ => false)
  | .call { callee := .builtin b, args, .. } => builtinOk b (args.map v)
  | _ => false

theorem Sim.exec (hz : Zok C.P) {v v' : Operand → Value} {o : Oper} (hok : opOk C.P v o = true) (h : ∀ x ∈ o.op.operands, VR p (v x) (v' x)) : Sim C p NA (execOp v o) (execOp v' o) := by
  unfold execOp
  unfold opOk at hok
  have OVm : ∀ (x : Option Operand), (∀ y, x = some y → VR p (v y) (v' y)) → OV p (x.map v) (x.map v') := by
    intro x hx
    cases x with
    | none => trivial
    | some y => exact hx y rfl
  have PLm : ∀ (ps : Array (Nat × Operand)), (∀ x ∈ ps, VR p (v x.2) (v' x.2)) → PL p (ps.map fun (i, x) => (i, v x)).toList (ps.map fun (i, x) => (i, v' x)).toList := by
    intro ps hp
    refine ⟨by simp, fun i a b ea eb => ?_⟩
    simp only [Array.toList_map, List.getElem?_map, Option.map_eq_some_iff] at ea eb
    obtain ⟨x, hx, rfl⟩ := ea
    obtain ⟨y, hy, rfl⟩ := eb
    rw [hx] at hy; cases hy
    exact ⟨rfl, hp x (by simpa using List.mem_of_getElem? hx)⟩
  cases e : o.op with
  | move x => rw [e] at h; exact .pure fun q l => (h x (by simp [Op.operands])).le l
  | assign x => rw [e] at h; exact .pure fun q l => (h x (by simp [Op.operands])).le l
  | pick c a b =>
    rw [e] at h
    refine (Sim.asBool (h c (by simp [Op.operands]))).bindX fun q l t => .pure fun q1 l1 => ?_
    have ha := ((h a (by simp [Op.operands])).le l).le l1
    have hb := ((h b (by simp [Op.operands])).le l).le l1
    cases t
    · exact hb
    · exact ha
  | alloc t => exact (Sim.alloc hz t).val
  | box t x => rw [e] at h; exact (Sim.box (h x (by simp [Op.operands])) t).val
  | build t ps =>
    rw [e] at h
    refine (Sim.build hz t (PLm ps fun x hx => h x.2 ?_)).val
    simp only [Op.operands, List.mem_toArray, List.mem_map]
    exact ⟨x, by simpa using hx, rfl⟩
  | buildSlice t n ps =>
    rw [e] at h hok
    refine (Sim.buildSlice hz t n (by simpa using hok) (PLm ps fun x hx => h x.2 ?_)).val
    simp only [Op.operands, List.mem_toArray, List.mem_map]
    exact ⟨x, by simpa using hx, rfl⟩
  | insert t m k x =>
    rw [e] at h hok
    exact (Sim.mapUpdate (h m (by simp [Op.operands])) (h k (by simp [Op.operands])) hok (h x (by simp [Op.operands])) t).unitN
  | load t a => rw [e] at h; exact (Sim.loadAt (h a (by simp [Op.operands])) t).val
  | store t a x => rw [e] at h; exact (Sim.storeAt (h a (by simp [Op.operands])) (h x (by simp [Op.operands])) t).unitN
  | nilCheck x =>
    rw [e] at h hok
    have hx := h x (by simp [Op.operands])
    have ix := hx.inv
    dsimp only at hok ⊢
    generalize v x = u at *
    generalize v' x = u' at *
    cases u with
    | pointer a => cases a with
      | none => obtain rfl := ix; exact (Sim.runtimePanic _)
      | some a => obtain ⟨b, rfl, _⟩ := ix; exact .pure fun q l => hx.le l
    | nilIface => obtain rfl := ix; exact (Sim.runtimePanic _)
    | nilFunc => obtain rfl := ix; exact (Sim.runtimePanic _)
    | func f x y =>
      obtain ⟨x', y', rfl, _⟩ := ix
      cases f <;> first | (cases hok; done) | exact .pure fun q l => hx.le l
    | agg x => obtain ⟨x', rfl, a⟩ := ix; exact .pure fun q l => hx.le l
    | slice a l c => cases a with
      | none => obtain rfl := ix; exact .pure fun q l => hx.le l
      | some a => obtain ⟨b, c', rfl, _⟩ := ix; exact .pure fun q l => hx.le l
    | map r => cases r with
      | none => obtain rfl := ix; exact .pure fun q l => hx.le l
      | some r => obtain ⟨b, c', rfl, _⟩ := ix; exact .pure fun q l => hx.le l
    | chan r => cases r with
      | none => obtain rfl := ix; exact .pure fun q l => hx.le l
      | some r => exact ix.elim
    | iface t u => obtain ⟨x', rfl, _⟩ := ix; exact .pure fun q l => hx.le l
    | tuple x => obtain ⟨x', rfl, _⟩ := ix; exact .pure fun q l => hx.le l
    | bool b => obtain rfl := ix; exact .pure fun q l => hx.le l
    | int k n => obtain rfl := ix; exact .pure fun q l => hx.le l
    | float k n => obtain rfl := ix; exact .pure fun q l => hx.le l
    | complex k n m => obtain rfl := ix; exact .pure fun q l => hx.le l
    | string s => obtain rfl := ix; exact .pure fun q l => hx.le l
  | binOp op t x y u =>
    rw [e] at h hok
    simp only [Bool.and_eq_true] at hok
    have hx := h x (by simp [Op.operands])
    have hy := h y (by simp [Op.operands])
    exact ((Sim.eqGuard hok.1 hx hy).bindX fun q l _ => Sim.binOp hok.2 (hx.le l) (hy.le l)).val
  | unOp op t x => rw [e] at h; exact (Sim.unary op (h x (by simp [Op.operands]))).val
  | convert s d x => rw [e] at h hok; exact (Sim.convert hok (h x (by simp [Op.operands]))).val
  | makeInterface t x => rw [e] at h; exact (Sim.makeInterface (h x (by simp [Op.operands])) t).val
  | makeFunc f x y =>
    rw [e] at h hok
    exact (Sim.makeFunc f hok (Arr.map fun z hz => h z (by simp [Op.operands, hz])) (Arr.map fun z hz => h z (by simp [Op.operands, hz]))).val
  | makeMap t r =>
    rw [e] at h
    refine (Sim.makeMap t (OVm r fun y hy => h y ?_)).val
    simp [Op.operands, hy]
  | makeSlice t a b => rw [e] at h; exact (Sim.makeSlice hz (h a (by simp [Op.operands])) (h b (by simp [Op.operands])) t).val
  | slice t x lo hi mx =>
    rw [e] at h hok
    simp only [Bool.and_eq_true] at hok
    refine (Sim.sliceAt hok.1 (fun e he => ?_) (fun n e he => ?_) (h x (by simp [Op.operands])) (OVm lo fun y hy => h y ?_) (OVm hi fun y hy => h y ?_) (OVm mx fun y hy => h y ?_)).val
    · have := hok.2; rw [he] at this; cases this
    · have := hok.2; rw [he] at this; simpa using this
    all_goals simp [Op.operands, hy]
  | fieldAddr t x f => rw [e] at h; exact (Sim.fieldAt (h x (by simp [Op.operands])) t f).val
  | field t x f => rw [e] at h; exact (Sim.field (h x (by simp [Op.operands])) t f).val
  | indexAddr t x i => rw [e] at h; exact (Sim.indexAt (h x (by simp [Op.operands])) (h i (by simp [Op.operands])) t).val
  | index t x i => rw [e] at h; exact (Sim.index (h x (by simp [Op.operands])) (h i (by simp [Op.operands])) t).val
  | lookup t x i ok => rw [e] at h hok; exact (Sim.lookup hz (h x (by simp [Op.operands])) (h i (by simp [Op.operands])) hok t ok).val
  | mapUpdate t m k x =>
    rw [e] at h hok
    exact (Sim.mapUpdate (h m (by simp [Op.operands])) (h k (by simp [Op.operands])) hok (h x (by simp [Op.operands])) t).unitN
  | mapEntry t m k => rw [e] at h hok; exact (Sim.mapEntry hz (h m (by simp [Op.operands])) (h k (by simp [Op.operands])) hok t).val
  | entryStore t m k x =>
    rw [e] at h
    exact (Sim.entryStore (h m (by simp [Op.operands])) (h k (by simp [Op.operands])) (h x (by simp [Op.operands])) t).unitN
  | range t x => rw [e] at h; exact (Sim.range (h x (by simp [Op.operands])) t).val
  | next x b => rw [e] at h; exact (Sim.next (h x (by simp [Op.operands])) b _).val
  | entry x => rw [e] at h; exact (Sim.entry (h x (by simp [Op.operands]))).val
  | typeAssert x t u ok => rw [e] at h; exact (Sim.typeAssert hz (h x (by simp [Op.operands])) t u ok).val
  | extract x i => rw [e] at h; exact (Sim.extract (h x (by simp [Op.operands])) i).val
  | panic x =>
    rw [e] at h hok
    have hx := h x (by simp [Op.operands])
    have ix := hx.inv
    dsimp only at hok ⊢
    generalize v x = u at *
    generalize v' x = u' at *
    cases u <;> first | (cases hok; done) | skip
    obtain ⟨y, rfl, hy⟩ := ix
    exact (Sim.panic (A := VR) fun _ q l => hx.le l).val
  | call c =>
    rw [e] at h hok
    obtain ⟨cal, args, ts⟩ := c
    cases cal <;> first | (cases hok; done) | skip
    refine Sim.builtin hz hok (Arr.map fun z hz => h z ?_) _ _ _
    simp [Op.operands, Call.operands, hz]
  | _ => rw [e] at hok; cases hok
end
end Go.Ex

/-
 Codes and calls, by names of blocks, and in memory.
 Conditions: as each theorem says. (No program is named here.)
-/
import Derived.Test.YtpboencfnjmmbaaGreatDoorZXc
set_option linter.unusedVariables false
namespace Go.Ex
open Go.RowKit
theorem Loc.logged {β : Type} {m : M β} (h : Loc m) : Loc (logged m) := by
 intro s b s' hs
 unfold Ex.logged at hs
 cases e : m { s with rd := [], wr := [] } with
 | none => rw [e] at hs; cases hs
 | some x =>
  obtain ⟨c, s1⟩ := x
  rw [e] at hs
  simp only [Option.some.injEq, Prod.mk.injEq] at hs
  obtain ⟨rfl, rfl⟩ := hs
  obtain ⟨r, w, g1, g2, g3, g3t, g3r, g4, g5⟩ := h _ _ _ e
  simp only [List.append_nil] at g1 g2
  refine ⟨r, w, by rw [← g1], by rw [← g2], g3, g3t, g3r, g4, fun t ht htt hag => ?_⟩
  obtain ⟨t', f1, f2, f2t, f3, f4, f5⟩ := g5 { t with rd := [], wr := [] } ht htt hag
  simp only [List.append_nil] at f3 f4
  refine ⟨{ t' with rd := t'.rd ++ t.rd, wr := t'.wr ++ t.wr }, ?_, f2, f2t, by rw [← f3], by rw [← f4], f5⟩
  unfold Ex.logged
  rw [f1]
  simp only [ht, f2, f3, f4, g1, g2]
theorem Loc.dgo {E : Env} {call : Call} (h : ∀ f args, Loc (call f args)) (ops : Array Oper) : ∀ (l : List Oper) (a : AA) (acc : List Rec), Loc (dgo E call ops l a acc) := by
 intro l
 induction l with
 | nil => intro a acc; exact .ret _
 | cons o l ih =>
  intro a acc
  unfold Ex.dgo
  refine .ite .no ((Loc.logged (Loc.dstep h _ _ _)).bind fun r => ?_)
  cases a.put o.dst r.1 with
  | none => exact .no
  | some a' => exact ih _ _
theorem Loc.draw {E : Env} {call : Call} (h : ∀ f args, Loc (call f args)) (ops : Array Oper) (a : AA) : Loc (adraw E call ops a) := by
 refine (Loc.ite (c := shapely ops = true) ((Loc.dgo (E := E) h ops ops.toList a []).bind (f := fun x => if (unord ops.toList).all fun y => compat (x.2.getD y.1 ⟨0, 0, [], []⟩) (x.2.getD y.2 ⟨0, 0, [], []⟩) then mret x.1 else mno) fun x => .ite (.ret _) .no) Loc.no).congr fun s => ?_
 unfold adraw
 by_cases hs : shapely ops = true
 ·rw [if_pos hs, if_pos hs]
  unfold mb
  cases Ex.dgo E call ops ops.toList a [] s with
  | none => rfl
  | some x =>
   obtain ⟨⟨a', rs⟩, s'⟩ := x
   dsimp only
   split <;> rfl
 ·rw [if_neg hs, if_neg hs]; rfl
theorem Loc.region {E : Env} {call : Call} (h : ∀ f args, Loc (call f args)) (ops : Array Oper) : ∀ (l : List Oper) (a : AA), Loc (aregion E call ops l a) := by
 intro l
 induction l with
 | nil => intro a; exact .ret _
 | cons o l ih =>
  intro a
  unfold aregion
  cases aguard ops a o with
  | none => exact .no
  | some t =>
   cases t with
   | true =>
    refine (Loc.step h _ _).bind fun r => ?_
    cases r with
    | error c => exact .ret _
    | ok a' => exact ih _
   | false =>
    refine (Loc.put _ _ _).bind fun r => ?_
    cases r with
    | error c => exact .no
    | ok a' => exact ih _
theorem Loc.loop {f : AA → M (Exit × AA)} (h : ∀ a, Loc (f a)) : ∀ (n : Nat) (a : AA), Loc (aloop f n a) := by
 intro n
 induction n with
 | zero => intro a; exact .no
 | succ n ih =>
  intro a
  unfold aloop
  refine (h a).bind fun r => ?_
  cases r.1 <;> first | exact ih _ | exact .ret _
theorem Loc.code {E : Env} {call : Call} (h : ∀ f args, Loc (call f args)) : ∀ (c : Code) (a : AA), Loc (acode E call c a) := by
 intro c
 induction c with
 | skip => intro a; exact .ret _
 | label l => intro a; exact .ret _
 | exit id => intro a; exact .ret _
 | goto l => intro a; exact .ret _
 | ret => intro a; exact .ret _
 | seq x y ihx ihy =>
  intro a
  unfold acode
  refine (ihx a).bind fun r => ?_
  cases r.1 <;> first | exact ihy _ | exact .ret _
 | cond c x y ihx ihy =>
  intro a
  unfold acode
  split
  ·exact ihx a
  ·exact ihy a
  ·exact .no
 | block id b ih =>
  intro a
  unfold acode
  refine (ih a).bind fun r => ?_
  split
  ·exact .ite (.ret _) (.ret _)
  ·exact .ret _
 | loop b ih => intro a; exact Loc.loop ih _ _
 | scope b ih =>
  intro a
  unfold acode
  refine (ih a).bind fun r => ?_
  split
  ·exact .no
  ·exact .ret _
 | region id ops draw =>
  intro a
  unfold acode
  refine .ite ((Loc.draw h _ _).bind fun _ => .ret _) ((Loc.region h _ _ _).bind fun r => ?_)
  cases r with
  | ok a' => exact .ret _
  | error x => obtain ⟨c, a'⟩ := x; exact .ret _
 | rangeFunc f ps x y => intro a; exact .no
 | refuse w => intro a; exact .no
def ExR (q : Rn) : Exit → Exit → Prop
 | .normal, .normal => True
 | .exit i, .exit j => i = j
 | .goto i, .goto j => i = j
 | .ret, .ret => True
 | .panic c, .panic d => ChR q c d
 | _, _ => False
theorem ExR.le {p q : Rn} (l : Le p q) {e e' : Exit} (h : ExR p e e') : ExR q e e' := by
 cases e <;> cases e' <;> first | exact h | exact ChR.le l h
def Post (E : Env) (B : Bs) (p : Rn) (s' : St) (r : Exit × AA) : Exit → Act → World → Prop := fun e b w => ∃ q, Le p q ∧ WE E B q s' w ∧ ExR q r.1 e ∧ ARL q r.2 b
theorem Post.le {E : Env} {B : Bs} {p q : Rn} {s' : St} {r : Exit × AA} (l : Le p q) {e : Exit} {b : Act} {w : World} (h : Post E B q s' r e b w) : Post E B p s' r e b w := by
 obtain ⟨q', l', h⟩ := h; exact ⟨q', l.trans l', h⟩
section
variable {E : Env} {B : Bs} {call : Call} {p : Rn} {s s' : St} {w : World} {a a' : AA} {b : Act}
theorem region_sound (hE : Good E) (hcall : CallOk E B call) {ops : Array Oper} {Q : Exit → Act → World → Prop} : ∀ (l : List Oper) {p : Rn} {s : St} {w : World} {a : AA} {b : Act} {r : Except (Chain × AA) AA}, WE E B p s w → ARL p a b → aregion E call ops l a s = some (r, s') →
 (∀ q w' a' b', Le p q → WE E B q s' w' → r = .ok a' → ARL q a' b' → Q .normal b' w') → (∀ q w' c c' a' b', Le p q → WE E B q s' w' → r = .error (c, a') → ChR q c c' → ARL q a' b' → Q (.panic c') b' w') → wpList E.P ops Q l b w := by
 intro l
 induction l with
 | nil => intro p s w a b r hw ha h h1 _; cases h; exact h1 p w a b (Le.refl _) hw rfl ha
 | cons o l ih =>
  intro p s w a b r hw ha h h1 h2
  unfold aregion at h
  cases hg : aguard ops a o with
  | none => rw [hg] at h; cases h
  | some t =>
   rw [hg] at h
   have hwant := guard_rel ha hg
   unfold wpList
   cases t with
   | true =>
    obtain ⟨r1, s1, h3, h4⟩ := mb_some h
    rw [if_pos hwant]
    left
    refine step_sound hE hcall hw ha h3 ⟨fun q w' a1 a0 b0 v v' l1 hw' hr har hpu hv _ => ?_, fun q w' c c' l1 hw' hr hc => ?_⟩
    ·subst hr
     exact ih hw' (put_rel har hpu hv) h4 (fun q' w2 a2 b2 l2 => h1 q' w2 a2 b2 (l1.trans l2)) (fun q' w2 c c' a2 b2 l2 => h2 q' w2 c c' a2 b2 (l1.trans l2))
    ·subst hr; cases h4
     exact h2 q w' c c' a b l1 hw' rfl hc (ha.le l1)
   | false =>
    obtain ⟨r1, s1, h3, h4⟩ := mb_some h
    rw [if_neg (by rw [hwant]; simp)]
    obtain ⟨a1, e2, rfl, rfl⟩ := aput_some h3
    exact ih hw (put_rel ha e2 (VR.undef _)) h4 h1 h2
theorem wp_loop_fuel {P : Program} {c : Code} {Q : Exit → Act → World → Prop} {Gd : Nat → Act → World → Prop} (h0 : ∀ a w, ¬ Gd 0 a w) (hs : ∀ n a w, Gd (n + 1) a w → c.wp P (Exit.then (Gd n) Q) a w) (n : Nat) (a : Act) (w : World) (h : Gd n a w) : (Code.loop c).wp P Q a w := by
 intro b k cs
 have key : ∀ n a w, Gd n a w → ∃ e a' w', Q e a' w' ∧ Arrives P (lone (b.at a (.code c :: .inLoop c :: k)) cs w) b k cs e a' w' := by
  intro n
  induction n with
  | zero => intro a w h; exact (h0 a w h).elim
  | succ n ih =>
   intro a w h
   obtain ⟨e, a₁, w₁, hq, harr⟩ := hs n a w h b (.inLoop c :: k) cs
   cases e with
   | normal =>
    obtain ⟨e₂, a₂, w₂, hq₂, harr₂⟩ := ih a₁ w₁ hq
    exact ⟨e₂, a₂, w₂, hq₂, .of_steps (Steps.trans harr (.one step_inLoop)) harr₂⟩
   | exit id => exact ⟨_, a₁, w₁, hq, .pass (x := .inLoop c) rfl (fun _ _ => .inl (by simp)) harr⟩
   | goto l => exact ⟨_, a₁, w₁, hq, .pass (x := .inLoop c) rfl (fun _ _ => .inl (by simp)) harr⟩
   | ret => exact ⟨_, a₁, w₁, hq, .pass (x := .inLoop c) rfl (fun _ _ => .inl (by simp)) harr⟩
   | panic ch => exact ⟨_, a₁, w₁, hq, .pass (x := .inLoop c) rfl (fun _ _ => .inl (by simp)) harr⟩
   | outgrown => exact ⟨_, a₁, w₁, hq, .pass (x := .inLoop c) rfl (fun _ _ => .inl (by simp)) harr⟩
 obtain ⟨e, a', w', hq, harr⟩ := key n a w h
 exact ⟨e, a', w', hq, .of_steps (.one step_loop) harr⟩
theorem code_sound (hE : Good E) (hcall : CallOk E B call) (hloc : ∀ f args, Loc (call f args)) (hm : E.P.follows .mixedOrders = true) : ∀ (c : Code) {p : Rn} {s : St} {w : World} {a : AA} {b : Act} {r : Exit × AA} {s' : St}, WE E B p s w → ARL p a b → acode E call c a s = some (r, s') → c.wp E.P (Post E B p s' r) b w := by
 intro c
 induction c with
 | skip => intro p s w a b r s' hw ha h; cases h; exact wp_skip ⟨p, Le.refl _, hw, trivial, ha⟩
 | label l => intro p s w a b r s' hw ha h; cases h; exact wp_label ⟨p, Le.refl _, hw, trivial, ha⟩
 | exit id => intro p s w a b r s' hw ha h; cases h; exact wp_exit ⟨p, Le.refl _, hw, rfl, ha⟩
 | goto l => intro p s w a b r s' hw ha h; cases h; exact wp_goto ⟨p, Le.refl _, hw, rfl, ha⟩
 | ret => intro p s w a b r s' hw ha h; cases h; exact wp_ret ⟨p, Le.refl _, hw, trivial, ha⟩
 | seq x y ihx ihy =>
  intro p s w a b r s' hw ha h
  obtain ⟨r1, s1, h1, h2⟩ := mb_some h
  refine wp_seq (Code.wp_mono (fun e b1 w1 hp => ?_) (ihx hw ha h1))
  obtain ⟨e1, a1⟩ := r1
  obtain ⟨q, l1, hw1, he, ha1⟩ := hp
  cases e1 <;> cases e <;> first | exact he.elim | skip
  ·exact Code.wp_mono (fun e b w h => h.le l1) (ihy hw1 ha1 h2)
  all_goals (cases h2; exact ⟨q, l1, hw1, he, ha1⟩)
 | cond c x y ihx ihy =>
  intro p s w a b r s' hw ha h
  unfold acode at h
  cases hc : a.eval E.gl c with
  | none => rw [hc] at h; cases h
  | some v =>
   rw [hc] at h
   have := eval_rel hw ha hc
   cases v <;> first | (cases h; done) | skip
   rename_i t
   cases t
   ·exact wp_cond_false (leaf_eq rfl this) (ihy hw ha h)
   ·exact wp_cond_true (leaf_eq rfl this) (ihx hw ha h)
 | block id b ih =>
  intro p s w a b r s' hw ha h
  obtain ⟨r1, s1, h1, h2⟩ := mb_some h
  refine wp_block (Code.wp_mono (fun e b1 w1 hp => ?_) (ih hw ha h1))
  obtain ⟨e1, a1⟩ := r1
  obtain ⟨q, l1, hw1, he, ha1⟩ := hp
  cases e1 <;> cases e <;> first | exact he.elim | skip
  ·cases h2; exact ⟨q, l1, hw1, he, ha1⟩
  ·rename_i i j
   have he : i = j := he
   subst he
   dsimp only at h2
   simp only [Exit.inBlock]
   split at h2
   ·rename_i hid; rw [if_pos hid]; cases h2; exact ⟨q, l1, hw1, trivial, ha1⟩
   ·rename_i hid; rw [if_neg hid]; cases h2; exact ⟨q, l1, hw1, rfl, ha1⟩
  all_goals (cases h2; exact ⟨q, l1, hw1, he, ha1⟩)
 | loop c ih =>
  intro p s w a b r s' hw ha h
  refine wp_loop_fuel (Gd := fun n b w => ∃ q s1 a1, Le p q ∧ WE E B q s1 w ∧ ARL q a1 b ∧ aloop (acode E call c) n a1 s1 = some (r, s')) ?_ ?_ 100000 b w ⟨p, s, a, Le.refl _, hw, ha, h⟩
  ·rintro b w ⟨q, s1, a1, _, _, _, h⟩; cases h
  ·rintro n b w ⟨q, s1, a1, l1, hw1, ha1, h⟩
   obtain ⟨r1, s2, h1, h2⟩ := mb_some h
   refine Code.wp_mono (fun e b1 w1 hp => ?_) (ih hw1 ha1 h1)
   obtain ⟨e1, a2⟩ := r1
   obtain ⟨q2, l2, hw2, he, ha2⟩ := hp
   cases e1 <;> cases e <;> first | exact he.elim | skip
   ·exact ⟨q2, s2, a2, l1.trans l2, hw2, ha2, h2⟩
   all_goals (cases h2; exact ⟨q2, l1.trans l2, hw2, he, ha2⟩)
 | scope c ih =>
  intro p s w a b r s' hw ha h
  obtain ⟨r1, s1, h1, h2⟩ := mb_some h
  refine wp_scope_straight (Code.wp_mono (fun e b1 w1 hp => ?_) (ih hw ha h1))
  obtain ⟨e1, a1⟩ := r1
  obtain ⟨q, l1, hw1, he, ha1⟩ := hp
  cases e1 <;> cases e <;> first | exact he.elim | (cases h2; done) | (cases h2; exact ⟨q, l1, hw1, he, ha1⟩)
 | region id ops draw =>
  intro p s w a b r s' hw ha h
  unfold acode at h
  split at h
  ·rename_i hdr
   subst hdr
   obtain ⟨a1, s1, h1, h2⟩ := mb_some h
   cases h2
   exact draw_sound hE hcall hloc hm hw ha h1 fun q w' b' l1 hw1 ha1 => ⟨q, l1, hw1, trivial, ha1⟩
  ·rename_i hdr
   have hdr : draw = false := by simpa using hdr
   subst hdr
   obtain ⟨r1, s1, h1, h2⟩ := mb_some h
   refine wp_region_list ?_
   cases r1 with
   | ok a1 =>
    cases h2
    exact region_sound hE hcall ops.toList hw ha h1 (fun q w' a' b' l1 hw1 hr ha1 => by cases hr; exact ⟨q, l1, hw1, trivial, ha1⟩) fun q w' c c' a' b' l1 hw1 hr => by cases hr
   | error x =>
    obtain ⟨c, a1⟩ := x
    cases h2
    refine region_sound hE hcall ops.toList hw ha h1 (fun q w' a' b' l1 hw1 hr ha1 => by cases hr) fun q w' c c' a' b' l1 hw1 hr hc ha1 => ?_
    cases hr
    exact ⟨q, l1, hw1, hc, ha1⟩
 | rangeFunc f ps x y => intro p s w a b r s' hw ha h; cases h
 | refuse y => intro p s w a b r s' hw ha h; cases h
end
end Go.Ex
namespace Go.Ex
open Go.RowKit
theorem loadVar_same {P : Program} {t : TypeId} {a : Addr} {w w' : World} {v : Value} (h : (loadVar t a).run P w = .ok v w') : w' = w := by
 unfold Go.loadVar at h
 rw [Sem.run_bind] at h
 cases e : (Go.isAgg t).run P w with
 | halt x w1 => rw [e] at h; cases h
 | ok c w1 =>
  have hw1 : w1 = w := by
   unfold Go.isAgg Go.underlying at e
   simp only [Sem.run_bind, run_program, Result.andThen_ok] at e
   cases hd : P.underlying t with
   | none => rw [hd] at e; cases e
   | some d => rw [hd] at e; cases d <;> (cases e; rfl)
  subst hw1
  rw [e] at h
  simp only [Result.andThen_ok] at h
  split at h
  ·rw [Sem.run_bind] at h
   cases e2 : (Go.sizeOf t).run P w1 with
   | halt x w2 => rw [e2] at h; cases h
   | ok n w2 =>
    have hw2 : w2 = w1 := by
     unfold Go.sizeOf Go.typeInfo at e2
     simp only [Sem.run_bind, run_program, Result.andThen_ok] at e2
     cases hd : P.info? t with
     | none => rw [hd] at e2; cases e2
     | some d => rw [hd] at e2; cases e2; rfl
    subst hw2
    rw [e2] at h
    simp only [Result.andThen_ok] at h
    rw [Sem.run_bind] at h
    cases e3 : (Go.loadCells a n).run P w2 with
    | halt x w3 => rw [e3] at h; cases h
    | ok cs w3 =>
     have := loads_same _ _ _ e3
     subst this
     rw [e3] at h
     cases h; rfl
  ·exact load_same h
section
variable {E : Env} {B : Bs} {call : Call} {p : Rn} {s s' : St} {w : World} {a a' : AA} {b : Act}
theorem res1_sound (hw : WE E B p s w) (ha : ARL p a b) {r : ResultVar} {v : Value} (h : ares1 E a r s = some (v, s')) : ∃ q v', Le p q ∧ WE E B q s' w ∧ VR q v v' ∧ (match r with | .tmp t => (Pure.pure (b.tmps.getD t undef) : Sem Value) | .cell t ty => (do loadVar ty (← asAddr (b.tmps.getD t undef)))).run E.P w = .ok v' w := by
 cases r with
 | tmp t =>
  unfold ares1 at h
  dsimp only at h
  cases hv : a.t.get t with
  | none => rw [hv] at h; cases h
  | some u => rw [hv] at h; cases h; exact ⟨p, _, Le.refl _, hw, (ha.val t _ hv).2, rfl⟩
 | cell t ty =>
  unfold ares1 at h
  dsimp only at h
  cases hv : a.t.get t with
  | none => rw [hv] at h; cases h
  | some u =>
   rw [hv] at h
   cases u <;> first | (cases h; done) | skip
   rename_i o
   cases o with
   | none => cases h
   | some ad =>
    dsimp only at h
    cases hl : arun E.P E.G (loadVar ty ad) s with
    | none => rw [hl] at h; cases h
    | some x =>
     obtain ⟨r, s1⟩ := x
     rw [hl] at h
     cases r with
     | error _ => cases h
     | ok u =>
      cases h
      obtain ⟨ad', e1, hab⟩ := (ha.val t _ hv).2.inv
      obtain ⟨q, w1, l1, hw1, v', e2, hvv⟩ := Sim.loadVar (C := E.cx B) hab ty p (Le.refl _) s w hw.wr _ _ hl
      have e2 : (loadVar ty ad').run E.P w = .ok v' w1 := e2
      have := loadVar_same e2
      subst this
      refine ⟨q, v', l1, hw.le l1 hw1, hvv, ?_⟩
      dsimp only
      rw [e1]
      exact e2
theorem resl_sound : ∀ (l : List ResultVar) (acc : List Value) {p : Rn} {s s' : St} {w : World} {acc' : List Value} {vs : List Value}, WE E B p s w → ARL p a b → Arr (VR p) acc.toArray acc'.toArray → aresl E a l acc s = some (vs, s') →
 ∃ q vs', Le p q ∧ WE E B q s' w ∧ Arr (VR q) vs.toArray (acc' ++ vs').toArray ∧ (l.mapM fun (r : ResultVar) => (match r with | .tmp t => Pure.pure (b.tmps.getD t undef) | .cell t ty => (do loadVar ty (← asAddr (b.tmps.getD t undef))) : Sem Value)).run E.P w = .ok vs' w := by
 intro l
 induction l with
 | nil =>
  intro acc p s s' w acc' vs hw ha hr h
  cases h
  exact ⟨p, [], Le.refl _, hw, by simpa using hr, rfl⟩
 | cons r l ih =>
  intro acc p s s' w acc' vs hw ha hr h
  obtain ⟨v, s1, h1, h2⟩ := mb_some h
  obtain ⟨q, v', l1, hw1, hv, e1⟩ := res1_sound hw ha h1
  obtain ⟨q2, vs', l2, hw2, hr2, e2⟩ := ih (acc ++ [v]) (acc' := acc' ++ [v']) hw1 (ha.le l1) (by
   have := (hr.le l1).append (y := #[v]) (y' := #[v']) (.one hv)
   simpa using this) h2
  refine ⟨q2, v' :: vs', l1.trans l2, hw2, by simpa using hr2, ?_⟩
  rw [List.mapM_cons, Sem.run_bind, e1]
  simp only [Result.andThen_ok]
  rw [Sem.run_bind, e2]
  rfl
theorem res_sound {fn : Func} (hw : WE E B p s w) (ha : ARL p a b) {v : Value} (h : ares E a fn s = some (v, s')) : ∃ q v', Le p q ∧ WE E B q s' w ∧ VR q v v' ∧ (results fn b.tmps).run E.P w = .ok v' w := by
 obtain ⟨vs, s1, h1, h2⟩ := mb_some h
 obtain ⟨q, vs', l1, hw1, hr, e1⟩ := resl_sound fn.results.toList [] (acc' := []) hw ha .nil h1
 simp only [List.nil_append] at hr
 have hres : (results fn b.tmps).run E.P w = .ok (if h : vs'.toArray.size = 1 then vs'.toArray[0] else .tuple vs'.toArray) w := by
  unfold results
  rw [Array.mapM_eq_mapM_toList, Sem.run_bind, Sem.run_map]
  exact congrArg (fun r : Result (List Value) => (r.andThen fun a w' => Result.ok a.toArray w').andThen fun a w' => Sem.run E.P (Pure.pure (if h : a.size = 1 then a[0] else Value.tuple a)) w') e1
 have hlen : vs.length = vs'.length := by simpa using hr.1
 have hs : s1 = s' := by
  match vs, h2 with
  | [], h2 => cases h2; rfl
  | [x], h2 => cases h2; rfl
  | x :: y :: l, h2 => cases h2; rfl
 subst hs
 refine ⟨q, _, l1, hw1, ?_, hres⟩
 match vs, vs', hlen, h2, hr with
 | [], [], _, h2, hr => cases h2; exact (VR.cl _).tup _ _ hr
 | [x], [y], _, h2, hr => cases h2; exact hr.2 0 _ _ (by simp) (by simp)
 | x :: y :: l, x' :: y' :: l', _, h2, hr =>
  cases h2
  rw [dif_neg (by simp)]
  exact (VR.cl _).tup _ _ hr
end
theorem Loc.res {E : Env} {a : AA} {fn : Func} : Loc (ares E a fn) := by
 have h1 : ∀ r, Loc (ares1 E a r) := by
  intro r
  cases r with
  | tmp t =>
   cases hv : a.t.get t with
   | none => exact Loc.no.congr fun s => by simp only [ares1, hv]; rfl
   | some v => exact (Loc.ret v).congr fun s => by simp only [ares1, hv]; rfl
  | cell t ty =>
   cases hv : a.t.get t with
   | none => exact Loc.no.congr fun s => by simp only [ares1, hv]; rfl
   | some v =>
    cases v <;> first | exact Loc.no.congr fun s => by simp only [ares1, hv]; rfl | skip
    rename_i o
    cases o with
    | none => exact Loc.no.congr fun s => by simp only [ares1, hv]; rfl
    | some ad =>
     refine ((Loc.arun E.P E.G (loadVar ty ad)).bind (f := fun r => match r with | .ok v => mret v | .error _ => mno) fun r => ?_).congr fun s => ?_
     ·cases r
      ·exact .no
      ·exact .ret _
     ·simp only [ares1, hv, mb]
      cases Ex.arun E.P E.G (loadVar ty ad) s with
      | none => rfl
      | some x => obtain ⟨r, s1⟩ := x; cases r <;> rfl
 have h2 : ∀ l acc, Loc (aresl E a l acc) := by
  intro l
  induction l with
  | nil => intro acc; exact .ret _
  | cons r l ih => intro acc; exact (h1 r).bind fun v => ih _
 refine (h2 _ _).bind fun l => ?_
 split <;> exact .ret _
def isRec : Op → Bool
 | .call { callee := .builtin .recover, .. } => true
 | _ => false
def arec : Option Chain → Value × Option Chain
 | some (⟨v, false, false⟩ :: older) => (v, some (⟨v, true, false⟩ :: older))
 | u => (.nilIface, u)
def aregionS (E : Env) (call : Call) (ops : Array Oper) : List Oper → AA → Option Chain → M (AA × Option Chain)
 | [], a, u => mret (a, u)
 | o :: l, a, u => match aguard ops a o with
  | some true => if isRec o.op then mb (aput a o.dst (arec u).1) (fun r => match r with
   | .ok a' => aregionS E call ops l a' (arec u).2
   | .error _ => mno)
   else mb (astep E call a o) fun r => match r with
    | .ok a' => aregionS E call ops l a' u
    | .error _ => mno
  | some false => mb (aput a o.dst undef) fun r => match r with
   | .ok a' => aregionS E call ops l a' u
   | .error _ => mno
  | none => mno
def adone (E : Env) (fn : Func) (u : Option Chain) (r : Exit × AA) : M (Except Chain Value × Option Chain) :=
 match r.2.ds with
 | [] => (match r.1 with
  | .normal => mb (ares E r.2 fn) fun v => mret (.ok v, u)
  | .ret => mb (ares E r.2 fn) fun v => mret (.ok v, u)
  | .panic c => mret (.error c, u)
  | _ => mno)
 | _ => mno
def acallD (E : Env) (call : Call) (g : FuncId) (args : Array Value) (u : Option Chain) : M (Except Chain Value × Option Chain) :=
 match E.fn g with
 | some fn => (match fn.body with
  | some (.seq (.region _ ops false) y) => mb (aregionS E call ops ops.toList (AA.start args fn.ntmps) u) fun r => mb (acode E call y r.1) (adone E fn r.2)
  | _ => mno)
 | none => mno
def asettle : Option Chain → Option Chain
 | some (⟨_, true, _⟩ :: older) => (match older.dropWhile (fun (e : PanicEntry) => !e.goexit) with
  | [] => none
  | rest => some rest)
 | u => u
def araised : Option Chain → Chain → Option Chain
 | some old, c => some (c ++ old)
 | none, c => some c
def aleaves (E : Env) (call : Call) (fn : Func) (a : AA) : List Deferred → Option Chain → M (Except Chain Value)
 | [], none => mb (ares E a fn) fun v => mret (.ok v)
 | [], some c => mret (.error c)
 | d :: ds, u => match d.target with
  | .fn (.func g) cap => mb (acallD E call g (d.args ++ cap) u) fun r => match r.1 with
   | .ok _ => aleaves E call fn a ds (asettle r.2)
   | .error c => aleaves E call fn a ds (araised r.2 c)
  | _ => mno
def aend (E : Env) (call : Call) (fn : Func) (r : Exit × AA) : M (Except Chain Value) :=
 match r.1 with
 | .normal => aleaves E call fn r.2 r.2.ds none
 | .ret => aleaves E call fn r.2 r.2.ds none
 | .panic c => aleaves E call fn r.2 r.2.ds (some c)
 | _ => mno
abbrev Ov := FuncId → Option (Array Value → M (Except Chain Value))
def acall (E : Env) (o : Ov) : Nat → Call
 | 0, _, _ => mno
 | n + 1, f, args => match o f with
  | some m => m args
  | none => (match E.fn f with
   | some fn => (match fn.body with
    | some c => mb (acode E (acall E o n) c (AA.start args fn.ntmps)) (aend E (acall E o n) fn)
    | none => mno)
   | none => mno)
end Go.Ex
namespace Go.Ex
open Go.RowKit
theorem start_get : ∀ (l : List Value) (k : Nat) (t : Tr Value), (∀ i v, t.get i = some v → i < k) → ∀ i v, ((l.zipIdx k).foldl (fun t (x : Value × Nat) => Tr.put t x.2 (some x.1)) t).get i = some v → t.get i = some v ∨ (k ≤ i ∧ l[i - k]? = some v) := by
 intro l
 induction l with
 | nil => intro k t _ i v h; exact .inl h
 | cons x l ih =>
  intro k t ht i v h
  simp only [List.zipIdx_cons, List.foldl_cons] at h
  rcases ih (k + 1) _ (fun j u hj => by
   simp only [Tr.get_put] at hj
   split at hj
   ·omega
   ·have := ht j u hj; omega) i v h with h3 | ⟨h1, h2⟩
  ·simp only [Tr.get_put] at h3
   split at h3
   ·rename_i e; subst e; cases h3; exact .inr ⟨Nat.le_refl _, by simp⟩
   ·exact .inl h3
  ·refine .inr ⟨by omega, ?_⟩
   rw [show i - k = (i - (k + 1)) + 1 by omega]
   simpa using h2
theorem start_rel {p : Rn} {args args' : Array Value} (h : Arr (VR p) args args') (n : Nat) : ARL p (AA.start args n) { tmps := args' ++ Array.replicate (n - args'.size) undef, defers := [] } := by
 refine ⟨?_, fun i v hi => ?_, trivial⟩
 ·have := h.1
  simp only [Array.size_append, Array.size_replicate, AA.start]
  omega
 ·rcases start_get args.toList 0 [] (fun i v h => by simp [Tr.get, lget_nil] at h) i v hi with h1 | ⟨_, h1⟩
  ·simp [Tr.get, lget_nil] at h1
  ·simp only [Nat.sub_zero, Array.getElem?_toList] at h1
   obtain ⟨u, h2, hu⟩ := h.get h1
   have hlt : i < args.size := (Array.getElem?_eq_some_iff.1 h1).1
   refine ⟨by simp only [AA.start]; omega, ?_⟩
   rw [Array.getD_eq_getD_getElem?, Array.getElem?_append, if_pos (by rw [← h.1]; exact hlt), h2]
   exact hu
def UR (q : Rn) : Option Chain → FrameMode → Prop
 | none, .returning => True
 | some c, .panicking c' => ChR q c c'
 | _, _ => False
theorem UR.le {p q : Rn} (l : Le p q) {u : Option Chain} {m : FrameMode} (h : UR p u m) : UR q u m := by
 cases u <;> cases m <;> first | exact h | exact ChR.le l h
theorem ChR.append {p : Rn} : ∀ {x y x' y' : Chain}, ChR p x x' → ChR p y y' → ChR p (x ++ y) (x' ++ y')
 | [], _, [], _, _, h => h
 | _ :: _, _, _ :: _, _, h, k => ⟨h.1, h.2.1, h.2.2.1, ChR.append h.2.2.2 k⟩
 | [], _, _ :: _, _, h, _ => h.elim
 | _ :: _, _, [], _, h, _ => h.elim
theorem ChR.drop {p : Rn} : ∀ {x y : Chain}, ChR p x y → ChR p (x.dropWhile fun e => !e.goexit) (y.dropWhile fun e => !e.goexit)
 | [], [], h => h
 | a :: x, b :: y, h => by
  rw [List.dropWhile_cons, List.dropWhile_cons, h.2.2.1]
  split
  ·exact ChR.drop h.2.2.2
  ·exact h
 | [], _ :: _, h => h.elim
 | _ :: _, [], h => h.elim
theorem UR.settle {p : Rn} {u : Option Chain} {m : FrameMode} (h : UR p u m) : UR p (asettle u) (settle m) := by
 cases u with
 | none => cases m <;> first | exact h.elim | exact h
 | some c =>
  cases m <;> first | exact h.elim | skip
  rename_i c'
  have h : ChR p c c' := h
  match c, c', h with
  | [], [], h => exact h
  | ⟨v, r, g⟩ :: x, ⟨v', r', g'⟩ :: y, h =>
   obtain ⟨h1, h2, h3, h4⟩ := h
   simp only at h2 h3
   subst h2 h3
   cases r' with
   | false => exact ⟨h1, rfl, rfl, h4⟩
   | true =>
    have hd := h4.drop
    simp only [asettle, Go.settle]
    generalize x.dropWhile (fun e => !e.goexit) = xd at *
    generalize y.dropWhile (fun e => !e.goexit) = yd at *
    match xd, yd, hd with
    | [], [], _ => trivial
    | _ :: _, _ :: _, hd => exact hd
    | [], _ :: _, hd => exact hd.elim
    | _ :: _, [], hd => exact hd.elim
  | [], _ :: _, h => exact h.elim
  | _ :: _, [], h => exact h.elim
theorem UR.raised {p : Rn} {u : Option Chain} {m : FrameMode} {c c' : Chain} (h : UR p u m) (hc : ChR p c c') : UR p (araised u c) (raised m c') := by
 cases u with
 | none => cases m <;> first | exact h.elim | exact hc
 | some d => cases m <;> first | exact h.elim | exact ChR.append hc h
section
variable {E : Env} {B : Bs} {call : Call}
theorem rec_sound {p : Rn} {u : Option Chain} {um : FrameMode} (h : UR p u um) (c0 : Frame) (cs : List Frame) :
 (∃ v' um', recoverD ({ c0 with mode := um } :: cs) = some (v', { c0 with mode := um' } :: cs) ∧ VR p (arec u).1 v' ∧ UR p (arec u).2 um') ∨ (recoverD ({ c0 with mode := um } :: cs) = none ∧ (arec u).1 = .nilIface ∧ UR p (arec u).2 um) := by
 cases u with
 | none =>
  cases um <;> first | exact h.elim | skip
  exact .inr ⟨rfl, rfl, trivial⟩
 | some c =>
  cases um <;> first | exact h.elim | skip
  rename_i c'
  have h : ChR p c c' := h
  match c, c', h with
  | [], [], h => exact .inr ⟨rfl, rfl, h⟩
  | ⟨v, r, g⟩ :: x, ⟨v', r', g'⟩ :: y, h =>
   obtain ⟨h1, h2, h3, h4⟩ := h
   simp only at h2 h3
   subst h2 h3
   cases r' with
   | true => exact .inr ⟨rfl, rfl, h1, rfl, rfl, h4⟩
   | false =>
    cases g' with
    | true => exact .inr ⟨rfl, rfl, h1, rfl, rfl, h4⟩
    | false => exact .inl ⟨v', _, rfl, h1, h1, rfl, rfl, h4⟩
  | [], _ :: _, h => exact h.elim
  | _ :: _, [], h => exact h.elim
theorem regionS_sound (hE : Good E) (hcall : CallOk E B call) {ops : Array Oper} {c0 : Frame} {cs : List Frame} {Q : Exit → Act → List Frame → World → Prop} : ∀ (l : List Oper) (k : Nat), (∀ j, l[j]? = ops[k + j]?) → ∀ {p : Rn} {s s' : St} {w : World} {a : AA} {b : Act} {u : Option Chain} {um : FrameMode} {r : AA × Option Chain},
 WE E B p s w → ARL p a b → UR p u um → aregionS E call ops l a u s = some (r, s') →
 (∀ q w' b' um', Le p q → WE E B q s' w' → ARL q r.1 b' → UR q r.2 um' → Q .normal b' ({ c0 with mode := um' } :: cs) w') → wpOpsS E.P ops Q (List.range' k l.length) b ({ c0 with mode := um } :: cs) w := by
 intro l
 induction l with
 | nil => intro k _ p s s' w a b u um r hw ha hu h hQ; cases h; exact hQ p w b um (Le.refl _) hw ha hu
 | cons o l ih =>
  intro k hk p s s' w a b u um r hw ha hu h hQ
  have ho : ops[k]? = some o := by have := hk 0; simpa using this.symm
  have ih := @ih (k + 1) (fun j => by have := hk (j + 1); simpa [Nat.add_assoc, Nat.add_comm 1 j] using this)
  simp only [List.length_cons, List.range'_succ, wpOpsS, ho]
  unfold aregionS at h
  cases hg : aguard ops a o with
  | none => rw [hg] at h; cases h
  | some t =>
   rw [hg] at h
   have hwant := guard_rel ha hg
   cases t with
   | false =>
    obtain ⟨r1, s1, h3, h4⟩ := mb_some h
    rw [if_neg (by rw [hwant]; simp)]
    obtain ⟨a1, e2, rfl, rfl⟩ := aput_some h3
    exact ih hw (put_rel ha e2 (VR.undef _)) hu h4 hQ
   | true =>
    rw [if_pos hwant]
    dsimp only at h
    by_cases hrec : isRec o.op = true
    ·rw [if_pos hrec] at h
     obtain ⟨r1, s1, h3, h4⟩ := mb_some h
     obtain ⟨a1, e2, rfl, rfl⟩ := aput_some h3
     have hen : (execOp b.eval o).run E.P w = .ok .recover w := by
      cases hop : o.op <;> rw [hop] at hrec <;> first | (cases hrec; done) | skip
      rename_i c
      obtain ⟨cal, args, ts⟩ := c
      cases cal <;> first | (cases hrec; done) | skip
      rename_i bi
      cases bi <;> first | (cases hrec; done) | skip
      simp only [execOp, hop, resolve, Sem.run_bind, Sem.run_pure, Result.andThen_ok, invoke, Go.builtin]
     rw [hen]
     dsimp only
     rcases rec_sound hu c0 cs with ⟨v', um', e3, hv, hu'⟩ | ⟨e3, hv, hu'⟩
     ·rw [e3]
      exact ih hw (put_rel ha e2 hv) hu' h4 hQ
     ·rw [e3]
      refine ih hw (put_rel ha e2 ?_) hu' h4 hQ
      rw [hv]; exact VR.of_leaf rfl
    ·rw [if_neg hrec] at h
     obtain ⟨r1, s1, h3, h4⟩ := mb_some h
     have hst := step_sound (K := fun b' w' => wpOpsS E.P ops Q (List.range' (k + 1) l.length) b' ({ c0 with mode := um } :: cs) w') (Q := fun e a' w' => Q e a' ({ c0 with mode := um } :: cs) w') hE hcall hw ha h3 ⟨fun q w' a1 a0 b0 v v' l1 hw' hr har hpu hv _ => by
      subst hr
      exact ih hw' (put_rel har hpu hv) (hu.le l1) h4 fun q' w2 b2 um2 l2 => hQ q' w2 b2 um2 (l1.trans l2), fun q w' c c' l1 hw' hr hc => by subst hr; cases h4⟩
     unfold Oper.wp at hst
     cases hr : (execOp b.eval o).run E.P w with
     | halt x w1 => rw [hr] at hst; exact hst
     | ok n w1 =>
      rw [hr] at hst
      cases n <;> first | exact hst | exact hst.elim
def DOk (E : Env) (B : Bs) (call : Call) : Prop := ∀ g args u s r u' s', acallD E call g args u s = some ((r, u'), s') → (E.fn g).isSome = true ∧ ∀ p w args' um, WE E B p s w → Arr (VR p) args args' → UR p u um →
 CallsD E.P g args' um w fun e um' w' => ∃ q, Le p q ∧ WE E B q s' w' ∧ EndR q r e ∧ UR q u' um'
theorem callD_sound (hE : Good E) (hcall : CallOk E B call) (hloc : ∀ f args, Loc (call f args)) (hm : E.P.follows .mixedOrders = true) : DOk E B call := by
 intro g args u s r u' s' h
 unfold acallD at h
 cases hf : E.fn g with
 | none => rw [hf] at h; cases h
 | some fn =>
  refine ⟨rfl, fun p w args' um hw harg hu => ?_⟩
  rw [hf] at h
  dsimp only at h
  obtain ⟨id, ops, y, hbody⟩ : ∃ id ops y, fn.body = some (.seq (.region id ops false) y) := by
   cases hb : fn.body with
   | none => rw [hb] at h; cases h
   | some c =>
    rw [hb] at h
    cases c <;> first | (cases h; done) | skip
    rename_i x y
    cases x <;> first | (cases h; done) | skip
    rename_i id ops d
    cases d <;> first | (cases h; done) | exact ⟨id, ops, y, rfl⟩
  rw [hbody] at h
  dsimp only at h
  obtain ⟨⟨a1, u1⟩, s1, h1, h2⟩ := mb_some h
  obtain ⟨⟨e2, a2⟩, s2, h3, h4⟩ := mb_some h2
  refine callsD_of_wpS (hE.call g fn hf).1 hbody fun c₀ cs hc => ?_
  refine wpS_seq (wpS_region ?_)
  rw [List.range_eq_range', ← Array.length_toList]
  have hc0 : c₀ = { c₀ with mode := um } := by rw [← hc]
  rw [hc0]
  refine regionS_sound hE hcall ops.toList 0 (fun j => by simp) hw (start_rel harg _) hu h1 fun q w' b' um' l1 hw1 ha1 hu1 => ?_
  refine wpS_of_wp (Code.wp_mono (fun e b2 w2 hp => ?_) (code_sound hE hcall hloc hm y hw1 ha1 h3))
  obtain ⟨q2, l2, hw2, he, ha2⟩ := hp
  unfold adone at h4
  cases hds : a2.ds with
  | cons d ds => simp only [hds] at h4; cases h4
  | nil =>
   simp only [hds] at h4
   have hd := ha2.ds
   simp only [hds] at hd
   have hd : b2.defers = [] := by
    cases hb : b2.defers with
    | nil => rfl
    | cons x xs => rw [hb] at hd; exact hd.elim
   cases e2 <;> cases e <;> first | exact he.elim | (cases h4; done) | skip
   ·obtain ⟨v, s3, h5, h6⟩ := mb_some h4
    cases h6
    obtain ⟨q3, v', l3, hw3, hv, e3⟩ := res_sound hw2 ha2 h5
    exact ⟨hd, um', rfl, v', e3, q3, (l1.trans l2).trans l3, hw3, hv, hu1.le (l2.trans l3)⟩
   ·obtain ⟨v, s3, h5, h6⟩ := mb_some h4
    cases h6
    obtain ⟨q3, v', l3, hw3, hv, e3⟩ := res_sound hw2 ha2 h5
    exact ⟨hd, um', rfl, v', e3, q3, (l1.trans l2).trans l3, hw3, hv, hu1.le (l2.trans l3)⟩
   ·cases h4
    exact ⟨hd, um', rfl, q2, l1.trans l2, hw2, he, hu1.le l2⟩
theorem leaves_sound (hE : Good E) (hD : DOk E B call) {fn : Func} {R : Ending → World → Prop} {a : AA} {tmps : Array Value} : ∀ (ds : List Deferred) {p : Rn} {s s' : St} {w : World} {b : Act} {u : Option Chain} {um : FrameMode} {ds' : List Deferred} {r : Except Chain Value},
 WE E B p s w → ARL p a b → b.tmps = tmps → DsR p ds ds' → UR p u um → aleaves E call fn a ds u s = some (r, s') → (∀ q w' e, Le p q → WE E B q s' w' → EndR q r e → R e w') → Leaves E.P fn tmps R ds' um w := by
 intro ds
 induction ds with
 | nil =>
  intro p s s' w b u um ds' r hw ha hb hd hu h hR
  cases ds' with
  | cons _ _ => exact hd.elim
  | nil =>
   cases u with
   | none =>
    cases um <;> first | exact hu.elim | skip
    obtain ⟨v, s1, h1, h2⟩ := mb_some h
    cases h2
    obtain ⟨q, v', l1, hw1, hv, e1⟩ := res_sound hw ha h1
    rw [hb] at e1
    exact ⟨v', e1, hR q w _ l1 hw1 hv⟩
   | some c =>
    cases um <;> first | exact hu.elim | skip
    cases h
    exact hR p w _ (Le.refl _) hw hu
 | cons d ds ih =>
  intro p s s' w b u um ds' r hw ha hb hd hu h hR
  cases ds' with
  | nil => exact hd.elim
  | cons d' ds' =>
   obtain ⟨⟨f, x, x', h1, h2, h3, h4, h5⟩, hd⟩ := hd
   unfold aleaves at h
   rw [h1] at h
   cases f <;> first | (cases h; done) | skip
   rename_i g
   dsimp only at h
   obtain ⟨⟨r1, u1⟩, s1, g1, g2⟩ := mb_some h
   obtain ⟨hfn, hcalls⟩ := hD g _ u s r1 u1 s1 g1
   obtain ⟨fnn, hfnn⟩ := Option.isSome_iff_exists.1 hfn
   refine ⟨by intro e; subst e; cases u <;> exact hu.elim, .func g, x', g, d'.args ++ x', h2, ?_, ?_⟩
   ·rw [h2]; exact (hE.call g fnn hfnn).2 _ _
   ·have := hcalls p w (d'.args ++ x') um hw (h5.append h4) hu
    intro c0 cs hc
    obtain ⟨e, um', w', fr, ⟨q, l1, hw1, he, hu1⟩, k1, k2, k3⟩ := this c0 cs hc
    refine ⟨e, um', w', fr, ?_, k1, k2, k3⟩
    have hR' : ∀ q' w' e, Le q q' → WE E B q' s' w' → EndR q' r e → R e w' := fun q' w' e l2 => hR q' w' e (l1.trans l2)
    cases r1 with
    | ok v =>
     cases e <;> first | exact he.elim | skip
     exact ih hw1 (ha.le l1) hb (hd.le l1) hu1.settle g2 hR'
    | error c =>
     cases e <;> first | exact he.elim | skip
     exact ih hw1 (ha.le l1) hb (hd.le l1) (hu1.raised he) g2 hR'
def OvOk (E : Env) (B : Bs) (o : Ov) : Prop := ∀ f m, o f = some m → (∀ args, Loc (m args)) ∧ ∀ args s r s', m args s = some (r, s') → ∀ lo old p w args', WE E { B with lo, old } p s w → Arr (VR p) args args' →
 Calls E.P f args' w fun e w' => ∃ q, Le p q ∧ WE E { B with lo, old } q s' w' ∧ EndR q r e
theorem Loc.regionS {call : Call} (h : ∀ f args, Loc (call f args)) (ops : Array Oper) : ∀ (l : List Oper) (a : AA) (u : Option Chain), Loc (aregionS E call ops l a u) := by
 intro l
 induction l with
 | nil => intro a u; exact .ret _
 | cons o l ih =>
  intro a u
  unfold aregionS
  cases aguard ops a o with
  | none => exact .no
  | some t =>
   cases t with
   | true =>
    refine .ite ((Loc.put _ _ _).bind fun r => ?_) ((Loc.step h _ _).bind fun r => ?_) <;> cases r <;> first | exact .no | exact ih _ _
   | false =>
    refine (Loc.put _ _ _).bind fun r => ?_
    cases r <;> first | exact .no | exact ih _ _
theorem Loc.done {fn : Func} {u : Option Chain} (r : Exit × AA) : Loc (adone E fn u r) := by
 unfold adone
 split
 ·split
  ·exact Loc.res.bind fun _ => .ret _
  ·exact Loc.res.bind fun _ => .ret _
  ·exact .ret _
  ·exact .no
 ·exact .no
theorem Loc.callD {call : Call} (h : ∀ f args, Loc (call f args)) (g : FuncId) (args : Array Value) (u : Option Chain) : Loc (acallD E call g args u) := by
 unfold acallD
 split
 ·split
  ·exact (Loc.regionS h _ _ _ _).bind fun r => (Loc.code h _ _).bind fun r => Loc.done _
  ·exact .no
 ·exact .no
theorem Loc.leaves {call : Call} (h : ∀ f args, Loc (call f args)) (fn : Func) (a : AA) : ∀ (ds : List Deferred) (u : Option Chain), Loc (aleaves E call fn a ds u) := by
 intro ds
 induction ds with
 | nil => intro u; cases u <;> first | exact Loc.res.bind fun _ => .ret _ | exact .ret _
 | cons d ds ih =>
  intro u
  unfold aleaves
  split
  ·refine (Loc.callD h _ _ _).bind fun r => ?_
   cases r.1 <;> exact ih _
  ·exact .no
theorem Loc.ofCall {o : Ov} (ho : ∀ f m, o f = some m → ∀ args, Loc (m args)) : ∀ (n : Nat) (f : FuncId) (args : Array Value), Loc (acall E o n f args) := by
 intro n
 induction n with
 | zero => intro f args; exact .no
 | succ n ih =>
  intro f args
  unfold acall
  split
  ·rename_i m hm; exact ho f m hm args
  ·split
   ·split
    ·refine (Loc.code ih _ _).bind fun r => ?_
     unfold aend
     split <;> first | exact Loc.leaves ih _ _ _ _ | exact .no
    ·exact .no
   ·exact .no
theorem call_sound (hE : Good E) {o : Ov} (ho : OvOk E B o) (hm : E.P.follows .mixedOrders = true) : ∀ n, CallOk E B (acall E o n) := by
 intro n
 induction n with
 | zero => intro f args s r s' h; cases h
 | succ n ih =>
  intro f args s r s' h hf lo old p w args' hw harg
  unfold acall at h
  cases hov : o f with
  | some m =>
   rw [hov] at h
   exact (ho f m hov).2 args s r s' h lo old p w args' hw harg
  | none =>
   rw [hov] at h
   dsimp only at h
   cases hfn : E.fn f with
   | none => rw [hfn] at h; cases h
   | some fn =>
    rw [hfn] at h
    dsimp only at h
    cases hb : fn.body with
    | none => rw [hb] at h; cases h
    | some c =>
     rw [hb] at h
     dsimp only at h
     obtain ⟨⟨e1, a1⟩, s1, h1, h2⟩ := mb_some h
     have hloc : ∀ f args, Loc (acall E o n f args) := Loc.ofCall (fun f m h => (ho f m h).1) n
     have ih' : CallOk E { B with lo, old } (acall E o n) := fun f args s r s' h hf lo old => ih f args s r s' h hf lo old
     have hD := callD_sound hE ih' hloc hm
     refine calls_of_wp_defers (hE.call f fn hfn).1 hb (Code.wp_mono (fun e b w' hp => ?_) (code_sound hE ih' hloc hm c hw (start_rel harg _) h1))
     obtain ⟨q, l1, hw1, he, ha1⟩ := hp
     unfold aend at h2
     have fin : ∀ q' w' e, Le q q' → WE E { B with lo, old } q' s' w' → EndR q' r e → ∃ q, Le p q ∧ WE E { B with lo, old } q s' w' ∧ EndR q r e := fun q' w' e l2 h3 h4 => ⟨q', l1.trans l2, h3, h4⟩
     cases e1 <;> cases e <;> first | exact he.elim | (cases h2; done) | skip
     ·exact leaves_sound hE hD a1.ds hw1 ha1 rfl ha1.ds (u := none) (um := .returning) trivial h2 fin
     ·exact leaves_sound hE hD a1.ds hw1 ha1 rfl ha1.ds (u := none) (um := .returning) trivial h2 fin
     ·exact leaves_sound hE hD a1.ds hw1 ha1 rfl ha1.ds (um := .panicking _) (u := some _) he h2 fin
end
end Go.Ex
namespace Go.Ex
open Go.RowKit
def AL (c : Array Value) : Prop := ∀ (p : Rn), ∀ x ∈ c.toList, VR p x x
theorem AL.arr {c : Array Value} (h : AL c) (p : Rn) : Arr (VR p) c c := by
 refine ⟨rfl, fun i u v a b => ?_⟩
 rw [a] at b
 cases b
 exact h p u (List.mem_of_getElem? (l := c.toList) (i := i) (by simpa using a))
theorem VR.al {v : Value} (h : ∀ p, VR p v v) : AL v.cells := by
 intro p x hx
 obtain ⟨i, hi⟩ := List.mem_iff_getElem?.1 hx
 have hi : v.cells[i]? = some x := by simpa using hi
 exact (h p).cells.2 i x x hi hi
def ZL (i : TypeInfo) : Prop := ∀ v, i.zero = some v → ∀ p, VR p v v
theorem zl_word {d : TypeDesc} {s : String} {z : Value} {b : Bool} {n : Nat} (h : leaf z = true) : ZL (Made.word d s z b n) := by
 intro v e p
 cases e
 exact VR.of_leaf h
theorem opt_bind {α β : Type} {x : Option α} {f : α → Option β} {b : β} (h : (x >>= f) = some b) : ∃ a, x = some a ∧ f a = some b := by
 cases x with
 | none => cases h
 | some a => exact ⟨a, rfl, h⟩
theorem forIn_inv {α β : Type} (I : β → Prop) {f : α → β → Option (ForInStep β)} (hf : ∀ a b r, I b → f a b = some r → I r.value) : ∀ (l : List α) (b b' : β), I b → (forIn l b f : Option β) = some b' → I b' := by
 intro l
 induction l with
 | nil => intro b b' hb h; cases h; exact hb
 | cons a l ih =>
  intro b b' hb h
  rw [List.forIn_cons] at h
  obtain ⟨r, h1, h2⟩ := opt_bind h
  have := hf a b r hb h1
  cases r with
  | done c => cases h2; exact this
  | yield c => exact ih c b' this h2
theorem AL.append {x y : Array Value} (h : AL x) (k : AL y) : AL (x ++ y) := by
 intro p z hz
 rw [Array.toList_append, List.mem_append] at hz
 exact hz.elim (h p z) (k p z)
abbrev SS := Array Field × Nat × Nat × Nat × Nat × Bool × Bool × Option (Array Value) × String
def SI (s : SS) : Prop := ∀ z, s.2.2.2.2.2.2.2.1 = some z → AL z
theorem zl_struct {info : TypeId → Option TypeInfo} (hi : ∀ t i, info t = some i → ZL i) {fs : Array Field} {i : TypeInfo} (h : Made.reckonStruct info fs = some i) : ZL i := by
 unfold Made.reckonStruct at h
 dsimp only at h
 obtain ⟨st, h1, h2⟩ := opt_bind h
 have hst : SI st := by
  rw [← Array.forIn_toList] at h1
  refine forIn_inv SI ?_ _ _ _ ?_ h1
  ·intro f b r hb hr
   obtain ⟨j, g1, g2⟩ := opt_bind hr
   have fin : ∀ z, (if b.2.1 + j.size > Made.mostCells then none else do
    let a ← b.2.2.2.2.2.2.2.1
    let c ← j.zero
    pure (a ++ c.cells)) = some z → AL z := by
    intro z hz
    split at hz
    ·cases hz
    ·obtain ⟨x, k1, k2⟩ := opt_bind hz
     obtain ⟨y, k3, k4⟩ := opt_bind k2
     cases k4
     exact (hb x k1).append (VR.al (hi _ _ g1 y k3))
   split at g2
   ·cases g2
   split at g2
   ·cases g2
   split at g2
   ·split at g2
    ·cases g2; exact fin
    ·cases g2; exact fin
   ·obtain ⟨t, g3, g4⟩ := opt_bind g2
    split at g4
    ·cases g4; exact fin
    ·cases g4; exact fin
  ·intro z hz; cases hz; intro p x hx; cases hx
 have fin : ∀ v, Option.map Value.agg st.2.2.2.2.2.2.2.1 = some v → ∀ p, VR p v v := by
  intro v hv p
  obtain ⟨z, k1, k2⟩ := Option.map_eq_some_iff.1 hv
  subst k2
  exact (VR.cl p).agg _ _ ((hst z k1).arr p)
 split at h2 <;> (cases h2; exact fin)
theorem AL.rep {c : Array Value} (h : AL c) (n : Nat) : AL ((Array.replicate n c).flatten) := by
 intro p x hx
 rw [Array.toList_flatten, List.mem_flatten] at hx
 obtain ⟨l, h1, h2⟩ := hx
 simp only [Array.toList_replicate, List.map_replicate, List.mem_replicate] at h1
 obtain ⟨_, rfl⟩ := h1
 exact h p x h2
theorem zl_reckon {info : TypeId → Option TypeInfo} (hi : ∀ t i, info t = some i → ZL i) {d : TypeDesc} {i : TypeInfo} (h : Made.reckon info d = some i) : ZL i := by
 unfold Made.reckon at h
 split at h
 ·obtain ⟨j, h1, h2⟩ := opt_bind h
  split at h2
  ·cases h2
  ·split at h2
   ·cases h2
   ·obtain ⟨s, h3, h4⟩ := opt_bind h2
    cases h4; exact zl_word rfl
  ·obtain ⟨s, h3, h4⟩ := opt_bind h2
   cases h4; exact zl_word rfl
 ·obtain ⟨j, h1, h2⟩ := opt_bind h
  obtain ⟨s, h3, h4⟩ := opt_bind h2
  cases h4; exact zl_word rfl
 ·obtain ⟨j, h1, h2⟩ := opt_bind h
  obtain ⟨s, h3, h4⟩ := opt_bind h2
  obtain ⟨s2, h5, h6⟩ := opt_bind h4
  obtain ⟨s3, h7, h8⟩ := opt_bind h6
  cases h8; exact zl_word rfl
 ·obtain ⟨j, h1, h2⟩ := opt_bind h
  obtain ⟨s, h3, h4⟩ := opt_bind h2
  cases h4; exact zl_word rfl
 ·obtain ⟨s, h3, h4⟩ := opt_bind h
  cases h4; exact zl_word rfl
 ·obtain ⟨j, h1, h2⟩ := opt_bind h
  obtain ⟨s, h3, h4⟩ := opt_bind h2
  cases h4
  intro v hv p
  dsimp only at hv
  split at hv
  ·cases hv
  ·split at hv
   ·cases hv; exact VR.of_flat rfl
   ·obtain ⟨z, k1, k2⟩ := Option.map_eq_some_iff.1 hv
    subst k2
    exact (VR.cl p).agg _ _ (((VR.al (hi _ _ h1 z k1)).rep _).arr p)
 ·exact zl_struct hi h
 ·cases h
def zlB (i : TypeInfo) : Bool := match i.zero with
 | some (.tuple cs) => cs.toList.all flat1
 | some v => flat1 v
 | none => true
theorem zl_of {i : TypeInfo} (h : zlB i = true) : ZL i := by
 intro v e p
 unfold zlB at h
 rw [e] at h
 cases v <;> first | exact VR.of_flat h | skip
 rename_i cs
 have h : cs.toList.all flat1 = true := h
 exact (VR.cl p).tup _ _ (AL.arr (fun p x hx => VR.of_flat (List.all_eq_true.1 h x hx)) p)
theorem zl_at {T : Tables} (h : T.types.toList.all zlB = true) : ∀ (n : Nat) (t : TypeId) (i : TypeInfo), Made.infoAt T n t = some i → ZL i := by
 intro n
 induction n with
 | zero => intro t i e; cases e
 | succ n ih =>
  intro t i e
  unfold Made.infoAt at e
  split at e
  ·exact zl_of (List.all_eq_true.1 h i (List.mem_of_getElem? (l := T.types.toList) (i := t) (by simpa using e)))
  ·obtain ⟨d, e1, e2⟩ := Option.bind_eq_some_iff.1 e
   exact zl_reckon (fun t i e => ih t i e) e2
theorem zok_of {P : Program} (h : P.types.toList.all zlB = true) : Zok P := by
 intro t i v e
 unfold Tables.info? at e
 split at e
 ·exact fun hv => zl_of (List.all_eq_true.1 h i (List.mem_of_getElem? (l := P.types.toList) (i := t) (by simpa using e))) v hv
 ·exact fun hv => zl_at h _ _ _ e v hv
section
variable {C : Cx} {p : Rn}
theorem Sim.loadBs : ∀ (n : Nat) {a b : Addr} (acc : ByteArray), AR p a b → Sim C p EqA (Extern.Bytes.loadBytes a n acc) (Extern.Bytes.loadBytes b n acc) := by
 intro n
 induction n generalizing p with
 | zero => intro a b acc h; exact .pure fun _ _ => rfl
 | succ n ih =>
  intro a b acc h
  unfold Extern.Bytes.loadBytes
  refine (Sim.load h).bind fun q l v v' hv => ?_
  have i := hv.inv
  cases v <;> first | exact .no fun _ => rfl | skip
  rename_i k z
  obtain rfl := i
  cases k <;> first | exact .no fun _ => rfl | skip
  exact ih _ ((h.le l).add 1)
theorem Sim.bytesOf {v v' : Value} (h : VR p v v') : Sim C p EqA (Extern.Bytes.bytesOf v) (Extern.Bytes.bytesOf v') := by
 have i := h.inv
 cases v <;> first | exact .no fun _ => rfl | skip
 ·obtain rfl := i; exact .pure fun _ _ => rfl
 ·rename_i a l c
  cases a with
  | none => obtain rfl := i; exact .pure fun _ _ => rfl
  | some a => obtain ⟨b, c', rfl, hab⟩ := i; exact Sim.loadBs _ _ hab.1
theorem Sim.asByte {v v' : Value} (h : VR p v v') : Sim C p EqA (Extern.Bytes.asByte v) (Extern.Bytes.asByte v') := by
 have i := h.inv
 cases v <;> first | exact .no fun _ => rfl | skip
 rename_i k z
 obtain rfl := i
 cases k <;> first | exact .no fun _ => rfl | exact .pure fun _ _ => rfl
theorem arr_two {R : Value → Value → Prop} {x y : Value} {l' : Array Value} (h : Arr R #[x, y] l') : ∃ x' y', l' = #[x', y'] ∧ R x x' ∧ R y y' := by
 obtain ⟨u, h1, h2⟩ := h.get (i := 0) rfl
 obtain ⟨v, h3, h4⟩ := h.get (i := 1) rfl
 refine ⟨u, v, ?_, h2, h4⟩
 have := h.1
 match l', this, h1, h3 with
 | ⟨[a, b]⟩, _, h1, h3 => cases h1; cases h3; rfl
theorem arr_one {R : Value → Value → Prop} {x : Value} {l' : Array Value} (h : Arr R #[x] l') : ∃ x', l' = #[x'] ∧ R x x' := by
 obtain ⟨u, h1, h2⟩ := h.get (i := 0) rfl
 refine ⟨u, ?_, h2⟩
 have := h.1
 match l', this, h1 with
 | ⟨[a]⟩, _, h1 => cases h1; rfl
theorem Sim.indexByte {args args' : Array Value} (h : Arr (VR p) args args') : Sim C p VR (Extern.BytealgIndexByte.indexByte args) (Extern.BytealgIndexByte.indexByte args') := by
 match args with
 | ⟨[]⟩ => exact .no fun _ => rfl
 | ⟨[_]⟩ => exact .no fun _ => rfl
 | ⟨_ :: _ :: _ :: _⟩ => exact .no fun _ => rfl
 | ⟨[b, c]⟩ =>
  obtain ⟨b', c', rfl, hb, hc⟩ := arr_two h
  show Sim C p VR (Extern.Bytes.bytesOf b >>= _) (Extern.Bytes.bytesOf b' >>= _)
  refine (Sim.bytesOf hb).bind fun q l x x' e => ?_
  cases e
  refine (Sim.asByte (hc.le l)).bind fun q l y y' e => ?_
  cases e
  split <;> exact .pure fun _ _ => VR.of_leaf rfl
theorem Sim.cloneMap {args args' : Array Value} (h : Arr (VR p) args args') : Sim C p VR (Extern.MapsClone.clone args) (Extern.MapsClone.clone args') := by
 match args with
 | ⟨[]⟩ => exact .no fun _ => rfl
 | ⟨_ :: _ :: _⟩ => exact .no fun _ => rfl
 | ⟨[b]⟩ =>
  obtain ⟨b', rfl, hb⟩ := arr_one h
  have i := hb.inv
  cases b <;> first | exact .no fun _ => rfl | skip
  rename_i t u
  obtain ⟨u', rfl, hu⟩ := i
  have i := hu.inv
  cases u <;> first | exact .no fun _ => rfl | skip
  rename_i r
  cases r with
  | none => exact .no fun _ => rfl
  | some r =>
   obtain ⟨r', k, rfl, hr⟩ := i
   refine Sim.entries (f := fun es cl => do Pure.pure (Value.iface t (.map (some (← newObj (.map es cl)))))) (f' := fun es cl => do Pure.pure (Value.iface t (.map (some (← newObj (.map es cl)))))) (g := Go.stuck "maps.clone: a map expected") (g' := Go.stuck "maps.clone: a map expected") hr (fun _ => rfl) fun q l es es' cl he _ => ?_
   refine (Sim.new (o := .map es cl) (o' := .map es' cl) fun q1 l1 => ⟨es', rfl, he.le l1⟩).bind fun q1 l1 a b e => .pure fun q2 l2 => (VR.cl q2).ifc _ _ _ ((VR.cl q2).mp _ _ _ (l2 _ _ e))
end
end Go.Ex
namespace Go.Ex
open Go.RowKit
def fnOf (P : Program) (f : FuncId) : Option Func := match P.funcs[f]? with
 | some fn => if fn.body.isSome then some fn else none
 | none => none
abbrev Xt := List (FuncId × (Array Value → Sem Value))
def xtOf (l : Xt) (f : FuncId) : Option (Array Value → Sem Value) := (l.find? fun x => x.1 == f).map (·.2)
def envOf (P : Program) (G : Nat) (gl : Nat → Bool) (xt : Xt) : Env := ⟨P, G, gl, fnOf P, xtOf xt⟩
def Stands (P : Program) (f : FuncId) (e : Array Value → Sem Value) : Prop := ∃ fn, P.funcs[f]? = some fn ∧ (fn.name == "runtime.NumGoroutine") = false ∧ fn.body.isNone = true ∧ Extern.findNext fn = none ∧ Extern.find fn = some e
def Simmed (e : Array Value → Sem Value) : Prop := ∀ (C : Cx) (p : Rn) (args args' : Array Value), Arr (VR p) args args' → Sim C p VR (e args) (e args')
theorem simmed_index : Simmed Extern.BytealgIndexByte.indexByte := fun _ _ _ _ h => Sim.indexByte h
theorem simmed_clone : Simmed Extern.MapsClone.clone := fun _ _ _ _ h => Sim.cloneMap h
def named (P : Program) : Bool := P.funcs.toList.all fun fn => !(fn.name == "runtime.NumGoroutine")
theorem good_of {P : Program} {G : Nat} {gl : Nat → Bool} {xt : Xt} (hz : P.types.toList.all zlB = true) (hn : named P = true) (hx : ∀ x ∈ xt, Stands P x.1 x.2 ∧ Simmed x.2) : Good (envOf P G gl xt) where
 zok := zok_of hz
 ext := by
  intro f e h
  obtain ⟨x, h1, rfl⟩ := Option.map_eq_some_iff.1 h
  have hm := List.mem_of_find?_eq_some h1
  have hf : x.1 = f := by have := List.find?_some h1; simpa using this
  obtain ⟨⟨fn, k1, k2, k3, k4, k5⟩, k6⟩ := hx x hm
  subst hf
  exact ⟨fun args w => run_callFunc_extern k1 k2 k3 k4 k5 args w, fun C _ p args args' ha => k6 C p args args' ha⟩
 call := by
  intro f fn h
  have h : fnOf P f = some fn := h
  unfold fnOf at h
  cases hf : P.funcs[f]? with
  | none => rw [hf] at h; cases h
  | some fn' =>
   rw [hf] at h
   dsimp only at h
   split at h <;> cases h
   rename_i hb
   refine ⟨hf, fun args w => ?_⟩
   have hname := List.all_eq_true.1 hn fn (List.mem_of_getElem? (l := P.funcs.toList) (i := f) (by simpa using hf))
   have h1 : fn.name ≠ "runtime.NumGoroutine" := by simpa using hname
   have h2 : fn.body.isNone = false := by cases h : fn.body <;> simp_all
   show (callFunc f args).run P w = _
   simp only [callFunc, Sem.run_bind, run_program, Result.andThen_ok, hf]
   rw [if_neg (by simpa using h1), if_neg (by simp [h2])]
   rfl
abbrev Gs := List (Nat × Array Value)
def Held (gs : Gs) (w : World) : Prop := ∀ x ∈ gs, ∃ c e fr, w.heap[x.1]? = some (.cells c e fr) ∧ x.2.size ≤ c.size ∧ ∀ (i : Nat) (v : Value), x.2[i]? = some v → c[i]? = some v
theorem Held.lt {gs : Gs} {w : World} (h : Held gs w) {x : Nat × Array Value} (hx : x ∈ gs) : x.1 < w.heap.size := by
 obtain ⟨c, e, fr, h1, _⟩ := h x hx
 exact (Array.getElem?_eq_some_iff.1 h1).1
theorem Held.below {gs : Gs} {w w' : World} (h : Held gs w) (hb : Below w.heap.size w w') : Held gs w' := by
 intro x hx
 obtain ⟨c, e, fr, h1, h2⟩ := h x hx
 exact ⟨c, e, fr, (hb.block _ (h.lt hx)).trans h1, h2⟩
def glOf (gs : Gs) (n : Nat) : Bool := gs.any fun x => x.1 == n
def tr0 : Gs → Tr Obj
 | [] => []
 | x :: l => (tr0 l).put x.1 (some (.cells x.2 0 (2, 0)))
def st0 (G : Nat) (gs : Gs) : St := ⟨tr0 gs, G, 1000000000000, [], []⟩
theorem tr0_get : ∀ {gs : Gs} {n : Nat} {o : Obj}, (tr0 gs).get n = some o → ∃ c, (n, c) ∈ gs ∧ o = .cells c 0 (2, 0) := by
 intro gs
 induction gs with
 | nil => intro n o h; simp [tr0, Tr.get, lget_nil] at h
 | cons x l ih =>
  intro n o h
  simp only [tr0, Tr.get_put] at h
  split at h
  ·rename_i e; subst e; cases h; exact ⟨x.2, List.mem_cons_self .., rfl⟩
  ·obtain ⟨c, h1, h2⟩ := ih h
   exact ⟨c, List.mem_cons_of_mem _ h1, h2⟩
def rn0 (gs : Gs) : Rn := fun n => if glOf gs n then some (n, 0) else none
theorem rn0_some {gs : Gs} {n b k : Nat} (h : rn0 gs n = some (b, k)) : b = n ∧ ∃ x ∈ gs, x.1 = n := by
 unfold rn0 at h
 split at h <;> cases h
 rename_i hg
 obtain ⟨x, h1, h2⟩ := List.any_eq_true.1 hg
 exact ⟨rfl, x, h1, by simpa using h2⟩
def fits (G : Nat) (gs : Gs) : Bool := decide (G ≤ 1000000000000) && gs.all fun x => decide (x.1 < G) && x.2.toList.all flat1
def bs0 (G : Nat) (w : World) : Bs := ⟨w.heap.size, w, G, fun n => n < G⟩
theorem we0 {P : Program} {G : Nat} {gs : Gs} {xt : Xt} {w : World} (hf : fits G gs = true) (hw : Held gs w) : WE (envOf P G (glOf gs) xt) (bs0 G w) (rn0 gs) (st0 G gs) w := by
 unfold fits at hf
 simp only [Bool.and_eq_true, decide_eq_true_eq, List.all_eq_true] at hf
 obtain ⟨hG, hf⟩ := hf
 refine ⟨⟨Below.refl _ w, Nat.le_refl _, ?_, ?_, ?_, ?_, Nat.le_refl _, fun n h => .inl h, Nat.le_refl _, hG⟩, ?_⟩
 ·intro n b k h
  obtain ⟨rfl, x, hx, rfl⟩ := rn0_some h
  exact ⟨.inl (hf x hx).1, hw.lt hx⟩
 ·intro n o h
  obtain ⟨c, h1, rfl⟩ := tr0_get h
  obtain ⟨c', e, fr, h2, h3, h4⟩ := hw _ h1
  refine ⟨n, 0, _, ?_, h2, .inr ⟨rfl, c', e, fr, rfl, h3, fun i u v a b => ?_⟩⟩
  ·have : glOf gs n = true := List.any_eq_true.2 ⟨_, h1, by simp⟩
   simp [rn0, this]
  ·rw [h4 i u a] at b; cases b
   exact VR.of_flat ((hf _ h1).2 u (List.mem_of_getElem? (l := c.toList) (i := i) (by simpa using a)))
 ·intro n m o o' b k k' _ _ h1 h2
  obtain ⟨rfl, _⟩ := rn0_some h1
  obtain ⟨rfl, _⟩ := rn0_some h2
  rfl
 ·intro n b k hn h
  obtain ⟨rfl, x, hx, rfl⟩ := rn0_some h
  have := (hf x hx).1
  exact absurd hn (Nat.not_le.2 this)
 ·intro g hg
  exact ⟨0, by
   have hg : glOf gs g = true := hg
   simp [rn0, hg]⟩
def says (r : Option (Except Chain Value × St)) : Bool := match r with
 | some (.ok (.bool true), _) => true
 | _ => false
theorem closed {P : Program} {G : Nat} {gs : Gs} {xt : Xt} {o : Ov} {n : Nat} {f : FuncId} {w : World} (hE : Good (envOf P G (glOf gs) xt)) (hm : P.follows .mixedOrders = true) (hf : fits G gs = true) (hw : Held gs w)
 (ho : OvOk (envOf P G (glOf gs) xt) (bs0 G w) o) (hfn : (fnOf P f).isSome = true) (h : says (acall (envOf P G (glOf gs) xt) o n f #[] (st0 G gs)) = true) : Calls P f #[] w fun e w' => e = .returned (.bool true) ∧ Below w.heap.size w w' := by
 cases e : acall (envOf P G (glOf gs) xt) o n f #[] (st0 G gs) with
 | none => rw [e] at h; cases h
 | some x =>
  obtain ⟨r, s'⟩ := x
  rw [e] at h
  have hr : r = .ok (.bool true) := by
   unfold says at h
   split at h
   ·rename_i h1; cases h1; rfl
   ·cases h
  subst hr
  refine (call_sound hE ho hm n f #[] _ _ _ e hfn (bs0 G w).lo (bs0 G w).old (rn0 gs) w #[] (we0 hf hw) .nil).mono fun e w' hp => ?_
  obtain ⟨q, _, hw', he⟩ := hp
  cases e <;> first | exact he.elim | skip
  have := leaf_eq rfl he
  subst this
  exact ⟨rfl, hw'.wr.below⟩
def awakes (l : List FuncId) : Ov := fun f => if l.contains f then some fun args => if args.size = 0 then mret (.ok (.bool true)) else mno else none
theorem WR.wide {C : Cx} {p : Rn} {s : St} {w w' : World} (h : WR C p s w) (hb : Below w.heap.size w w') : WR C p s w' := by
 refine ⟨h.below.trans (hb.mono h.base), Nat.le_trans h.base hb.size, fun n b k e => ⟨(h.dom n b k e).1, Nat.lt_of_lt_of_le (h.dom n b k e).2 hb.size⟩, fun n o e => ?_, h.inj, h.own, h.ctr, h.far, h.lo, h.room⟩
 obtain ⟨b, k, o', h1, h2, h3⟩ := h.heap n o e
 exact ⟨b, k, o', h1, (hb.block _ (h.dom n b k h1).2).trans h2, h3⟩
theorem awakes_ok {P : Program} {G : Nat} {gs : Gs} {xt : Xt} {w : World} {l : List FuncId} (hw : Held gs w)
 (h : ∀ f ∈ l, ∀ w, Held gs w → Calls P f #[] w fun e w' => e = .returned (.bool true) ∧ Below w.heap.size w w') : OvOk (envOf P G (glOf gs) xt) (bs0 G w) (awakes l) := by
 intro f m hm
 unfold awakes at hm
 split at hm <;> cases hm
 rename_i hf
 have hf : f ∈ l := by simpa using hf
 refine ⟨fun args => .ite (.ret _) .no, fun args s r s' hr lo old p w1 args' h1 ha => ?_⟩
 dsimp only at hr
 split at hr <;> cases hr
 rename_i hs
 have hs' : args' = #[] := by
  have := ha.1
  rw [hs] at this
  exact Array.eq_empty_of_size_eq_zero this.symm
 subst hs'
 refine (h f hf w1 (hw.below h1.wr.below)).mono fun e w' hp => ?_
 obtain ⟨rfl, hb⟩ := hp
 exact ⟨p, Le.refl _, ⟨h1.wr.wide hb, h1.gl⟩, VR.of_leaf rfl⟩
end Go.Ex
namespace Go.Ex
open Go.RowKit
theorem WR.made {C : Cx} {p : Rn} {s : St} {w w' : World} (h : WR C p s w) (ht : s.ctr < s.top) (hb : Below w.heap.size w w') {g k : Nat} {o o' : Obj} (hg : w.heap.size ≤ g) (hw : w'.heap[g]? = some o') (ho : OR (Ex.ext p s.ctr g k) k o o') :
 WR C (Ex.ext p s.ctr g k) (s.fresh o) w' := by
 have hle := h.extend ht g k
 have hlt : g < w'.heap.size := (Array.getElem?_eq_some_iff.1 hw).1
 have h1 := h.wide hb
 have old : ∀ n b j, Ex.ext p s.ctr g k n = some (b, j) → n ≠ s.ctr → p n = some (b, j) := by
  intro n b j e hn; simpa [Ex.ext, hn] using e
 refine ⟨h1.below, h1.base, ?_, ?_, ?_, ?_, by have := h.ctr; simp only [St.fresh]; omega, h.far, by have := h.lo; simp only [St.fresh]; omega, by simp only [St.fresh]; omega⟩
 ·intro n b j e
  by_cases hn : n = s.ctr
  ·subst hn; rw [ext_self] at e; cases e; simp only [St.fresh]; exact ⟨.inr (by have := h.lo; omega), hlt⟩
  ·have := h1.dom n b j (old n b j e hn); simp only [St.fresh]; exact ⟨this.1.imp id (fun h => by omega), this.2⟩
 ·intro n u e
  simp only [St.fresh, Tr.get_put] at e
  split at e
  ·rename_i hn; subst hn; cases e
   exact ⟨g, k, o', ext_self _ _ _ _, hw, ho⟩
  ·obtain ⟨b, j, u', e1, e2, e3⟩ := h1.heap n u e
   exact ⟨b, j, u', hle _ _ e1, e2, e3.le hle⟩
 ·intro n m u u' b k1 k2 e e' f f'
  simp only [St.fresh, Tr.get_put] at e e'
  split at e
  ·rename_i hn
   split at e'
   ·rename_i hm; rw [hn, hm]
   ·rename_i hm
    subst hn
    rw [ext_self] at f; cases f
    have := (h.dom _ _ _ (old _ _ _ f' hm)).2
    omega
  ·rename_i hn
   split at e'
   ·rename_i hm
    subst hm
    rw [ext_self] at f'; cases f'
    have := (h.dom _ _ _ (old _ _ _ f hn)).2
    omega
   ·rename_i hm
    exact h.inj n m u u' b k1 k2 e e' (old _ _ _ f hn) (old _ _ _ f' hm)
 ·intro n b j hG e
  by_cases hn : n = s.ctr
  ·subst hn; rw [ext_self] at e; cases e; have := h.base; omega
  ·exact h.own n b j hG (old _ _ _ e hn)
def orOv (x y : Ov) : Ov := fun f => match x f with
 | some m => some m
 | none => y f
theorem OvOk.or {E : Env} {B : Bs} {x y : Ov} (h : OvOk E B x) (k : OvOk E B y) : OvOk E B (orOv x y) := by
 intro f m e
 unfold orOv at e
 cases hx : x f with
 | some m' => rw [hx] at e; cases e; exact h f m hx
 | none => rw [hx] at e; exact k f m e
def ansOf (r : Option (Except Chain Value × St)) : Option Value := match r with
 | some (.ok v, _) => some v
 | _ => none
def flatT (v : Value) : Bool := leaf v || (match v with | .agg c => c.toList.all leaf | .tuple c => c.toList.all leaf | _ => false)
theorem leaves_eq {p : Rn} {c c' : Array Value} (h : c.toList.all leaf = true) (k : Arr (VR p) c c') : c' = c := by
 refine Array.ext k.1.symm fun i a b => ?_
 refine leaf_eq (List.all_eq_true.1 h _ ?_) (k.2 i _ _ (Array.getElem?_eq_getElem b) (Array.getElem?_eq_getElem a))
 exact List.mem_of_getElem? (l := c.toList) (i := i) (by simp [b])
theorem flatT_eq {p : Rn} {v v' : Value} (h : flatT v = true) (k : VR p v v') : v' = v := by
 unfold flatT at h
 rw [Bool.or_eq_true] at h
 rcases h with h | h
 ·exact leaf_eq h k
 ·split at h
  ·obtain ⟨c', rfl, hc⟩ := k.inv; exact congrArg _ (leaves_eq h hc)
  ·obtain ⟨c', rfl, hc⟩ := k.inv; exact congrArg _ (leaves_eq h hc)
  ·cases h
theorem closedV {P : Program} {G : Nat} {gs : Gs} {xt : Xt} {o : Ov} {n : Nat} {f : FuncId} {w : World} {args : Array Value} {v : Value} (hE : Good (envOf P G (glOf gs) xt)) (hm : P.follows .mixedOrders = true) (hf : fits G gs = true) (hw : Held gs w)
 (ho : OvOk (envOf P G (glOf gs) xt) (bs0 G w) o) (hfn : (fnOf P f).isSome = true) (ha : args.toList.all flat1 = true) (hv : flatT v = true) (h : ansOf (acall (envOf P G (glOf gs) xt) o n f args (st0 G gs)) = some v) : Calls P f args w fun e w' => e = .returned v ∧ Below w.heap.size w w' := by
 cases e : acall (envOf P G (glOf gs) xt) o n f args (st0 G gs) with
 | none => rw [e] at h; cases h
 | some x =>
  obtain ⟨r, s'⟩ := x
  rw [e] at h
  cases r with
  | error _ => cases h
  | ok u =>
   cases h
   have harg : Arr (VR (rn0 gs)) args args := AL.arr (fun p x hx => VR.of_flat (List.all_eq_true.1 ha x hx)) _
   refine (call_sound hE ho hm n f args _ _ _ e hfn (bs0 G w).lo (bs0 G w).old (rn0 gs) w args (we0 hf hw) harg).mono fun e w' hp => ?_
   obtain ⟨q, _, hw', he⟩ := hp
   cases e <;> first | exact he.elim | skip
   have := flatT_eq hv he
   subst this
   exact ⟨rfl, hw'.wr.below⟩
end Go.Ex

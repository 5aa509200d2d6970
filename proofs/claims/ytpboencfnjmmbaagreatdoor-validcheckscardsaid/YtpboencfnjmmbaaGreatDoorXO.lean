/-
  Codes and calls, by names of blocks, and in memory.
  Conditions: as each theorem says. (No program is named here.)
-/
import Derived.Test.YtpboencfnjmmbaaGreatDoorXN
import Derived.Scope
namespace Go.Ex
set_option linter.unusedVariables false
open Go.RowKit

theorem Loc.logged {β : Type} {m : M β} (h : Loc m) : Loc (logged m) := by
  intro s b s' hs
  unfold Ex.logged at hs
  cases e : m { s with rd := [], wr := [] } with
  | none => rw [e] at hs; cases hs
  | some x =>
    obtain ⟨c, s1⟩ := x
    rw [e] at hs
    simp only [Option.some.injEq, Prod.mk.injEq] at hs
    obtain ⟨rfl, rfl⟩ := hs
    obtain ⟨r, w, g1, g2, g3, g3t, g3r, g4, g5⟩ := h _ _ _ e
    simp only [List.append_nil] at g1 g2
    refine ⟨r, w, by rw [← g1], by rw [← g2], g3, g3t, g3r, g4, fun t ht htt hag => ?_⟩
    obtain ⟨t', f1, f2, f2t, f3, f4, f5⟩ := g5 { t with rd := [], wr := [] } ht htt hag
    simp only [List.append_nil] at f3 f4
    refine ⟨{ t' with rd := t'.rd ++ t.rd, wr := t'.wr ++ t.wr }, ?_, f2, f2t, by rw [← f3], by rw [← f4], f5⟩
    unfold Ex.logged
    rw [f1]
    simp only [ht, f2, f3, f4, g1, g2]

theorem Loc.dgo {E : Env} {call : Call} (h : ∀ f args, Loc (call f args)) (ops : Array Oper) : ∀ (l : List Oper) (a : AA) (acc : List Rec), Loc (dgo E call ops l a acc) := by
  intro l
  induction l with
  | nil => intro a acc; exact .ret _
  | cons o l ih =>
    intro a acc
    unfold Ex.dgo
    refine .ite .no ((Loc.logged (Loc.dstep h _ _ _)).bind fun r => ?_)
    cases a.put o.dst r.1 with
    | none => exact .no
    | some a' => exact ih _ _
theorem Loc.draw {E : Env} {call : Call} (h : ∀ f args, Loc (call f args)) (ops : Array Oper) (a : AA) : Loc (adraw E call ops a) := by
  refine (Loc.ite (c := shapely ops = true) ((Loc.dgo (E := E) h ops ops.toList a []).bind (f := fun x => if (unord ops.toList).all fun y => compat (x.2.getD y.1 ⟨0, 0, [], []⟩) (x.2.getD y.2 ⟨0, 0, [], []⟩) then mret x.1 else mno) fun x => .ite (.ret _) .no) Loc.no).congr fun s => ?_
  unfold adraw
  by_cases hs : shapely ops = true
  · rw [if_pos hs, if_pos hs]
    unfold mb
    cases Ex.dgo E call ops ops.toList a [] s with
    | none => rfl
    | some x =>
      obtain ⟨⟨a', rs⟩, s'⟩ := x
      dsimp only
      split <;> rfl
  · rw [if_neg hs, if_neg hs]; rfl

theorem Loc.region {E : Env} {call : Call} (h : ∀ f args, Loc (call f args)) (ops : Array Oper) : ∀ (l : List Oper) (a : AA), Loc (aregion E call ops l a) := by
  intro l
  induction l with
  | nil => intro a; exact .ret _
  | cons o l ih =>
    intro a
    unfold aregion
    cases aguard ops a o with
    | none => exact .no
    | some t =>
      cases t with
      | true =>
        refine (Loc.step h _ _).bind fun r => ?_
        cases r with
        | error c => exact .ret _
        | ok a' => exact ih _
      | false =>
        refine (Loc.put _ _ _).bind fun r => ?_
        cases r with
        | error c => exact .no
        | ok a' => exact ih _
theorem Loc.loop {f : AA → M (Exit × AA)} (h : ∀ a, Loc (f a)) : ∀ (n : Nat) (a : AA), Loc (aloop f n a) := by
  intro n
  induction n with
  | zero => intro a; exact .no
  | succ n ih =>
    intro a
    unfold aloop
    refine (h a).bind fun r => ?_
    cases r.1 <;> first | exact ih _ | exact .ret _
theorem Loc.code {E : Env} {call : Call} (h : ∀ f args, Loc (call f args)) : ∀ (c : Code) (a : AA), Loc (acode E call c a) := by
  intro c
  induction c with
  | skip => intro a; exact .ret _
  | label l => intro a; exact .ret _
  | exit id => intro a; exact .ret _
  | goto l => intro a; exact .ret _
  | ret => intro a; exact .ret _
  | seq x y ihx ihy =>
    intro a
    unfold acode
    refine (ihx a).bind fun r => ?_
    cases r.1 <;> first | exact ihy _ | exact .ret _
  | cond c x y ihx ihy =>
    intro a
    unfold acode
    split
    · exact ihx a
    · exact ihy a
    · exact .no
  | block id b ih =>
    intro a
    unfold acode
    refine (ih a).bind fun r => ?_
    split
    · exact .ite (.ret _) (.ret _)
    · exact .ret _
  | loop b ih => intro a; exact Loc.loop ih _ _
  | scope b ih =>
    intro a
    unfold acode
    refine (ih a).bind fun r => ?_
    split
    · exact .no
    · exact .ret _
  | region id ops draw =>
    intro a
    unfold acode
    refine .ite ((Loc.draw h _ _).bind fun _ => .ret _) ((Loc.region h _ _ _).bind fun r => ?_)
    cases r with
    | ok a' => exact .ret _
    | error x => obtain ⟨c, a'⟩ := x; exact .ret _
  | rangeFunc f ps x y => intro a; exact .no
  | refuse w => intro a; exact .no

/-- What a code's ends are told by. -/
def ExR (q : Rn) : Exit → Exit → Prop
  | .normal, .normal => True
  | .exit i, .exit j => i = j
  | .goto i, .goto j => i = j
  | .ret, .ret => True
  | .panic c, .panic d => ChR q c d
  | _, _ => False
theorem ExR.le {p q : Rn} (l : Le p q) {e e' : Exit} (h : ExR p e e') : ExR q e e' := by
  cases e <;> cases e' <;> first | exact h | exact ChR.le l h
def Post (E : Env) (B : Bs) (p : Rn) (s' : St) (r : Exit × AA) : Exit → Act → World → Prop := fun e b w => ∃ q, Le p q ∧ WE E B q s' w ∧ ExR q r.1 e ∧ ARL q r.2 b
theorem Post.le {E : Env} {B : Bs} {p q : Rn} {s' : St} {r : Exit × AA} (l : Le p q) {e : Exit} {b : Act} {w : World} (h : Post E B q s' r e b w) : Post E B p s' r e b w := by
  obtain ⟨q', l', h⟩ := h; exact ⟨q', l.trans l', h⟩

section
variable {E : Env} {B : Bs} {call : Call} {p : Rn} {s s' : St} {w : World} {a a' : AA} {b : Act}

theorem region_sound (hE : Good E) (hcall : CallOk E B call) {ops : Array Oper} {Q : Exit → Act → World → Prop} : ∀ (l : List Oper) {p : Rn} {s : St} {w : World} {a : AA} {b : Act} {r : Except (Chain × AA) AA}, WE E B p s w → ARL p a b → aregion E call ops l a s = some (r, s') →
    (∀ q w' a' b', Le p q → WE E B q s' w' → r = .ok a' → ARL q a' b' → Q .normal b' w') → (∀ q w' c c' a' b', Le p q → WE E B q s' w' → r = .error (c, a') → ChR q c c' → ARL q a' b' → Q (.panic c') b' w') → wpList E.P ops Q l b w := by
  intro l
  induction l with
  | nil => intro p s w a b r hw ha h h1 _; cases h; exact h1 p w a b (Le.refl _) hw rfl ha
  | cons o l ih =>
    intro p s w a b r hw ha h h1 h2
    unfold aregion at h
    cases hg : aguard ops a o with
    | none => rw [hg] at h; cases h
    | some t =>
      rw [hg] at h
      have hwant := guard_rel ha hg
      unfold wpList
      cases t with
      | true =>
        obtain ⟨r1, s1, h3, h4⟩ := mb_some h
        rw [if_pos hwant]
        left
        refine step_sound hE hcall hw ha h3 ⟨fun q w' a1 a0 b0 v v' l1 hw' hr har hpu hv _ => ?_, fun q w' c c' l1 hw' hr hc => ?_⟩
        · subst hr
          exact ih hw' (put_rel har hpu hv) h4 (fun q' w2 a2 b2 l2 => h1 q' w2 a2 b2 (l1.trans l2)) (fun q' w2 c c' a2 b2 l2 => h2 q' w2 c c' a2 b2 (l1.trans l2))
        · subst hr; cases h4
          exact h2 q w' c c' a b l1 hw' rfl hc (ha.le l1)
      | false =>
        obtain ⟨r1, s1, h3, h4⟩ := mb_some h
        rw [if_neg (by rw [hwant]; simp)]
        obtain ⟨a1, e2, rfl, rfl⟩ := aput_some h3
        exact ih hw (put_rel ha e2 (VR.undef _)) h4 h1 h2

theorem wp_loop_fuel {P : Program} {c : Code} {Q : Exit → Act → World → Prop} {Gd : Nat → Act → World → Prop} (h0 : ∀ a w, ¬ Gd 0 a w) (hs : ∀ n a w, Gd (n + 1) a w → c.wp P (Exit.then (Gd n) Q) a w) (n : Nat) (a : Act) (w : World) (h : Gd n a w) : (Code.loop c).wp P Q a w := by
  intro b k cs
  have key : ∀ n a w, Gd n a w → ∃ e a' w', Q e a' w' ∧ Arrives P (lone (b.at a (.code c :: .inLoop c :: k)) cs w) b k cs e a' w' := by
    intro n
    induction n with
    | zero => intro a w h; exact (h0 a w h).elim
    | succ n ih =>
      intro a w h
      obtain ⟨e, a₁, w₁, hq, harr⟩ := hs n a w h b (.inLoop c :: k) cs
      cases e with
      | normal =>
        obtain ⟨e₂, a₂, w₂, hq₂, harr₂⟩ := ih a₁ w₁ hq
        exact ⟨e₂, a₂, w₂, hq₂, .of_steps (Steps.trans harr (.one step_inLoop)) harr₂⟩
      | exit id => exact ⟨_, a₁, w₁, hq, .pass (x := .inLoop c) rfl (fun _ _ => .inl (by simp)) harr⟩
      | goto l => exact ⟨_, a₁, w₁, hq, .pass (x := .inLoop c) rfl (fun _ _ => .inl (by simp)) harr⟩
      | ret => exact ⟨_, a₁, w₁, hq, .pass (x := .inLoop c) rfl (fun _ _ => .inl (by simp)) harr⟩
      | panic ch => exact ⟨_, a₁, w₁, hq, .pass (x := .inLoop c) rfl (fun _ _ => .inl (by simp)) harr⟩
      | outgrown => exact ⟨_, a₁, w₁, hq, .pass (x := .inLoop c) rfl (fun _ _ => .inl (by simp)) harr⟩
  obtain ⟨e, a', w', hq, harr⟩ := key n a w h
  exact ⟨e, a', w', hq, .of_steps (.one step_loop) harr⟩

theorem code_sound (hE : Good E) (hcall : CallOk E B call) (hloc : ∀ f args, Loc (call f args)) (hm : E.P.follows .mixedOrders = true) : ∀ (c : Code) {p : Rn} {s : St} {w : World} {a : AA} {b : Act} {r : Exit × AA} {s' : St}, WE E B p s w → ARL p a b → acode E call c a s = some (r, s') → c.wp E.P (Post E B p s' r) b w := by
  intro c
  induction c with
  | skip => intro p s w a b r s' hw ha h; cases h; exact wp_skip ⟨p, Le.refl _, hw, trivial, ha⟩
  | label l => intro p s w a b r s' hw ha h; cases h; exact wp_label ⟨p, Le.refl _, hw, trivial, ha⟩
  | exit id => intro p s w a b r s' hw ha h; cases h; exact wp_exit ⟨p, Le.refl _, hw, rfl, ha⟩
  | goto l => intro p s w a b r s' hw ha h; cases h; exact wp_goto ⟨p, Le.refl _, hw, rfl, ha⟩
  | ret => intro p s w a b r s' hw ha h; cases h; exact wp_ret ⟨p, Le.refl _, hw, trivial, ha⟩
  | seq x y ihx ihy =>
    intro p s w a b r s' hw ha h
    obtain ⟨r1, s1, h1, h2⟩ := mb_some h
    refine wp_seq (Code.wp_mono (fun e b1 w1 hp => ?_) (ihx hw ha h1))
    obtain ⟨e1, a1⟩ := r1
    obtain ⟨q, l1, hw1, he, ha1⟩ := hp
    cases e1 <;> cases e <;> first | exact he.elim | skip
    · exact Code.wp_mono (fun e b w h => h.le l1) (ihy hw1 ha1 h2)
    all_goals (cases h2; exact ⟨q, l1, hw1, he, ha1⟩)
  | cond c x y ihx ihy =>
    intro p s w a b r s' hw ha h
    unfold acode at h
    cases hc : a.eval E.gl c with
    | none => rw [hc] at h; cases h
    | some v =>
      rw [hc] at h
      have := eval_rel hw ha hc
      cases v <;> first | (cases h; done) | skip
      rename_i t
      cases t
      · exact wp_cond_false (leaf_eq rfl this) (ihy hw ha h)
      · exact wp_cond_true (leaf_eq rfl this) (ihx hw ha h)
  | block id b ih =>
    intro p s w a b r s' hw ha h
    obtain ⟨r1, s1, h1, h2⟩ := mb_some h
    refine wp_block (Code.wp_mono (fun e b1 w1 hp => ?_) (ih hw ha h1))
    obtain ⟨e1, a1⟩ := r1
    obtain ⟨q, l1, hw1, he, ha1⟩ := hp
    cases e1 <;> cases e <;> first | exact he.elim | skip
    · cases h2; exact ⟨q, l1, hw1, he, ha1⟩
    · rename_i i j
      have he : i = j := he
      subst he
      dsimp only at h2
      simp only [Exit.inBlock]
      split at h2
      · rename_i hid; rw [if_pos hid]; cases h2; exact ⟨q, l1, hw1, trivial, ha1⟩
      · rename_i hid; rw [if_neg hid]; cases h2; exact ⟨q, l1, hw1, rfl, ha1⟩
    all_goals (cases h2; exact ⟨q, l1, hw1, he, ha1⟩)
  | loop c ih =>
    intro p s w a b r s' hw ha h
    refine wp_loop_fuel (Gd := fun n b w => ∃ q s1 a1, Le p q ∧ WE E B q s1 w ∧ ARL q a1 b ∧ aloop (acode E call c) n a1 s1 = some (r, s')) ?_ ?_ 100000 b w ⟨p, s, a, Le.refl _, hw, ha, h⟩
    · rintro b w ⟨q, s1, a1, _, _, _, h⟩; cases h
    · rintro n b w ⟨q, s1, a1, l1, hw1, ha1, h⟩
      obtain ⟨r1, s2, h1, h2⟩ := mb_some h
      refine Code.wp_mono (fun e b1 w1 hp => ?_) (ih hw1 ha1 h1)
      obtain ⟨e1, a2⟩ := r1
      obtain ⟨q2, l2, hw2, he, ha2⟩ := hp
      cases e1 <;> cases e <;> first | exact he.elim | skip
      · exact ⟨q2, s2, a2, l1.trans l2, hw2, ha2, h2⟩
      all_goals (cases h2; exact ⟨q2, l1.trans l2, hw2, he, ha2⟩)
  | scope c ih =>
    intro p s w a b r s' hw ha h
    obtain ⟨r1, s1, h1, h2⟩ := mb_some h
    refine wp_scope_straight (Code.wp_mono (fun e b1 w1 hp => ?_) (ih hw ha h1))
    obtain ⟨e1, a1⟩ := r1
    obtain ⟨q, l1, hw1, he, ha1⟩ := hp
    cases e1 <;> cases e <;> first | exact he.elim | (cases h2; done) | (cases h2; exact ⟨q, l1, hw1, he, ha1⟩)
  | region id ops draw =>
    intro p s w a b r s' hw ha h
    unfold acode at h
    split at h
    · rename_i hdr
      subst hdr
      obtain ⟨a1, s1, h1, h2⟩ := mb_some h
      cases h2
      exact draw_sound hE hcall hloc hm hw ha h1 fun q w' b' l1 hw1 ha1 => ⟨q, l1, hw1, trivial, ha1⟩
    · rename_i hdr
      have hdr : draw = false := by simpa using hdr
      subst hdr
      obtain ⟨r1, s1, h1, h2⟩ := mb_some h
      refine wp_region_list ?_
      cases r1 with
      | ok a1 =>
        cases h2
        exact region_sound hE hcall ops.toList hw ha h1 (fun q w' a' b' l1 hw1 hr ha1 => by cases hr; exact ⟨q, l1, hw1, trivial, ha1⟩) fun q w' c c' a' b' l1 hw1 hr => by cases hr
      | error x =>
        obtain ⟨c, a1⟩ := x
        cases h2
        refine region_sound hE hcall ops.toList hw ha h1 (fun q w' a' b' l1 hw1 hr ha1 => by cases hr) fun q w' c c' a' b' l1 hw1 hr hc ha1 => ?_
        cases hr
        exact ⟨q, l1, hw1, hc, ha1⟩
  | rangeFunc f ps x y => intro p s w a b r s' hw ha h; cases h
  | refuse y => intro p s w a b r s' hw ha h; cases h
end
end Go.Ex

/-
  The grammar on two rows of tokens that are alike but for where they stand, the second of which may go on where the first ends: what is read is alike.
  Conditions: none. (No program is named here.)
-/
import Derived.Test.YthghjnkeofkoiaaGreatDoorZPbA
import Derived.Test.YthghjnkeofkoiaaGreatDoorZPz
namespace Go.Proofs.YthghjnkeofkoiaaGreatDoor.PM
open LM TM
set_option linter.unusedVariables false
mutual
def zE : TE → TE
  | .mk op num text parts params body => .mk op num text (zEs parts) params (zSs body)
def zEs : List TE → List TE
  | [] => []
  | e :: l => zE e :: zEs l
def zS : TS → TS
  | .mk k n xs b e _ => .mk k n (zEs xs) (zSs b) (zSs e) 0
def zSs : List TS → List TS
  | [] => []
  | s :: l => zS s :: zSs l
end
theorem zEs_app : ∀ l m : List TE, zEs (l ++ m) = zEs l ++ zEs m
  | [], m => rfl
  | e :: l, m => by rw [List.cons_append, zEs, zEs_app l m, zEs]; rfl
theorem zSs_app : ∀ l m : List TS, zSs (l ++ m) = zSs l ++ zSs m
  | [], m => rfl
  | e :: l, m => by rw [List.cons_append, zSs, zSs_app l m, zSs]; rfl
theorem zEs_mk (op : Nat) {l m : List TE} (h : zEs l = zEs m) : zE (mkE op l) = zE (mkE op m) := by simp only [mkE, zE, h]
theorem zS_set (a b : Nat) {s t : TS} (h : zS s = zS t) : zS (setAt a s) = zS (setAt b t) := by
  cases s; cases t
  simpa only [setAt, zS, TS.mk.injEq, and_true] using h
abbrev RE (x y : TE) : Prop := zE x = zE y
abbrev RL (x y : List TE) : Prop := zEs x = zEs y
abbrev RT (x y : TS) : Prop := zS x = zS y
abbrev RB (x y : List TS) : Prop := zSs x = zSs y
inductive Ext (Z : List Tok) : List Tok → List Tok → Prop where
  | fin (t : Tok) (h : t.kind = 0) : Ext Z [t] Z
  | step {t u : Tok} {l m : List Tok} (hk : t.kind ≠ 0) (hc : t.core = u.core) (h : Ext Z l m) : Ext Z (t :: l) (u :: m)
def Fine (Z l : List Tok) : Prop := 2 ≤ l.length ∨ (hd0 Z).kind = 0
theorem Fine.up {Z l m : List Tok} (h : Fine Z l) (hl : l.length ≤ m.length) : Fine Z m := h.imp (fun h => by omega) id
theorem core_kind {t u : Tok} (h : t.core = u.core) : t.kind = u.kind := by simp only [Tok.core, Prod.mk.injEq] at h; exact h.1
theorem core_text {t u : Tok} (h : t.core = u.core) : t.text = u.text := by simp only [Tok.core, Prod.mk.injEq] at h; exact h.2.1
theorem core_num {t u : Tok} (h : t.core = u.core) : t.num = u.num := by simp only [Tok.core, Prod.mk.injEq] at h; exact h.2.2
theorem Ext.hd {Z t1 t2 : List Tok} (h : Ext Z t1 t2) (hF : Fine Z t1) : ((hd0 t1).kind ≠ 0 ∧ (hd0 t1).core = (hd0 t2).core) ∨ ((hd0 t1).kind = 0 ∧ (hd0 t2).kind = 0) := by
  cases h with
  | fin t h =>
    rcases hF with h1 | h1
    · simp at h1
    · exact .inr ⟨h, h1⟩
  | step hk hc h => exact .inl ⟨hk, hc⟩
theorem Ext.tl {Z t1 t2 : List Tok} (h : Ext Z t1 t2) (hk : (hd0 t1).kind ≠ 0) : Ext Z t1.tail t2.tail ∧ (hd0 t1).core = (hd0 t2).core := by
  cases h with
  | fin t h => exact absurd h hk
  | step hk hc h => exact ⟨h, hc⟩
structure In {α : Type} (Z : List Tok) (F : List Tok → Prop) (R : α → α → Prop) (f f' : List Tok → PR α) : Prop where
  kp : ∀ ts, GoodT ts → ∀ x ts', f ts = .ok x ts' → GoodT ts' ∧ ts'.length ≤ ts.length
  kp' : ∀ ts, GoodT ts → ∀ x ts', f' ts = .ok x ts' → GoodT ts' ∧ ts'.length ≤ ts.length
  iv : ∀ t1 t2, Ext Z t1 t2 → GoodT t1 → GoodT t2 → ∀ x r1, f t1 = .ok x r1 → F r1 → ∃ y r2, f' t2 = .ok y r2 ∧ R x y ∧ Ext Z r1 r2
section
variable {α β : Type} {Z : List Tok} {F G : List Tok → Prop} {R : α → α → Prop} {S : β → β → Prop}
theorem In.bindG {f f' : List Tok → PR α} {g g' : α → List Tok → PR β} (hf : In Z F R f f') (hR : ∀ x, R x x) (hg : ∀ x y, R x y → In Z G S (g x) (g' y)) (hFG : ∀ x r r1 y, GoodT r → g x r = .ok y r1 → G r1 → F r) : In Z G S (fun ts => (f ts).bind g) (fun ts => (f' ts).bind g') := by
  refine ⟨fun ts hG x ts' h => ?_, fun ts hG x ts' h => ?_, fun t1 t2 hE g1 g2 z r1 h hF => ?_⟩
  · obtain ⟨y, ts1, h1, h2⟩ := PR.bind_ok h
    obtain ⟨a1, a2⟩ := hf.kp ts hG y ts1 h1
    obtain ⟨b1, b2⟩ := (hg y y (hR y)).kp ts1 a1 x ts' h2
    exact ⟨b1, by omega⟩
  · obtain ⟨y, ts1, h1, h2⟩ := PR.bind_ok h
    obtain ⟨a1, a2⟩ := hf.kp' ts hG y ts1 h1
    obtain ⟨b1, b2⟩ := (hg y y (hR y)).kp' ts1 a1 x ts' h2
    exact ⟨b1, by omega⟩
  · obtain ⟨x, ts1, h1, h2⟩ := PR.bind_ok h
    obtain ⟨a1, a2⟩ := hf.kp t1 g1 x ts1 h1
    obtain ⟨y, ts2, e1, e2, e3⟩ := hf.iv t1 t2 hE g1 g2 x ts1 h1 (hFG x ts1 r1 z a1 h2 hF)
    obtain ⟨b1, b2⟩ := hf.kp' t2 g2 y ts2 e1
    obtain ⟨z', r2, q1, q2, q3⟩ := (hg x y e2).iv ts1 ts2 e3 a1 b1 z r1 h2 hF
    exact ⟨z', r2, by simp only [e1, PR.bind, q1], q2, q3⟩
theorem In.bind {f f' : List Tok → PR α} {g g' : α → List Tok → PR β} (hf : In Z (Fine Z) R f f') (hR : ∀ x, R x x) (hg : ∀ x y, R x y → In Z (Fine Z) S (g x) (g' y)) : In Z (Fine Z) S (fun ts => (f ts).bind g) (fun ts => (f' ts).bind g') :=
  hf.bindG hR hg fun x r r1 y hG h hF => hF.up ((hg x x (hR x)).kp r hG y r1 h).2
theorem In.bind0 {f f' : List Tok → PR α} {g g' : α → List Tok → PR β} (hf : In Z (Fine Z) R f f') (hR : ∀ x, R x x) (hg : ∀ x y, R x y → In Z G S (g x) (g' y)) (he : ∀ x, Eats (g x)) : In Z G S (fun ts => (f ts).bind g) (fun ts => (f' ts).bind g') :=
  hf.bindG hR hg fun x r r1 y hG h hF => by
    obtain ⟨h1, h2⟩ := he x r hG y r1 h
    have := h1.pos
    exact .inl (by omega)
theorem In.weak {f f' : List Tok → PR α} (hf : In Z F R f f') (h : ∀ r, G r → F r) : In Z G R f f' := ⟨hf.kp, hf.kp', fun t1 t2 hE g1 g2 x r1 q hG => hf.iv t1 t2 hE g1 g2 x r1 q (h r1 hG)⟩
theorem in_ok {x y : α} (h : R x y) : In Z F R (fun ts => .ok x ts) (fun ts => .ok y ts) :=
  ⟨fun ts hG z ts' h => keep_ok hG h, fun ts hG z ts' h => keep_ok hG h, fun t1 t2 hE g1 g2 z r1 q hF => by cases q; exact ⟨y, t2, rfl, h, hE⟩⟩
theorem in_fail (e e' : Nat) : In Z F R (pFail (α := α) e) (pFail e') :=
  ⟨fun ts hG z ts' h => (by cases h), fun ts hG z ts' h => (by cases h), fun t1 t2 hE g1 g2 z r1 q hF => (by cases q)⟩
theorem in_bad (a e a' e' : Nat) : In Z F R (fun _ => PR.bad (α := α) a e) (fun _ => PR.bad a' e') :=
  ⟨fun ts hG z ts' h => (by cases h), fun ts hG z ts' h => (by cases h), fun t1 t2 hE g1 g2 z r1 q hF => (by cases q)⟩
theorem cond_tl {ts : List Tok} {c : Tok → Bool} (hc0 : ∀ t : Tok, t.kind = 0 → c t = false) (h : c (hd0 ts) = true) : (hd0 ts).kind ≠ 0 := fun e => by rw [hc0 _ e] at h; cases h
theorem in_hd (c : Tok → Bool) (hc0 : ∀ t : Tok, t.kind = 0 → c t = false) (hcc : ∀ t u : Tok, t.core = u.core → c t = c u) {f f' : Tok → List Tok → PR α} {g g' : List Tok → PR α} (hf : ∀ t u : Tok, t.core = u.core → In Z F R (f t) (f' u)) (hg : In Z F R g g') (hFz : ∀ t1, GoodT t1 → ∀ x r1, g t1 = .ok x r1 → F r1 → Fine Z t1 ∨ c (hd0 Z) = false) :
    In Z F R (fun ts => if c (hd0 ts) = true then f (hd0 ts) ts.tail else g ts) (fun ts => if c (hd0 ts) = true then f' (hd0 ts) ts.tail else g' ts) := by
  refine ⟨fun ts hG x ts' h => ?_, fun ts hG x ts' h => ?_, fun t1 t2 hE g1 g2 x r1 h hF => ?_⟩
  · by_cases hc : c (hd0 ts) = true
    · simp only [if_pos hc] at h
      have hk := cond_tl hc0 hc
      obtain ⟨a, b⟩ := (hf _ _ rfl).kp _ (hG.tl hk) x ts' h
      have := hG.len
      exact ⟨a, by omega⟩
    · simp only [if_neg hc] at h
      exact hg.kp ts hG x ts' h
  · by_cases hc : c (hd0 ts) = true
    · simp only [if_pos hc] at h
      have hk := cond_tl hc0 hc
      obtain ⟨a, b⟩ := (hf _ _ rfl).kp' _ (hG.tl hk) x ts' h
      have := hG.len
      exact ⟨a, by omega⟩
    · simp only [if_neg hc] at h
      exact hg.kp' ts hG x ts' h
  · by_cases hc : c (hd0 t1) = true
    · have hk := cond_tl hc0 hc
      obtain ⟨e1, e2⟩ := hE.tl hk
      have hk2 : (hd0 t2).kind ≠ 0 := by rw [← core_kind e2]; exact hk
      simp only [if_pos hc] at h
      obtain ⟨y, r2, q1, q2, q3⟩ := (hf _ _ e2).iv _ _ e1 (g1.tl hk) (g2.tl hk2) x r1 h hF
      exact ⟨y, r2, by simp only [← hcc _ _ e2, if_pos hc, q1], q2, q3⟩
    · have hc2 : ¬ c (hd0 t2) = true := by
        simp only [if_neg hc] at h
        by_cases hk : (hd0 t1).kind = 0
        · have hz := hFz t1 g1 x r1 h hF
          cases hE with
          | fin t ht =>
            rcases hz with h1 | h1
            · rcases h1 with h1 | h1
              · simp at h1
              · rw [hc0 _ h1]; simp
            · rw [h1]; simp
          | step hk2 hcr hr => exact absurd hk hk2
        · rw [← hcc _ _ (hE.tl hk).2]; exact hc
      simp only [if_neg hc] at h
      obtain ⟨y, r2, q1, q2, q3⟩ := hg.iv _ _ hE g1 g2 x r1 h hF
      exact ⟨y, r2, by simp only [if_neg hc2, q1], q2, q3⟩
theorem isT_c0 {k : Nat} (hk : k ≠ 0) (s : Bs) : ∀ t : Tok, t.kind = 0 → (t.kind == k && t.text == s) = false := fun t h => by
  rw [h]; simp; intro e; exact absurd e.symm hk
theorem isT_cc (k : Nat) (s : Bs) : ∀ t u : Tok, t.core = u.core → (t.kind == k && t.text == s) = (u.kind == k && u.text == s) := fun t u h => by rw [core_kind h, core_text h]
theorem in_ifG {k : Nat} (hk : k ≠ 0) (s : Bs) {f f' g g' : List Tok → PR α} (hf : In Z F R f f') (hg : In Z F R g g') (hFz : ∀ t1, GoodT t1 → ∀ x r1, g t1 = .ok x r1 → F r1 → Fine Z t1 ∨ isT k s Z = false) :
    In Z F R (fun ts => if isT k s ts = true then f ts.tail else g ts) (fun ts => if isT k s ts = true then f' ts.tail else g' ts) :=
  in_hd (fun t => t.kind == k && t.text == s) (isT_c0 hk s) (isT_cc k s) (f := fun _ => f) (f' := fun _ => f') (fun _ _ _ => hf) hg hFz
theorem in_if {k : Nat} (hk : k ≠ 0) (s : Bs) {f f' g g' : List Tok → PR α} (hf : In Z (Fine Z) R f f') (hg : In Z (Fine Z) R g g') :
    In Z (Fine Z) R (fun ts => if isT k s ts = true then f ts.tail else g ts) (fun ts => if isT k s ts = true then f' ts.tail else g' ts) :=
  in_ifG hk s hf hg fun t1 hG x r1 h hF => .inl (hF.up (hg.kp t1 hG x r1 h).2)
theorem Eats.two {f : List Tok → PR α} (he : Eats f) {t1 : List Tok} (hG : GoodT t1) {x : α} {r1 : List Tok} (h : f t1 = .ok x r1) : Fine Z t1 := by
  obtain ⟨h1, h2⟩ := he t1 hG x r1 h
  have := h1.pos
  exact .inl (by omega)
theorem in_ifE {k : Nat} (hk : k ≠ 0) (s : Bs) {f f' g g' : List Tok → PR α} (hf : In Z F R f f') (hg : In Z F R g g') (he : Eats g) :
    In Z F R (fun ts => if isT k s ts = true then f ts.tail else g ts) (fun ts => if isT k s ts = true then f' ts.tail else g' ts) :=
  in_ifG hk s hf hg fun t1 hG x r1 h hF => .inl (he.two hG h)
abbrev Any (_ : List Tok) : Prop := True
theorem in_must {k : Nat} (hk : k ≠ 0) (s : Bs) {F : List Tok → Prop} {y : β} {S : β → β → Prop} (hS : S y y) : In Z F S (fun ts => if isT k s ts = true then .ok y ts.tail else pFail 1 ts) (fun ts => if isT k s ts = true then .ok y ts.tail else pFail 1 ts) := by
  have h : In Z (fun _ => True) S (fun ts => if isT k s ts = true then .ok y ts.tail else pFail 1 ts) (fun ts => if isT k s ts = true then .ok y ts.tail else pFail 1 ts) := by
    refine ⟨fun ts hG x ts' h => ?_, fun ts hG x ts' h => ?_, fun t1 t2 hE g1 g2 x r1 h hF => ?_⟩
    · by_cases hc : isT k s ts = true
      · simp only [if_pos hc] at h; cases h
        obtain ⟨a, b⟩ := keep_tail hG (isT_kind hc) hk
        exact ⟨a, by omega⟩
      · simp only [if_neg hc] at h; cases h
    · by_cases hc : isT k s ts = true
      · simp only [if_pos hc] at h; cases h
        obtain ⟨a, b⟩ := keep_tail hG (isT_kind hc) hk
        exact ⟨a, by omega⟩
      · simp only [if_neg hc] at h; cases h
    · by_cases hc : isT k s t1 = true
      · simp only [if_pos hc] at h; cases h
        obtain ⟨e1, e2⟩ := hE.tl (by rw [isT_kind hc]; exact hk)
        have : isT k s t2 = true := by rw [← hc]; exact (isT_cc k s _ _ e2).symm
        exact ⟨_, _, by rw [if_pos this], hS, e1⟩
      · simp only [if_neg hc] at h; cases h
  exact h.weak fun _ _ => trivial
theorem in_sign (s : Bs) {F : List Tok → Prop} : In Z F Eq (pSign s) (pSign s) := in_must (y := ()) (by decide) s rfl
theorem in_word (s : Bs) {F : List Tok → Prop} : In Z F Eq (pWord s) (pWord s) := in_must (y := ()) (by decide) s rfl
theorem nameB_c0 : ∀ t : Tok, t.kind = 0 → (t.kind == 1 && !reserved t.text) = false := fun t h => by rw [h]; rfl
theorem nameB_cc : ∀ t u : Tok, t.core = u.core → (t.kind == 1 && !reserved t.text) = (u.kind == 1 && !reserved u.text) := fun t u h => by rw [core_kind h, core_text h]
theorem in_name : In Z (Fine Z) Eq pName pName :=
  in_hd (fun t => t.kind == 1 && !reserved t.text) nameB_c0 nameB_cc (f := fun t ts => PR.ok (⟨t.text.toArray⟩ : ByteArray) ts) (f' := fun t ts => PR.ok (⟨t.text.toArray⟩ : ByteArray) ts) (fun t u h => in_ok (by rw [core_text h])) (in_fail 1 1) fun t1 hG x r1 h hF => by cases h
theorem in_op (tight : Nat) {g g' : List Tok → PR α} {f f' : Nat → List Tok → PR α} (hf : ∀ op, In Z (Fine Z) R (f op) (f' op)) (hg : In Z (Fine Z) R g g') :
    In Z (Fine Z) R (fun ts => match pOp tight ts with | none => g ts | some op => f op ts.tail) (fun ts => match pOp tight ts with | none => g' ts | some op => f' op ts.tail) := by
  refine ⟨fun ts hG x ts' h => ?_, fun ts hG x ts' h => ?_, fun t1 t2 hE g1 g2 x r1 h hF => ?_⟩
  · cases hp : pOp tight ts with
    | none => simp only [hp] at h; exact hg.kp ts hG x ts' h
    | some op =>
      simp only [hp] at h
      obtain ⟨g0, l0⟩ := keep_tail hG (pOp_kind hp) (by decide)
      obtain ⟨a, b⟩ := (hf op).kp _ g0 x ts' h
      exact ⟨a, by omega⟩
  · cases hp : pOp tight ts with
    | none => simp only [hp] at h; exact hg.kp' ts hG x ts' h
    | some op =>
      simp only [hp] at h
      obtain ⟨g0, l0⟩ := keep_tail hG (pOp_kind hp) (by decide)
      obtain ⟨a, b⟩ := (hf op).kp' _ g0 x ts' h
      exact ⟨a, by omega⟩
  · cases hp : pOp tight t1 with
    | none =>
      simp only [hp] at h
      obtain ⟨k1, k2⟩ := hg.kp t1 g1 x r1 h
      have hp2 : pOp tight t2 = none := by
        rcases hE.hd (hF.up k2) with ⟨a, b⟩ | ⟨a, b⟩
        · rw [← hp]; unfold pOp; rw [core_kind b, core_text b]
        · unfold pOp; rw [b]; rfl
      obtain ⟨y, r2, q1, q2, q3⟩ := hg.iv _ _ hE g1 g2 x r1 h hF
      exact ⟨y, r2, by simp only [hp2, q1], q2, q3⟩
    | some op =>
      simp only [hp] at h
      have hk : (hd0 t1).kind ≠ 0 := by rw [pOp_kind hp]; decide
      obtain ⟨e1, e2⟩ := hE.tl hk
      have hp2 : pOp tight t2 = some op := by rw [← hp]; unfold pOp; rw [core_kind e2, core_text e2]
      obtain ⟨y, r2, q1, q2, q3⟩ := (hf op).iv _ _ e1 (g1.tl hk) (g2.tl (by rw [← core_kind e2]; exact hk)) x r1 h hF
      exact ⟨y, r2, by simp only [hp2, q1], q2, q3⟩
end
section
variable {Z : List Tok}
theorem binLoop_iv {lower : List Tok → PR TE} (hl : Eats lower) (hi : In Z (Fine Z) RE lower lower) (tight : Nat) : ∀ (n k k' : Nat) (x x' : TE) (t1 t2 : List Tok), t1.length ≤ n → t1.length < k → t2.length < k' → RE x x' → Ext Z t1 t2 → GoodT t1 → GoodT t2 → ∀ y r1, binLoop lower tight k x t1 = .ok y r1 → Fine Z r1 → ∃ y' r2, binLoop lower tight k' x' t2 = .ok y' r2 ∧ RE y y' ∧ Ext Z r1 r2
  | n, 0, k', x, x', t1, t2, h0, h1, h2, hx, hE, g1, g2, y, r1, h, hF => by omega
  | n, k + 1, 0, x, x', t1, t2, h0, h1, h2, hx, hE, g1, g2, y, r1, h, hF => by omega
  | 0, k + 1, k' + 1, x, x', t1, t2, h0, h1, h2, hx, hE, g1, g2, y, r1, h, hF => by have := g1.pos; omega
  | n + 1, k + 1, k' + 1, x, x', t1, t2, h0, h1, h2, hx, hE, g1, g2, y, r1, h, hF => by
    have hk := keep_binLoop hl tight (k + 1) x t1 g1 y r1 h
    rw [binLoop] at h ⊢
    cases hp : pOp tight t1 with
    | none =>
      rw [hp] at h
      cases h
      have hp2 : pOp tight t2 = none := by
        rcases hE.hd hF with ⟨a, b⟩ | ⟨a, b⟩
        · rw [← hp]; unfold pOp; rw [core_kind b, core_text b]
        · unfold pOp; rw [b]; rfl
      rw [hp2]
      exact ⟨x', t2, rfl, hx, hE⟩
    | some op =>
      rw [hp] at h
      have hk0 : (hd0 t1).kind ≠ 0 := by rw [pOp_kind hp]; decide
      obtain ⟨e1, e2⟩ := hE.tl hk0
      have hk2 : (hd0 t2).kind ≠ 0 := by rw [← core_kind e2]; exact hk0
      have hp2 : pOp tight t2 = some op := by rw [← hp]; unfold pOp; rw [core_kind e2, core_text e2]
      rw [hp2]
      obtain ⟨z, ts1, q1, q2⟩ := PR.bind_ok h
      obtain ⟨a1, a2⟩ := hl _ (g1.tl hk0) z ts1 q1
      have l1 := g1.len
      have l2 := g2.len
      have hF1 : Fine Z ts1 := by
        by_cases ht : tight = 0
        · simp only [if_pos ht] at q2; cases q2; exact hF
        · simp only [if_neg ht] at q2
          exact hF.up (keep_binLoop hl tight k _ ts1 a1 y r1 q2).2
      obtain ⟨z', ts2, b1, b2, b3⟩ := hi.iv _ _ e1 (g1.tl hk0) (g2.tl hk2) z ts1 q1 hF1
      obtain ⟨c1, c2⟩ := hl _ (g2.tl hk2) z' ts2 b1
      have hz : RE (mkE op [x, z]) (mkE op [x', z']) := zEs_mk op (by
        show [zE x, zE z] = [zE x', zE z']
        rw [show zE x = zE x' from hx, show zE z = zE z' from b2])
      by_cases ht : tight = 0
      · simp only [if_pos ht] at q2 ⊢
        cases q2
        exact ⟨_, ts2, by simp only [b1, PR.bind], hz, b3⟩
      · simp only [if_neg ht] at q2 ⊢
        obtain ⟨y', r2, d1, d2, d3⟩ := binLoop_iv hl hi tight n k k' _ _ ts1 ts2 (by omega) (by omega) (by omega) hz b3 a1 c1 y r1 q2 hF
        exact ⟨y', r2, by simp only [b1, PR.bind, d1], d2, d3⟩
theorem in_bin {lower : List Tok → PR TE} (hl : Eats lower) (hi : In Z (Fine Z) RE lower lower) (tight : Nat) : In Z (Fine Z) RE (pBin lower tight) (pBin lower tight) :=
  hi.bind (fun _ => rfl) fun x y hxy => ⟨fun ts hG z ts' h => keep_binLoop hl tight _ x ts hG z ts' h, fun ts hG z ts' h => keep_binLoop hl tight _ y ts hG z ts' h, fun t1 t2 hE g1 g2 z r1 h hF => binLoop_iv hl hi tight t1.length _ _ x y t1 t2 (Nat.le_refl _) (Nat.lt_succ_self _) (Nat.lt_succ_self _) hxy hE g1 g2 z r1 h hF⟩
theorem in_expr {U : List Tok → PR TE} (hU : Eats U) (hi : In Z (Fine Z) RE U U) : In Z (Fine Z) RE (exprF U) (exprF U) :=
  in_bin (eats_bin (eats_bin hU 2) 1) (in_bin (eats_bin hU 2) (in_bin hU hi 2) 1) 0
theorem items_iv {α : Type} {r : α → α → Prop} {R : List α → List α → Prop} (hR : ∀ a b x y, R a b → r x y → R (a ++ [x]) (b ++ [y])) {item : List Tok → PR α} (hl : Eats item) (hi : In Z (Fine Z) r item item) (fin : Bs) : ∀ (n k k' : Nat) (x x' : List α) (t1 t2 : List Tok), t1.length ≤ n → t1.length < k → t2.length < k' → R x x' → Ext Z t1 t2 → GoodT t1 → GoodT t2 → ∀ y r1, pItems item fin k x t1 = .ok y r1 → ∃ y' r2, pItems item fin k' x' t2 = .ok y' r2 ∧ R y y' ∧ Ext Z r1 r2
  | n, 0, k', x, x', t1, t2, h0, h1, h2, hx, hE, g1, g2, y, r1, h => by omega
  | n, k + 1, 0, x, x', t1, t2, h0, h1, h2, hx, hE, g1, g2, y, r1, h => by omega
  | 0, k + 1, k' + 1, x, x', t1, t2, h0, h1, h2, hx, hE, g1, g2, y, r1, h => by have := g1.pos; omega
  | n + 1, k + 1, k' + 1, x, x', t1, t2, h0, h1, h2, hx, hE, g1, g2, y, r1, h => by
    have hlen := eats_items hl fin (k + 1) x t1 g1 y r1 h
    have hp := hlen.1.pos
    have hF1 : Fine Z t1 := .inl (by omega)
    rw [pItems] at h ⊢
    by_cases hc : isT 4 sCO t1 = true
    · rw [if_pos hc] at h
      have hk0 : (hd0 t1).kind ≠ 0 := by rw [isT_kind hc]; decide
      obtain ⟨e1, e2⟩ := hE.tl hk0
      have hk2 : (hd0 t2).kind ≠ 0 := by rw [← core_kind e2]; exact hk0
      have hc2 : isT 4 sCO t2 = true := by rw [← hc]; exact (isT_cc 4 sCO _ _ e2).symm
      rw [if_pos hc2]
      obtain ⟨z, ts1, q1, q2⟩ := PR.bind_ok h
      obtain ⟨a1, a2⟩ := hl _ (g1.tl hk0) z ts1 q1
      have l1 := g1.len
      have l2 := g2.len
      obtain ⟨i1, i2⟩ := eats_items hl fin k _ ts1 a1 y r1 q2
      have i3 := i1.pos
      obtain ⟨z', ts2, b1, b2, b3⟩ := hi.iv _ _ e1 (g1.tl hk0) (g2.tl hk2) z ts1 q1 (.inl (by omega))
      obtain ⟨c1, c2⟩ := hl _ (g2.tl hk2) z' ts2 b1
      obtain ⟨y', r2, d1, d2, d3⟩ := items_iv hR hl hi fin n k k' _ _ ts1 ts2 (by omega) (by omega) (by omega) (hR _ _ _ _ hx b2) b3 a1 c1 y r1 q2
      exact ⟨y', r2, by simp only [b1, PR.bind, d1], d2, d3⟩
    · rw [if_neg hc] at h
      have hc2 : ¬ isT 4 sCO t2 = true := by
        rcases hE.hd hF1 with ⟨a, b⟩ | ⟨a, b⟩
        · intro e; exact hc (by rw [← e]; exact isT_cc 4 sCO _ _ b)
        · intro e; have := isT_kind e; omega
      rw [if_neg hc2]
      obtain ⟨z, ts1, q1, q2⟩ := PR.bind_ok h
      cases q2
      obtain ⟨z', ts2, b1, b2, b3⟩ := (in_sign (Z := Z) (F := Any) fin).iv _ _ hE g1 g2 z _ q1 trivial
      exact ⟨x', ts2, by simp only [b1, PR.bind], hx, b3⟩
theorem in_list {α : Type} {r : α → α → Prop} {R : List α → List α → Prop} (h0 : R [] []) (hr : ∀ x, r x x) (h1 : ∀ x y, r x y → R [x] [y]) (hR : ∀ a b x y, R a b → r x y → R (a ++ [x]) (b ++ [y])) {item : List Tok → PR α} (hl : Eats item) (hi : In Z (Fine Z) r item item) (fin : Bs) : In Z Any R (pList item fin) (pList item fin) := by
  have hb : In Z Any R (fun ts => (item ts).bind fun x ts' => pItems item fin (ts'.length + 1) [x] ts') (fun ts => (item ts).bind fun x ts' => pItems item fin (ts'.length + 1) [x] ts') :=
    hi.bind0 (G := Any) hr (fun x y hxy => ⟨fun ts hG z ts' h => (eats_items hl fin _ _).keep hG h, fun ts hG z ts' h => (eats_items hl fin _ _).keep hG h, fun t1 t2 hE g1 g2 z r1 h _ => items_iv hR hl hi fin t1.length _ _ [x] [y] t1 t2 (Nat.le_refl _) (Nat.lt_succ_self _) (Nat.lt_succ_self _) (h1 x y hxy) hE g1 g2 z r1 h⟩) fun x ts hG z ts' h => eats_items hl fin _ _ ts hG z ts' h
  exact in_ifE (by decide) fin (in_ok h0) hb (Eats.bind hl fun x ts hG z ts' h => (eats_items hl fin _ _).keep hG h)
theorem in_keyW : In Z (Fine Z) RE pKeyW pKeyW := in_name.bind (fun _ => rfl) fun x y h => in_ok (by rw [h])
theorem in_keyE {E : List Tok → PR TE} (hE : In Z (Fine Z) RE E E) : In Z Any RE (pKeyE E) (pKeyE E) :=
  hE.bind0 (fun _ => rfl) (fun x y h => (in_sign (F := Any) sRK).bindG (fun _ => rfl) (fun _ _ _ => in_ok h) fun _ _ _ _ _ _ _ => trivial) fun x => Eats.bind (eats_sign sRK) fun _ ts hG y ts' h => keep_ok hG h
abbrev RP (p q : TE × TE) : Prop := zE p.1 = zE q.1 ∧ zE p.2 = zE q.2
theorem in_field {E : List Tok → PR TE} (hl : Eats E) (hE : In Z (Fine Z) RE E E) : In Z (Fine Z) RP (pField E) (pField E) := by
  have h1 : In Z (Fine Z) RE (fun ts => if isT 4 sLK ts = true then pKeyE E ts.tail else pKeyW ts) (fun ts => if isT 4 sLK ts = true then pKeyE E ts.tail else pKeyW ts) := in_if (by decide) sLK ((in_keyE hE).weak fun _ _ => trivial) in_keyW
  refine h1.bind (fun _ => rfl) fun k k' hk => ?_
  refine ((in_sign (F := Fine Z) sCL).bind (fun _ => rfl) fun _ _ _ => ?_)
  exact hE.bind (fun _ => rfl) fun v v' hv => in_ok ⟨hk, hv⟩
abbrev RPs (l m : List (TE × TE)) : Prop := zEs (flat2 l) = zEs (flat2 m)
theorem flat2_app : ∀ (l : List (TE × TE)) (p : TE × TE), flat2 (l ++ [p]) = flat2 l ++ [p.1, p.2]
  | [], p => rfl
  | q :: l, p => by rw [List.cons_append, flat2, flat2_app l p]; rfl
theorem in_record {E : List Tok → PR TE} (hl : Eats E) (hE : In Z (Fine Z) RE E E) : In Z Any RE (pRecord E) (pRecord E) :=
  (in_list (r := RP) (R := RPs) rfl (fun _ => ⟨rfl, rfl⟩) (fun x y h => by show [zE x.1, zE x.2] = [zE y.1, zE y.2]; rw [h.1, h.2]) (fun a b x y h1 h2 => by
    show zEs (flat2 (a ++ [x])) = zEs (flat2 (b ++ [y]))
    rw [flat2_app, flat2_app, zEs_app, zEs_app, show zEs (flat2 a) = zEs (flat2 b) from h1]
    show _ ++ [zE x.1, zE x.2] = _ ++ [zE y.1, zE y.2]
    rw [h2.1, h2.2]) (eats_field hl) (in_field hl hE) sRB).bindG (fun _ => rfl) (fun l m h => in_ok (zEs_mk 16 h)) fun _ _ _ _ _ _ _ => trivial
theorem RL_snoc (a b : List TE) (x y : TE) (h1 : RL a b) (h2 : RE x y) : RL (a ++ [x]) (b ++ [y]) := by
  show zEs _ = zEs _
  rw [zEs_app, zEs_app, show zEs a = zEs b from h1]
  show _ ++ [zE x] = _ ++ [zE y]
  rw [show zE x = zE y from h2]
theorem RB_snoc (a b : List TS) (x y : TS) (h1 : RB a b) (h2 : RT x y) : RB (a ++ [x]) (b ++ [y]) := by
  show zSs _ = zSs _
  rw [zSs_app, zSs_app, show zSs a = zSs b from h1]
  show _ ++ [zS x] = _ ++ [zS y]
  rw [show zS x = zS y from h2]
theorem in_function {B : List Tok → PR (List TS)} (hl : Eats B) (hB : In Z Any RB B B) : In Z Any RE (pFunction B) (pFunction B) := by
  refine (in_sign (F := Any) sLP).bindG (fun _ => rfl) (fun _ _ _ => ?_) fun _ _ _ _ _ _ _ => trivial
  refine (in_list (r := Eq) (R := Eq) rfl (fun _ => rfl) (fun x y h => by rw [h]) (fun a b x y h1 h2 => by rw [h1, h2]) eats_name in_name sRP).bindG (fun _ => rfl) (fun l m h => ?_) fun _ _ _ _ _ _ _ => trivial
  subst h
  exact hB.bindG (fun _ => rfl) (fun b b' h => in_ok (by simp only [RE, zE]; rw [show zSs b = zSs b' from h])) fun _ _ _ _ _ _ _ => trivial
theorem in_paren {E : List Tok → PR TE} (hE : In Z (Fine Z) RE E E) : In Z Any RE (pParen E) (pParen E) :=
  hE.bind0 (fun _ => rfl) (fun x y h => (in_sign (F := Any) sRP).bindG (fun _ => rfl) (fun _ _ _ => in_ok h) fun _ _ _ _ _ _ _ => trivial) fun x => Eats.bind (eats_sign sRP) fun _ ts hG y ts' h => keep_ok hG h
theorem kind_c0 {k : Nat} (hk : k ≠ 0) : ∀ t : Tok, t.kind = 0 → decide (t.kind = k) = false := fun t h => by rw [h]; exact decide_eq_false fun e => hk e.symm
theorem in_kind {α : Type} {R : α → α → Prop} {k : Nat} (hk : k ≠ 0) {f f' : Tok → List Tok → PR α} {g g' : List Tok → PR α} (hf : ∀ t u : Tok, t.core = u.core → In Z (Fine Z) R (f t) (f' u)) (hg : In Z (Fine Z) R g g') : In Z (Fine Z) R (fun ts => if (hd0 ts).kind = k then f (hd0 ts) ts.tail else g ts) (fun ts => if (hd0 ts).kind = k then f' (hd0 ts) ts.tail else g' ts) := by
  have h := in_hd (fun t => decide (t.kind = k)) (kind_c0 hk) (fun t u h => by rw [core_kind h]) hf hg fun t1 hG x r1 h hF => .inl (hF.up (hg.kp t1 hG x r1 h).2)
  simpa only [decide_eq_true_eq] using h
theorem in_thing {E : List Tok → PR TE} {B : List Tok → PR (List TS)} (hlE : Eats E) (hlB : Eats B) (hE : In Z (Fine Z) RE E E) (hB : In Z Any RB B B) : In Z (Fine Z) RE (pThing E B) (pThing E B) := by
  unfold pThing
  refine in_kind (k := 2) (by decide) (f := fun t ts => PR.ok (TE.mk 3 t.num ⟨#[]⟩ [] [] []) ts) (f' := fun t ts => PR.ok (TE.mk 3 t.num ⟨#[]⟩ [] [] []) ts) (fun t u h => in_ok (by rw [core_num h])) ?_
  refine in_kind (k := 3) (by decide) (f := fun t ts => PR.ok (textE ⟨t.text.toArray⟩) ts) (f' := fun t ts => PR.ok (textE ⟨t.text.toArray⟩) ts) (fun t u h => in_ok (by rw [core_text h])) ?_
  refine in_if (by decide) wNil (in_ok rfl) ?_
  refine in_if (by decide) wTrue (in_ok rfl) ?_
  refine in_if (by decide) wFalse (in_ok rfl) ?_
  refine in_if (by decide) wFn ((in_function hlB hB).weak fun _ _ => trivial) ?_
  refine in_if (by decide) sLP ((in_paren hE).weak fun _ _ => trivial) ?_
  refine in_if (by decide) sLB ((in_record hlE hE).weak fun _ _ => trivial) ?_
  exact in_name.bind (fun _ => rfl) fun x y h => in_ok (by rw [h])
theorem in_with {E : List Tok → PR TE} (hl : Eats E) (hE : In Z (Fine Z) RE E E) {x x' : TE} (hx : RE x x') : In Z Any RL (pWith E x) (pWith E x') :=
  (in_list (r := RE) (R := RL) rfl (fun _ => rfl) (fun x y h => by show [zE x] = [zE y]; rw [show zE x = zE y from h]) RL_snoc hl hE sRP).bindG (fun _ => rfl) (fun l m h => in_ok (by show zE x :: zEs l = zE x' :: zEs m; rw [show zE x = zE x' from hx, show zEs l = zEs m from h])) fun _ _ _ _ _ _ _ => trivial
theorem RE_two {x x' y y' : TE} (op : Nat) (h1 : RE x x') (h2 : RE y y') : RE (mkE op [x, y]) (mkE op [x', y']) := zEs_mk op (by
  show [zE x, zE y] = [zE x', zE y']
  rw [show zE x = zE x' from h1, show zE y = zE y' from h2])
theorem chainLoop_iv {E : List Tok → PR TE} (hl : Eats E) (hi : In Z (Fine Z) RE E E) : ∀ (n k k' : Nat) (x x' : TE) (t1 t2 : List Tok), t1.length ≤ n → t1.length < k → t2.length < k' → RE x x' → Ext Z t1 t2 → GoodT t1 → GoodT t2 → ∀ y r1, chainLoop E k x t1 = .ok y r1 → Fine Z r1 → ∃ y' r2, chainLoop E k' x' t2 = .ok y' r2 ∧ RE y y' ∧ Ext Z r1 r2
  | n, 0, k', x, x', t1, t2, h0, h1, h2, hx, hE, g1, g2, y, r1, h, hF => by omega
  | n, k + 1, 0, x, x', t1, t2, h0, h1, h2, hx, hE, g1, g2, y, r1, h, hF => by omega
  | 0, k + 1, k' + 1, x, x', t1, t2, h0, h1, h2, hx, hE, g1, g2, y, r1, h, hF => by have := g1.pos; omega
  | n + 1, k + 1, k' + 1, x, x', t1, t2, h0, h1, h2, hx, hE, g1, g2, y, r1, h, hF => by
    have hk := keep_chainLoop hl (k + 1) x t1 g1 y r1 h
    have hF1 := hF.up hk.2
    have l1 := g1.len
    have l2 := g2.len
    have hsame : ∀ s : Bs, isT 4 s t1 = isT 4 s t2 := fun s => by
      rcases hE.hd hF1 with ⟨a, b⟩ | ⟨a, b⟩
      · exact isT_cc 4 s _ _ b
      · rw [show isT 4 s t1 = false from isT_c0 (by decide) s _ a, show isT 4 s t2 = false from isT_c0 (by decide) s _ b]
    have htl : ∀ s : Bs, isT 4 s t1 = true → Ext Z t1.tail t2.tail ∧ GoodT t1.tail ∧ GoodT t2.tail := fun s hc => by
      have hk0 : (hd0 t1).kind ≠ 0 := by rw [isT_kind hc]; decide
      have hk2 : (hd0 t2).kind ≠ 0 := by rw [isT_kind ((hsame s).symm.trans hc)]; decide
      exact ⟨(hE.tl hk0).1, g1.tl hk0, g2.tl hk2⟩
    rw [chainLoop] at h ⊢
    rw [← hsame, ← hsame, ← hsame]
    by_cases hc : isT 4 sLP t1 = true
    · rw [if_pos hc] at h ⊢
      obtain ⟨e1, a1, a2⟩ := htl _ hc
      obtain ⟨z, ts1, q1, q2⟩ := PR.bind_ok h
      obtain ⟨c1, c2⟩ := eats_with hl x _ a1 z ts1 q1
      obtain ⟨z', ts2, b1, b2, b3⟩ := (in_with hl hi hx).iv _ _ e1 a1 a2 z ts1 q1 trivial
      obtain ⟨d1, d2⟩ := eats_with hl x' _ a2 z' ts2 b1
      obtain ⟨y', r2, f1, f2, f3⟩ := chainLoop_iv hl hi n k k' _ _ ts1 ts2 (by omega) (by omega) (by omega) (zEs_mk 15 b2) b3 c1 d1 y r1 q2 hF
      exact ⟨y', r2, by simp only [b1, PR.bind, f1], f2, f3⟩
    · rw [if_neg hc] at h ⊢
      by_cases hc2 : isT 4 sLK t1 = true
      · rw [if_pos hc2] at h ⊢
        obtain ⟨e1, a1, a2⟩ := htl _ hc2
        obtain ⟨z, ts1, q1, q2⟩ := PR.bind_ok h
        obtain ⟨c1, c2⟩ := eats_keyE hl _ a1 z ts1 q1
        obtain ⟨z', ts2, b1, b2, b3⟩ := (in_keyE hi).iv _ _ e1 a1 a2 z ts1 q1 trivial
        obtain ⟨d1, d2⟩ := eats_keyE hl _ a2 z' ts2 b1
        obtain ⟨y', r2, f1, f2, f3⟩ := chainLoop_iv hl hi n k k' _ _ ts1 ts2 (by omega) (by omega) (by omega) (RE_two 14 hx b2) b3 c1 d1 y r1 q2 hF
        exact ⟨y', r2, by simp only [b1, PR.bind, f1], f2, f3⟩
      · rw [if_neg hc2] at h ⊢
        by_cases hc3 : isT 4 sPT t1 = true
        · rw [if_pos hc3] at h ⊢
          obtain ⟨e1, a1, a2⟩ := htl _ hc3
          obtain ⟨z, ts1, q1, q2⟩ := PR.bind_ok h
          obtain ⟨c1, c2⟩ := eats_keyW _ a1 z ts1 q1
          have hk2 := keep_chainLoop hl k _ ts1 c1 y r1 q2
          obtain ⟨z', ts2, b1, b2, b3⟩ := in_keyW.iv _ _ e1 a1 a2 z ts1 q1 (hF.up hk2.2)
          obtain ⟨d1, d2⟩ := eats_keyW _ a2 z' ts2 b1
          obtain ⟨y', r2, f1, f2, f3⟩ := chainLoop_iv hl hi n k k' _ _ ts1 ts2 (by omega) (by omega) (by omega) (RE_two 14 hx b2) b3 c1 d1 y r1 q2 hF
          exact ⟨y', r2, by simp only [b1, PR.bind, f1], f2, f3⟩
        · rw [if_neg hc3] at h ⊢
          cases h
          exact ⟨x', t2, rfl, hx, hE⟩
theorem in_chain {E : List Tok → PR TE} {B : List Tok → PR (List TS)} (hlE : Eats E) (hlB : Eats B) (hE : In Z (Fine Z) RE E E) (hB : In Z Any RB B B) : In Z (Fine Z) RE (pChain E B) (pChain E B) :=
  (in_thing hlE hlB hE hB).bind (fun _ => rfl) fun x y hxy => ⟨fun ts hG z ts' h => keep_chainLoop hlE _ x ts hG z ts' h, fun ts hG z ts' h => keep_chainLoop hlE _ y ts hG z ts' h, fun t1 t2 h g1 g2 z r1 q hF => chainLoop_iv hlE hE t1.length _ _ x y t1 t2 (Nat.le_refl _) (Nat.lt_succ_self _) (Nat.lt_succ_self _) hxy h g1 g2 z r1 q hF⟩
theorem in_unary {E U : List Tok → PR TE} {B : List Tok → PR (List TS)} (hlE : Eats E) (hlB : Eats B) (hE : In Z (Fine Z) RE E E) (hB : In Z Any RB B B) (hU : In Z (Fine Z) RE U U) : In Z (Fine Z) RE (pUnary E B U) (pUnary E B U) :=
  in_op 3 (f := fun op ts => (U ts).bind fun x ts' => .ok (mkE op [x]) ts') (f' := fun op ts => (U ts).bind fun x ts' => .ok (mkE op [x]) ts') (fun op => hU.bind (fun _ => rfl) fun x y h => in_ok (zEs_mk op (by show [zE x] = [zE y]; rw [show zE x = zE y from h]))) (in_chain hlE hlB hE hB)
theorem in_value {E : List Tok → PR TE} (hE : In Z (Fine Z) RE E E) : In Z Any RL (pValue E) (pValue E) :=
  hE.bind0 (fun _ => rfl) (fun x y h => (in_sign (F := Any) sSE).bindG (fun _ => rfl) (fun _ _ _ => in_ok (by show [zE x] = [zE y]; rw [show zE x = zE y from h])) fun _ _ _ _ _ _ _ => trivial) fun x => Eats.bind (eats_sign sSE) fun _ ts hG y ts' h => keep_ok hG h
theorem RE_op {x y : TE} (h : RE x y) : exOp x = exOp y ∧ exText x = exText y ∧ zEs (exParts x) = zEs (exParts y) := by
  cases x; cases y
  simp only [RE, zE, TE.mk.injEq] at h
  exact ⟨h.1, h.2.2.1, h.2.2.2.1⟩
theorem in_set {E : List Tok → PR TE} (hE : In Z (Fine Z) RE E E) (a b : Nat) {x y : TE} (hxy : RE x y) : In Z Any RT (pSet E a x) (pSet E b y) := by
  obtain ⟨h1, h2, h3⟩ := RE_op hxy
  unfold pSet
  rw [← h1]
  by_cases h5 : exOp x = 5
  · simp only [if_pos h5]
    exact (in_value hE).bindG (fun _ => rfl) (fun l m h => in_ok (by simp only [RT, zS]; rw [h2, show zEs l = zEs m from h])) fun _ _ _ _ _ _ _ => trivial
  · by_cases h14 : exOp x = 14
    · simp only [if_neg h5, if_pos h14]
      exact (in_value hE).bindG (fun _ => rfl) (fun l m h => in_ok (by simp only [RT, zS, zEs_app]; rw [h3, show zEs l = zEs m from h])) fun _ _ _ _ _ _ _ => trivial
    · simp only [if_neg h5, if_neg h14]
      exact in_bad a 7 b 7
theorem eats_end {E : List Tok → PR TE} (hl : Eats E) (a : Nat) (x : TE) : Eats fun ts' => if isT 4 sEQ ts' = true then pSet E a x ts'.tail else (pSign sSE ts').bind fun _ ts2 => .ok (.mk 8 ⟨#[]⟩ [x] [] [] 0) ts2 := fun ts hG y ts' h => by
  by_cases hc : isT 4 sEQ ts = true
  · simp only [if_pos hc] at h; exact eats_tail (eats_set hl a x) hG (isT_kind hc) (by decide) h
  · simp only [if_neg hc] at h
    exact Eats.bind (eats_sign sSE) (fun _ ts hG y ts' h => keep_ok hG h) ts hG y ts' h
theorem in_simple {E : List Tok → PR TE} (hl : Eats E) (hE : In Z (Fine Z) RE E E) (a b : Nat) : In Z Any RT (pSimple E a) (pSimple E b) :=
  hE.bind0 (fun _ => rfl) (fun x y hxy => in_ifE (by decide) sEQ (in_set hE a b hxy) ((in_sign (F := Any) sSE).bindG (fun _ => rfl) (fun _ _ _ => in_ok (by
    simp only [RT, zS]
    rw [show zEs [x] = [zE x] from rfl, show zEs [y] = [zE y] from rfl, show zE x = zE y from hxy])) fun _ _ _ _ _ _ _ => trivial) (Eats.bind (eats_sign sSE) fun _ ts hG y ts' h => keep_ok hG h)) fun x => eats_end hl a x
theorem in_let {E : List Tok → PR TE} (hl : Eats E) (hE : In Z (Fine Z) RE E E) : In Z Any RT (pLet E) (pLet E) :=
  in_name.bind0 (fun _ => rfl) (fun s t h => (in_sign (F := Any) sEQ).bindG (fun _ => rfl) (fun _ _ _ => (in_value hE).bindG (fun _ => rfl) (fun l m h2 => in_ok (by simp only [RT, zS]; rw [h, show zEs l = zEs m from h2])) fun _ _ _ _ _ _ _ => trivial) fun _ _ _ _ _ _ _ => trivial) fun s => Eats.bind (eats_sign sEQ) fun _ ts hG y ts' h => (Eats.bind (eats_value hl) fun _ ts hG y ts' h => keep_ok hG h).keep hG h
def FineS (Z r : List Tok) : Prop := Fine Z r ∨ isT 1 wElse Z = false
theorem in_question {E : List Tok → PR TE} {B : List Tok → PR (List TS)} (hlE : Eats E) (hlB : Eats B) (hE : In Z (Fine Z) RE E E) (hB : In Z Any RB B B) : In Z (FineS Z) RT (pQuestion E B) (pQuestion E B) := by
  refine hE.bind0 (fun _ => rfl) (fun x y hxy => ?_) fun x => Eats.bind hlB fun b ts hG y ts' h => ?_
  · refine hB.bindG (fun _ => rfl) (fun b b' hb => ?_) fun _ _ _ _ _ _ _ => trivial
    have e1 : zEs [x] = zEs [y] := by rw [show zEs [x] = [zE x] from rfl, show zEs [y] = [zE y] from rfl, show zE x = zE y from hxy]
    refine in_ifG (by decide) wElse (hB.bindG (fun _ => rfl) (fun c c' hc => in_ok (by
      simp only [RT, zS]
      rw [e1, show zSs b = zSs b' from hb, show zSs c = zSs c' from hc])) fun _ _ _ _ _ _ _ => trivial) (in_ok (by simp only [RT, zS]; rw [e1, show zSs b = zSs b' from hb])) fun t1 hG x r1 h hF => by cases h; exact hF
  · split at h
    · next hc =>
      obtain ⟨z, ts1, h1, h2⟩ := PR.bind_ok h
      obtain ⟨g1, l1⟩ := eats_tail hlB hG (isT_kind hc) (by decide) h1
      obtain ⟨g2, l2⟩ := keep_ok g1 h2
      exact ⟨g2, by omega⟩
    · exact keep_ok hG h
theorem in_try {B : List Tok → PR (List TS)} (hlB : Eats B) (hB : In Z Any RB B B) : In Z Any RT (pTry B) (pTry B) := by
  refine hB.bindG (fun _ => rfl) (fun b b' hb => ?_) fun _ _ _ _ _ _ _ => trivial
  refine (in_word (F := Any) wCatch).bindG (fun _ => rfl) (fun _ _ _ => ?_) fun _ _ _ _ _ _ _ => trivial
  refine in_name.bind0 (fun _ => rfl) (fun s t h => ?_) fun s => Eats.bind hlB fun _ ts hG y ts' h => keep_ok hG h
  exact hB.bindG (fun _ => rfl) (fun c c' hc => in_ok (by simp only [RT, zS]; rw [h, show zSs b = zSs b' from hb, show zSs c = zSs c' from hc])) fun _ _ _ _ _ _ _ => trivial
theorem in_stmtAt {E : List Tok → PR TE} {B : List Tok → PR (List TS)} (hlE : Eats E) (hlB : Eats B) (hE : In Z (Fine Z) RE E E) (hB : In Z Any RB B B) (a b : Nat) : In Z (FineS Z) RT (pStmtAt E B a) (pStmtAt E B b) := by
  have hw : ∀ {α : Type} {R : α → α → Prop} {f f' : List Tok → PR α}, In Z Any R f f' → In Z (FineS Z) R f f' := fun h => h.weak fun _ _ => trivial
  have hev : ∀ (k : Nat) (l : List TE), True := fun _ _ => trivial
  have s6 := hw (in_simple hlE hE a b)
  have e6 := eats_simple hlE a
  have eif : ∀ {s : Bs} {f g : List Tok → PR TS}, Eats f → Eats g → Eats (fun ts => if isT 1 s ts = true then f ts.tail else g ts) := fun hf hg ts hG y ts' h => by
    rename_i s0 f0 g0
    by_cases hc : isT 1 s0 ts = true
    · simp only [if_pos hc] at h; exact eats_tail hf hG (isT_kind hc) (by decide) h
    · simp only [if_neg hc] at h; exact hg ts hG y ts' h
  have ev : ∀ k : Nat, Eats (fun ts => (pValue E ts).bind fun l ts' => .ok (TS.mk k ⟨#[]⟩ l [] [] 0) ts') := fun k => Eats.bind (eats_value hlE) fun _ ts hG y ts' h => keep_ok hG h
  have iv : ∀ k : Nat, In Z (FineS Z) RT (fun ts => (pValue E ts).bind fun l ts' => .ok (TS.mk k ⟨#[]⟩ l [] [] 0) ts') (fun ts => (pValue E ts).bind fun l ts' => .ok (TS.mk k ⟨#[]⟩ l [] [] 0) ts') := fun k => (in_value hE).bindG (fun _ => rfl) (fun l m h => in_ok (by simp only [RT, zS]; rw [show zEs l = zEs m from h])) fun _ _ _ _ _ _ _ => trivial
  have ew : Eats (fun ts => (E ts).bind fun x ts' => (B ts').bind fun b ts2 => .ok (TS.mk 4 ⟨#[]⟩ [x] b [] 0) ts2) := Eats.bind hlE fun _ ts hG y ts' h => (Eats.bind hlB fun _ ts hG y ts' h => keep_ok hG h).keep hG h
  have iw : In Z (FineS Z) RT (fun ts => (E ts).bind fun x ts' => (B ts').bind fun b ts2 => .ok (TS.mk 4 ⟨#[]⟩ [x] b [] 0) ts2) (fun ts => (E ts).bind fun x ts' => (B ts').bind fun b ts2 => .ok (TS.mk 4 ⟨#[]⟩ [x] b [] 0) ts2) :=
    hE.bind0 (fun _ => rfl) (fun x y h => hB.bindG (fun _ => rfl) (fun b b' hb => in_ok (by
      simp only [RT, zS]
      rw [show zEs [x] = [zE x] from rfl, show zEs [y] = [zE y] from rfl, show zE x = zE y from h, show zSs b = zSs b' from hb])) fun _ _ _ _ _ _ _ => trivial) fun x => Eats.bind hlB fun _ ts hG y ts' h => keep_ok hG h
  have e5 := eif (s := wTry) (eats_try hlB) e6
  have e4 := eif (s := wWhile) ew e5
  have e3 := eif (s := wIf) (eats_question hlE hlB) e4
  have e2 := eif (s := wThrow) (ev 6) e3
  have e1 := eif (s := wReturn) (ev 5) e2
  have s5 := in_ifE (k := 1) (by decide) wTry (hw (in_try hlB hB)) s6 e6
  have s4 := in_ifE (k := 1) (by decide) wWhile iw s5 e5
  have s3 := in_ifE (k := 1) (by decide) wIf (in_question hlE hlB hE hB) s4 e4
  have s2 := in_ifE (k := 1) (by decide) wThrow (iv 6) s3 e3
  have s1 := in_ifE (k := 1) (by decide) wReturn (iv 5) s2 e2
  exact in_ifE (k := 1) (by decide) wLet (hw (in_let hlE hE)) s1 e1
theorem in_stmt {E : List Tok → PR TE} {B : List Tok → PR (List TS)} (hlE : Eats E) (hlB : Eats B) (hE : In Z (Fine Z) RE E E) (hB : In Z Any RB B B) : In Z (FineS Z) RT (pStmt E B) (pStmt E B) := by
  refine ⟨fun ts hG x ts' h => (eats_stmt hlE hlB).keep hG h, fun ts hG x ts' h => (eats_stmt hlE hlB).keep hG h, fun t1 t2 h g1 g2 x r1 q hF => ?_⟩
  exact ((in_stmtAt hlE hlB hE hB (hd0 t1).pos (hd0 t2).pos).bindG (fun _ => rfl) (fun s t h => in_ok (F := FineS Z) (R := RT) (zS_set (hd0 t1).pos (hd0 t2).pos h)) fun _ _ _ _ _ h hF => by cases h; exact hF).iv t1 t2 h g1 g2 x r1 q hF
theorem blockLoop_iv {S : List Tok → PR TS} (hl : Eats S) (hi : In Z (FineS Z) RT S S) : ∀ (n k k' : Nat) (x x' : List TS) (t1 t2 : List Tok), t1.length ≤ n → t1.length < k → t2.length < k' → RB x x' → Ext Z t1 t2 → GoodT t1 → GoodT t2 → ∀ y r1, blockLoop S k x t1 = .ok y r1 → ∃ y' r2, blockLoop S k' x' t2 = .ok y' r2 ∧ RB y y' ∧ Ext Z r1 r2
  | n, 0, k', x, x', t1, t2, h0, h1, h2, hx, hE, g1, g2, y, r1, h => by omega
  | n, k + 1, 0, x, x', t1, t2, h0, h1, h2, hx, hE, g1, g2, y, r1, h => by omega
  | 0, k + 1, k' + 1, x, x', t1, t2, h0, h1, h2, hx, hE, g1, g2, y, r1, h => by have := g1.pos; omega
  | n + 1, k + 1, k' + 1, x, x', t1, t2, h0, h1, h2, hx, hE, g1, g2, y, r1, h => by
    have hF1 : Fine Z t1 := (eats_blockLoop hl (k + 1) x).two g1 h
    have l1 := g1.len
    have l2 := g2.len
    have hsame : isT 4 sRB t1 = isT 4 sRB t2 := by
      rcases hE.hd hF1 with ⟨a, b⟩ | ⟨a, b⟩
      · exact isT_cc 4 sRB _ _ b
      · rw [show isT 4 sRB t1 = false from isT_c0 (by decide) sRB _ a, show isT 4 sRB t2 = false from isT_c0 (by decide) sRB _ b]
    rw [blockLoop] at h ⊢
    rw [← hsame]
    by_cases hc : isT 4 sRB t1 = true
    · rw [if_pos hc] at h ⊢
      cases h
      exact ⟨x', t2.tail, rfl, hx, (hE.tl (by rw [isT_kind hc]; decide)).1⟩
    · rw [if_neg hc] at h ⊢
      obtain ⟨z, ts1, q1, q2⟩ := PR.bind_ok h
      obtain ⟨a1, a2⟩ := hl _ g1 z ts1 q1
      obtain ⟨z', ts2, b1, b2, b3⟩ := hi.iv _ _ hE g1 g2 z ts1 q1 (.inl ((eats_blockLoop hl k _).two a1 q2))
      obtain ⟨c1, c2⟩ := hl _ g2 z' ts2 b1
      obtain ⟨y', r2, d1, d2, d3⟩ := blockLoop_iv hl hi n k k' _ _ ts1 ts2 (by omega) (by omega) (by omega) (RB_snoc _ _ _ _ hx b2) b3 a1 c1 y r1 q2
      exact ⟨y', r2, by simp only [b1, PR.bind, d1], d2, d3⟩
theorem in_stmtsIn {S : List Tok → PR TS} (hl : Eats S) (hi : In Z (FineS Z) RT S S) : In Z Any RB (stmtsIn S) (stmtsIn S) :=
  ⟨fun ts hG x ts' h => (eats_stmtsIn hl).keep hG h, fun ts hG x ts' h => (eats_stmtsIn hl).keep hG h, fun t1 t2 hE g1 g2 x r1 h _ => blockLoop_iv hl hi t1.length _ _ [] [] t1 t2 (Nat.le_refl _) (Nat.lt_succ_self _) (Nat.lt_succ_self _) rfl hE g1 g2 x r1 h⟩
theorem in_block {I : List Tok → PR (List TS)} (hI : In Z Any RB I I) : In Z Any RB (pBlock I) (pBlock I) := (in_sign (F := Any) sLB).bindG (fun _ => rfl) (fun _ _ _ => hI) fun _ _ _ _ _ _ _ => trivial
theorem in_lev : ∀ n : Nat, In Z (Fine Z) RE (lev n).E (lev n).E ∧ In Z Any RB (lev n).B (lev n).B ∧ In Z (Fine Z) RE (lev n).U (lev n).U
  | 0 => ⟨in_fail 3 3, in_block (in_fail 3 3), in_unary (eats_fail 3) (eats_block (eats_fail 3)) (in_fail 3 3) (in_block (in_fail 3 3)) (in_fail 3 3)⟩
  | n + 1 => by
    obtain ⟨h1, h2, h3⟩ := in_lev n
    obtain ⟨e1, e2, e3⟩ := eats_lev n
    have i1 := in_expr e3 h3
    have i2 := in_block (in_stmtsIn (eats_stmt e1 e2) (in_stmt e1 e2 h1 h2))
    exact ⟨i1, i2, in_unary (eats_expr e3) (eats_block (eats_stmtsIn (eats_stmt e1 e2))) i1 i2 h3⟩
theorem in_stmtG (n : Nat) : In Z (FineS Z) RT (stmtG n) (stmtG n) := in_stmt (eats_lev n).1 (eats_lev n).2.1 (in_lev n).1 (in_lev n).2.1
theorem module_on (hZ : isT 1 wElse Z = false) {n : Nat} : ∀ (k k' : Nat) (x x' : List TS) (t1 t2 : List Tok), t1.length < k → t2.length < k' → RB x x' → Ext Z t1 t2 → GoodT t1 → GoodT t2 → ∀ y r1, moduleLoop (stmtG n) k x t1 = .ok y r1 → ∃ k2 y', Z.length < k2 ∧ RB y y' ∧ moduleLoop (stmtG n) k' x' t2 = moduleLoop (stmtG n) k2 y' Z
  | 0, k', x, x', t1, t2, h1, h2, hx, hE, g1, g2, y, r1, h => by omega
  | k + 1, 0, x, x', t1, t2, h1, h2, hx, hE, g1, g2, y, r1, h => by omega
  | k + 1, k' + 1, x, x', t1, t2, h1, h2, hx, hE, g1, g2, y, r1, h => by
    rw [moduleLoop] at h
    by_cases hk : (hd0 t1).kind = 0
    · rw [if_pos hk] at h
      cases h
      cases hE with
      | fin t ht => exact ⟨k' + 1, x', h2, hx, rfl⟩
      | step hk2 hcr hr => exact absurd hk hk2
    · rw [if_neg hk] at h
      obtain ⟨z, ts1, q1, q2⟩ := PR.bind_ok h
      obtain ⟨a1, a2⟩ := eats_stmtG n _ g1 z ts1 q1
      obtain ⟨z', ts2, b1, b2, b3⟩ := (in_stmtG n).iv _ _ hE g1 g2 z ts1 q1 (.inr hZ)
      obtain ⟨c1, c2⟩ := eats_stmtG n _ g2 z' ts2 b1
      have hk2 : ¬ (hd0 t2).kind = 0 := by rw [← core_kind (hE.tl hk).2]; exact hk
      obtain ⟨k2, y', d1, d2, d3⟩ := module_on hZ k k' _ _ ts1 ts2 (by omega) (by omega) (RB_snoc _ _ _ _ hx b2) b3 a1 c1 y r1 q2
      refine ⟨k2, y', d1, d2, ?_⟩
      rw [moduleLoop, if_neg hk2, b1]
      exact d3
theorem module_acc {n : Nat} : ∀ (k k' : Nat) (x x' : List TS) (t : List Tok), t.length < k → t.length < k' → GoodT t → (∃ y r, moduleLoop (stmtG n) k x t = .ok (x ++ y) r ∧ moduleLoop (stmtG n) k' x' t = .ok (x' ++ y) r) ∨ (∃ a e, moduleLoop (stmtG n) k x t = .bad a e ∧ moduleLoop (stmtG n) k' x' t = .bad a e)
  | 0, k', x, x', t, h1, h2, hG => by omega
  | k + 1, 0, x, x', t, h1, h2, hG => by omega
  | k + 1, k' + 1, x, x', t, h1, h2, hG => by
    rw [moduleLoop, moduleLoop]
    by_cases hk : (hd0 t).kind = 0
    · rw [if_pos hk, if_pos hk]
      exact .inl ⟨[], t, by rw [List.append_nil], by rw [List.append_nil]⟩
    · rw [if_neg hk, if_neg hk]
      cases hS : stmtG n t with
      | bad a e => exact .inr ⟨a, e, rfl, rfl⟩
      | ok z ts1 =>
        obtain ⟨a1, a2⟩ := eats_stmtG n _ hG z ts1 hS
        rcases module_acc k k' (x ++ [z]) (x' ++ [z]) ts1 (by omega) (by omega) a1 with ⟨y, r, h1, h2⟩ | ⟨a, e, h1, h2⟩
        · exact .inl ⟨z :: y, r, by show moduleLoop (stmtG n) k (x ++ [z]) ts1 = _; rw [h1]; simp, by show moduleLoop (stmtG n) k' (x' ++ [z]) ts1 = _; rw [h2]; simp⟩
        · exact .inr ⟨a, e, h1, h2⟩
theorem unary_else {E U : List Tok → PR TE} {B : List Tok → PR (List TS)} {t : Tok} {l : List Tok} (hk : t.kind = 1) (ht : t.text = wElse) : pUnary E B U (t :: l) = .bad t.pos 1 := by
  have h1 : hd0 (t :: l) = t := rfl
  have hp : pOp 3 (t :: l) = none := by unfold pOp; rw [h1, hk]; rfl
  have hi : ∀ k s, k = 4 ∨ s ≠ wElse → isT k s (t :: l) = false := fun k s h => by
    unfold isT
    rw [h1, hk, ht]
    rcases h with rfl | h
    · rfl
    · have : (wElse == s) = false := by simp only [beq_eq_false_iff_ne, ne_eq]; exact fun e => h e.symm
      rw [this, Bool.and_false]
  unfold pUnary
  rw [hp]
  show (pThing E B (t :: l)).bind _ = _
  have : pThing E B (t :: l) = .bad t.pos 1 := by
    unfold pThing
    rw [if_neg (by rw [h1, hk]; decide), if_neg (by rw [h1, hk]; decide), hi 1 wNil (.inr (by decide)), hi 1 wTrue (.inr (by decide)), hi 1 wFalse (.inr (by decide)), hi 1 wFn (.inr (by decide)), hi 4 sLP (.inl rfl), hi 4 sLB (.inl rfl)]
    have hn : nameB (t :: l) = false := by unfold nameB; rw [h1, hk, ht]; rfl
    simp only [Bool.false_eq_true, if_false, pName, hn, PR.bind, pFail, h1]
  rw [this]
  rfl
theorem not_else {m : List Tok} {y : List TS} {q : List Tok} (hG : GoodT m) (hm : moduleG m = .ok y q) : isT 1 wElse m = false := by
  cases he : isT 1 wElse m with
  | false => rfl
  | true =>
    exfalso
    obtain ⟨t, l, rfl⟩ := hG.ne
    simp only [isT, Bool.and_eq_true, beq_iff_eq] at he
    obtain ⟨hk, ht⟩ := he
    have h1 : hd0 (t :: l) = t := rfl
    rw [h1] at hk ht
    have hi : ∀ k s, k = 4 ∨ s ≠ wElse → isT k s (t :: l) = false := fun k s h => by
      unfold isT
      rw [h1, hk, ht]
      rcases h with rfl | h
      · rfl
      · have : (wElse == s) = false := by simp only [beq_eq_false_iff_ne, ne_eq]; exact fun e => h e.symm
        rw [this, Bool.and_false]
    have hE : (lev 20).E (t :: l) = .bad t.pos 1 := by
      have hU : (lev 19).U (t :: l) = .bad t.pos 1 := unary_else hk ht
      show exprF (lev 19).U (t :: l) = _
      simp only [exprF, pBin, hU, PR.bind]
    unfold moduleG at hm
    rw [moduleLoop, if_neg (by rw [h1, hk]; decide)] at hm
    have : stmtG 20 (t :: l) = .bad t.pos 1 := by
      unfold stmtG pStmt pStmtAt
      rw [hi 1 wLet (.inr (by decide)), hi 1 wReturn (.inr (by decide)), hi 1 wThrow (.inr (by decide)), hi 1 wIf (.inr (by decide)), hi 1 wWhile (.inr (by decide)), hi 1 wTry (.inr (by decide))]
      simp only [Bool.false_eq_true, if_false, pSimple, hE, PR.bind]
    rw [this] at hm
    cases hm
theorem module_join {l m t2 : List Tok} {x y : List TS} {r q : List Tok} (hl : moduleG l = .ok x r) (hm : moduleG m = .ok y q) (g1 : GoodT l) (g2 : GoodT m) (hE : Ext m l t2) (g3 : GoodT t2) : ∃ z, moduleG t2 = .ok z q ∧ zSs z = zSs (x ++ y) := by
  obtain ⟨k2, x', h1, h2, h3⟩ := module_on (n := 20) (not_else g2 hm) (l.length + 1) (t2.length + 1) [] [] l t2 (Nat.lt_succ_self _) (Nat.lt_succ_self _) rfl hE g1 g3 x r hl
  rcases module_acc (n := 20) k2 (m.length + 1) x' [] m h1 (Nat.lt_succ_self _) g2 with ⟨w, s, e1, e2⟩ | ⟨a, e, e1, e2⟩
  · have h4 : moduleG m = .ok ([] ++ w) s := e2
    rw [hm] at h4
    simp only [List.nil_append, PR.ok.injEq] at h4
    obtain ⟨rfl, rfl⟩ := h4
    exact ⟨x' ++ y, by unfold moduleG; rw [h3, e1], by rw [zSs_app, zSs_app, show zSs x = zSs x' from h2]⟩
  · have h4 : moduleG m = .bad a e := e2
    rw [hm] at h4
    cases h4
theorem ext_same : ∀ {l m : List Tok} {t u : Tok}, t.kind = 0 → (∀ x ∈ l, x.kind ≠ 0) → l.map Tok.core = m.map Tok.core → Ext [u] (l ++ [t]) (m ++ [u])
  | [], [], t, u, ht, _, _ => .fin t ht
  | [], _ :: _, t, u, ht, _, h => by simp at h
  | _ :: _, [], t, u, ht, _, h => by simp at h
  | a :: l, b :: m, t, u, ht, hk, h => by
    simp only [List.map_cons, List.cons.injEq] at h
    exact .step (hk a (by simp)) h.1 (ext_same ht (fun x hx => hk x (by simp [hx])) h.2)
theorem ext_join : ∀ {l m : List Tok} {t : Tok}, t.kind = 0 → (∀ x ∈ l, x.kind ≠ 0) → Ext m (l ++ [t]) (l ++ m)
  | [], m, t, ht, _ => .fin t ht
  | a :: l, m, t, ht, hk => .step (hk a (by simp)) rfl (ext_join ht fun x hx => hk x (by simp [hx]))
theorem GoodT.split : ∀ {l : List Tok}, GoodT l → ∃ u t, l = u ++ [t] ∧ t.kind = 0 ∧ ∀ x ∈ u, x.kind ≠ 0
  | [], h => h.elim
  | [t], h => ⟨[], t, rfl, h.1, fun x hx => by simp at hx⟩
  | t :: v :: l, h => by
    obtain ⟨u, w, h1, h2, h3⟩ := GoodT.split h.2
    exact ⟨t :: u, w, by rw [h1]; rfl, h2, fun x hx => by
      rcases List.mem_cons.1 hx with rfl | hx
      · exact h.1.1
      · exact h3 x hx⟩
theorem module_same {l m : List Tok} {x : List TS} {r : List Tok} (g1 : GoodT l) (g2 : GoodT m) (hc : l.map Tok.core = m.map Tok.core) (h : moduleG l = .ok x r) : ∃ y q, moduleG m = .ok y q ∧ zSs y = zSs x := by
  obtain ⟨u, t, rfl, ht, hu⟩ := g1.split
  obtain ⟨u', t', rfl, ht', hu'⟩ := g2.split
  simp only [List.map_append, List.map_cons, List.map_nil] at hc
  have hc2 : u.map Tok.core = u'.map Tok.core := by
    have := congrArg List.dropLast hc
    simpa using this
  have hE := ext_same (u := t') ht hu hc2
  have hZ : isT 1 wElse [t'] = false := isT_c0 (by decide) wElse _ ht'
  obtain ⟨k2, y', h1, h2, h3⟩ := module_on (n := 20) hZ _ _ [] [] _ _ (Nat.lt_succ_self _) (Nat.lt_succ_self _) rfl hE g1 g2 x r h
  cases k2 with
  | zero => simp at h1
  | succ k2 =>
    refine ⟨y', [t'], ?_, h2.symm⟩
    unfold moduleG
    rw [h3, moduleLoop, if_pos (by exact ht')]
end
end Go.Proofs.YthghjnkeofkoiaaGreatDoor.PM

namespace Go.Proofs.YthghjnkeofkoiaaGreatDoor
open LM TM PM
set_option linter.unusedVariables false
def NZ {α : Type} (f : List Tok → PR α) : Prop := ∀ ts a e, f ts = .bad a e → e ≠ 0
section
variable {α β : Type}
theorem nz_bind {f : List Tok → PR α} {g : α → List Tok → PR β} (hf : NZ f) (hg : ∀ x, NZ (g x)) : NZ fun ts => (f ts).bind g := fun ts a e h => by
  cases hr : f ts with
  | ok x ts1 => simp only [hr, PR.bind] at h; exact hg x ts1 a e h
  | bad b c => simp only [hr, PR.bind, PR.bad.injEq] at h; rw [← h.2]; exact hf ts b c hr
theorem nz_ok (x : α) : NZ fun ts => .ok x ts := fun ts a e h => by cases h
theorem nz_fail {e : Nat} (he : e ≠ 0) : NZ (pFail (α := α) e) := fun ts a e' h => by
  simp only [pFail, PR.bad.injEq] at h
  rw [← h.2]; exact he
theorem nz_if {f g : List Tok → PR α} (c : List Tok → Bool) (hf : NZ f) (hg : NZ g) : NZ fun ts => if c ts = true then f ts.tail else g ts := fun ts a e h => by
  by_cases hc : c ts = true
  · simp only [if_pos hc] at h; exact hf _ a e h
  · simp only [if_neg hc] at h; exact hg _ a e h
theorem nz_sign (t : Bs) : NZ (pSign t) := nz_if (isT 4 t) (nz_ok ()) (nz_fail (by decide))
theorem nz_word (t : Bs) : NZ (pWord t) := nz_if (isT 1 t) (nz_ok ()) (nz_fail (by decide))
theorem nz_name : NZ pName := fun ts a e h => by
  unfold pName at h
  by_cases hc : nameB ts = true
  · rw [if_pos hc] at h; cases h
  · rw [if_neg hc] at h; exact nz_fail (α := ByteArray) (by decide) ts a e h
theorem nz_binLoop {lower : List Tok → PR TE} (hl : NZ lower) (tight : Nat) : ∀ (k : Nat) (x : TE), NZ (binLoop lower tight k x)
  | 0, x => nz_ok x
  | k + 1, x => fun ts a e h => by
    rw [binLoop] at h
    cases hp : pOp tight ts with
    | none => rw [hp] at h; cases h
    | some op =>
      rw [hp] at h
      refine nz_bind (f := lower) (g := fun y ts' => if tight = 0 then .ok (mkE op [x, y]) ts' else binLoop lower tight k (mkE op [x, y]) ts') hl (fun y ts a e h => ?_) ts.tail a e h
      by_cases ht : tight = 0
      · simp only [if_pos ht] at h; cases h
      · simp only [if_neg ht] at h; exact nz_binLoop hl tight k _ ts a e h
theorem nz_bin {lower : List Tok → PR TE} (hl : NZ lower) (tight : Nat) : NZ (pBin lower tight) := nz_bind hl fun x ts a e h => nz_binLoop hl tight _ x ts a e h
theorem nz_items {item : List Tok → PR α} (hi : NZ item) (fin : Bs) : ∀ (k : Nat) (acc : List α), NZ (pItems item fin k acc)
  | 0, acc => nz_fail (by decide)
  | k + 1, acc => fun ts a e h => by
    rw [pItems] at h
    exact nz_if (isT 4 sCO) (f := fun ts => (item ts).bind fun x ts' => pItems item fin k (acc ++ [x]) ts') (nz_bind hi fun x => nz_items hi fin k _) (nz_bind (nz_sign fin) fun _ => nz_ok acc) ts a e h
theorem nz_list {item : List Tok → PR α} (hi : NZ item) (fin : Bs) : NZ (pList item fin) := nz_if (isT 4 fin) (nz_ok []) (nz_bind hi fun x ts a e h => nz_items hi fin _ _ ts a e h)
end
theorem nz_keyW : NZ pKeyW := nz_bind nz_name fun s => nz_ok _
theorem nz_keyE {E : List Tok → PR TE} (hE : NZ E) : NZ (pKeyE E) := nz_bind hE fun x => nz_bind (nz_sign _) fun _ => nz_ok x
theorem nz_field {E : List Tok → PR TE} (hE : NZ E) : NZ (pField E) := nz_bind (nz_if (isT 4 sLK) (nz_keyE hE) nz_keyW) fun k => nz_bind (nz_sign _) fun _ => nz_bind hE fun v => nz_ok _
theorem nz_thing {E : List Tok → PR TE} {B : List Tok → PR (List TS)} (hE : NZ E) (hB : NZ B) : NZ (pThing E B) := fun ts a e h => by
  unfold pThing at h
  by_cases h2 : (hd0 ts).kind = 2
  · rw [if_pos h2] at h; cases h
  rw [if_neg h2] at h
  by_cases h3 : (hd0 ts).kind = 3
  · rw [if_pos h3] at h; cases h
  rw [if_neg h3] at h
  exact nz_if (isT 1 wNil) (nz_ok _) (nz_if (isT 1 wTrue) (nz_ok _) (nz_if (isT 1 wFalse) (nz_ok _) (nz_if (isT 1 wFn) (nz_bind (nz_sign _) fun _ => nz_bind (nz_list nz_name _) fun ps => nz_bind hB fun b => nz_ok _)
    (nz_if (isT 4 sLP) (nz_bind hE fun x => nz_bind (nz_sign _) fun _ => nz_ok x) (nz_if (isT 4 sLB) (nz_bind (nz_list (nz_field hE) _) fun l => nz_ok _) (nz_bind nz_name fun s => nz_ok _)))))) ts a e h
theorem nz_chainLoop {E : List Tok → PR TE} (hE : NZ E) : ∀ (k : Nat) (x : TE), NZ (chainLoop E k x)
  | 0, x => nz_ok x
  | k + 1, x => fun ts a e h => by
    rw [chainLoop] at h
    exact nz_if (isT 4 sLP) (f := fun ts => (pWith E x ts).bind fun l ts' => chainLoop E k (mkE 15 l) ts') (nz_bind (nz_bind (nz_list hE _) fun l => nz_ok _) fun l => nz_chainLoop hE k _)
      (nz_if (isT 4 sLK) (f := fun ts => (pKeyE E ts).bind fun y ts' => chainLoop E k (mkE 14 [x, y]) ts') (nz_bind (nz_keyE hE) fun y => nz_chainLoop hE k _)
      (nz_if (isT 4 sPT) (f := fun ts => (pKeyW ts).bind fun y ts' => chainLoop E k (mkE 14 [x, y]) ts') (nz_bind nz_keyW fun y => nz_chainLoop hE k _) (nz_ok x))) ts a e h
theorem nz_unary {E U : List Tok → PR TE} {B : List Tok → PR (List TS)} (hE : NZ E) (hB : NZ B) (hU : NZ U) : NZ (pUnary E B U) := fun ts a e h => by
  unfold pUnary at h
  cases hp : pOp 3 ts with
  | none => rw [hp] at h; exact nz_bind (nz_thing hE hB) (fun x ts a e h => nz_chainLoop hE _ x ts a e h) ts a e h
  | some op => rw [hp] at h; exact nz_bind hU (fun x => nz_ok _) ts.tail a e h
theorem nz_value {E : List Tok → PR TE} (hE : NZ E) : NZ (pValue E) := nz_bind hE fun x => nz_bind (nz_sign _) fun _ => nz_ok _
theorem nz_set {E : List Tok → PR TE} (hE : NZ E) (b : Nat) (x : TE) : NZ (pSet E b x) := fun ts a e h => by
  unfold pSet at h
  by_cases h5 : exOp x = 5
  · rw [if_pos h5] at h; exact nz_bind (nz_value hE) (fun l => nz_ok _) ts a e h
  rw [if_neg h5] at h
  by_cases h14 : exOp x = 14
  · rw [if_pos h14] at h; exact nz_bind (nz_value hE) (fun l => nz_ok _) ts a e h
  rw [if_neg h14] at h
  cases h
  decide
theorem nz_stmt {E : List Tok → PR TE} {B : List Tok → PR (List TS)} (hE : NZ E) (hB : NZ B) : NZ (pStmt E B) := fun ts a e h => by
  refine nz_bind (f := pStmtAt E B (hd0 ts).pos) (g := fun s ts' => .ok (setAt (hd0 ts).pos s) ts') ?_ (fun s => nz_ok _) ts a e h
  exact nz_if (isT 1 wLet) (nz_bind nz_name fun s => nz_bind (nz_sign _) fun _ => nz_bind (nz_value hE) fun l => nz_ok _)
    (nz_if (isT 1 wReturn) (nz_bind (nz_value hE) fun l => nz_ok _) (nz_if (isT 1 wThrow) (nz_bind (nz_value hE) fun l => nz_ok _)
    (nz_if (isT 1 wIf) (nz_bind hE fun x => nz_bind hB fun b => nz_if (isT 1 wElse) (nz_bind hB fun c => nz_ok _) (nz_ok _))
    (nz_if (isT 1 wWhile) (nz_bind hE fun x => nz_bind hB fun b => nz_ok _)
    (nz_if (isT 1 wTry) (nz_bind hB fun b => nz_bind (nz_word _) fun _ => nz_bind nz_name fun s => nz_bind hB fun c => nz_ok _)
    (nz_bind hE fun x => nz_if (isT 4 sEQ) (nz_set hE _ x) (nz_bind (nz_sign _) fun _ => nz_ok _)))))))
theorem nz_blockLoop {S : List Tok → PR TS} (hS : NZ S) : ∀ (k : Nat) (acc : List TS), NZ (blockLoop S k acc)
  | 0, acc => nz_fail (by decide)
  | k + 1, acc => fun ts a e h => by
    rw [blockLoop] at h
    exact nz_if (isT 4 sRB) (nz_ok acc) (g := fun ts => (S ts).bind fun s ts' => blockLoop S k (acc ++ [s]) ts') (nz_bind hS fun s => nz_blockLoop hS k _) ts a e h
theorem nz_stmtsIn {S : List Tok → PR TS} (hS : NZ S) : NZ (stmtsIn S) := fun ts a e h => nz_blockLoop hS _ _ ts a e h
theorem nz_lev : ∀ n : Nat, NZ (lev n).E ∧ NZ (lev n).B ∧ NZ (lev n).U
  | 0 => ⟨nz_fail (by decide), nz_bind (nz_sign _) fun _ => nz_fail (by decide), nz_unary (nz_fail (by decide)) (nz_bind (nz_sign _) fun _ => nz_fail (by decide)) (nz_fail (by decide))⟩
  | n + 1 => by
    obtain ⟨h1, h2, h3⟩ := nz_lev n
    have e1 : NZ (exprF (lev n).U) := nz_bin (nz_bin (nz_bin h3 2) 1) 0
    have e2 : NZ (pBlock (stmtsIn (pStmt (lev n).E (lev n).B))) := nz_bind (nz_sign _) fun _ => nz_stmtsIn (nz_stmt h1 h2)
    exact ⟨e1, e2, nz_unary e1 e2 h3⟩
theorem nz_moduleLoop {S : List Tok → PR TS} (hS : NZ S) : ∀ (k : Nat) (acc : List TS), NZ (moduleLoop S k acc)
  | 0, acc => nz_fail (by decide)
  | k + 1, acc => fun ts a e h => by
    rw [moduleLoop] at h
    by_cases hk : (hd0 ts).kind = 0
    · rw [if_pos hk] at h; cases h
    · rw [if_neg hk] at h; exact nz_bind hS (fun s => nz_moduleLoop hS k _) ts a e h
theorem nz_module : NZ moduleG := fun ts a e h => nz_moduleLoop (nz_stmt (nz_lev 20).1 (nz_lev 20).2.1) _ _ ts a e h
theorem pg_nz {s : List UInt8} {a e : Nat} (h : PG s = .bad a e) : e ≠ 0 := by
  unfold PG at h
  cases h1 : lexR 0 s with
  | toks ts => rw [h1] at h; exact nz_module ts a e h
  | bad b r =>
    rw [h1] at h
    simp only [PR.bad.injEq] at h
    rw [← h.2]
    split <;> decide
theorem good_suffix : ∀ (u : List Tok) {l : List Tok}, l ≠ [] → GoodT (u ++ l) → GoodT l
  | [], l, _, h => h
  | x :: u, l, hl, h => by
    refine good_suffix u hl ?_
    cases hx : u ++ l with
    | nil => exact absurd (List.append_eq_nil_iff.1 hx).2 hl
    | cons y m => rw [List.cons_append, hx] at h; exact h.2
theorem pg_join {a b : List UInt8} {l m : List TS} {r q : List Tok} (ha : PG a = .ok l r) (hb : PG b = .ok m q) (hs : a.length + b.length ≤ 8000) : ∃ z p, PG (a ++ 10 :: b) = .ok z p ∧ zSs z = zSs (l ++ m) := by
  unfold PG at ha hb ⊢
  cases h1 : lexR 0 a with
  | bad _ _ => rw [h1] at ha; cases ha
  | toks la =>
    cases h2 : lexR 0 b with
    | bad _ _ => rw [h2] at hb; cases hb
    | toks lb =>
      rw [h1] at ha
      rw [h2] at hb
      obtain ⟨lb', h3, h4⟩ := lexR_any (at' := 0 + a.length + 1) h2
      have hj := lexR_join (b := b) h1
      rw [h3] at hj
      have hj2 : lexR 0 (a ++ 10 :: b) = .toks (la.dropLast ++ lb') := hj
      rw [hj2]
      obtain ⟨ga, _⟩ := lexR_good (by omega) h1
      obtain ⟨gb, _⟩ := lexR_good (by omega) h2
      obtain ⟨gj, _⟩ := lexR_good (s := a ++ 10 :: b) (by simp only [List.length_append, List.length_cons]; omega) hj2
      obtain ⟨u, t, rfl, ht, hu⟩ := ga.split
      rw [List.dropLast_concat] at gj ⊢
      have gb' : GoodT lb' := good_suffix u (fun e => by rw [e] at h4; obtain ⟨u2, t2, rfl, _⟩ := gb.split; simp at h4) gj
      obtain ⟨y, q2, hy, hz⟩ := module_same gb gb' h4.symm hb
      obtain ⟨z, e1, e2⟩ := module_join ha hy ga gb' (ext_join ht hu) gj
      exact ⟨z, q2, e1, by rw [e2, zSs_app, zSs_app, hz]⟩
mutual
theorem same_zE : ∀ x y : TE, zE x = zE y → sameE x y = true
  | .mk op num text ps pm bd, .mk op' num' text' ps' pm' bd', h => by
    simp only [zE, TE.mk.injEq] at h
    obtain ⟨h1, h2, h3, h4, h5, h6⟩ := h
    show (decide (op = op') && (decide (num = num') && (decide (text = text') && (sameEs ps ps' && (decide (pm = pm') && sameSs bd bd'))))) = true
    rw [same_zEs ps ps' h4, same_zSs bd bd' h6, decide_eq_true h1, decide_eq_true h2, decide_eq_true h3, decide_eq_true h5]
    rfl
theorem same_zEs : ∀ l m : List TE, zEs l = zEs m → sameEs l m = true
  | [], [], _ => rfl
  | [], _ :: _, h => by simp [zEs] at h
  | _ :: _, [], h => by simp [zEs] at h
  | x :: l, y :: m, h => by
    simp only [zEs, List.cons.injEq] at h
    show (sameE x y && sameEs l m) = true
    rw [same_zE x y h.1, same_zEs l m h.2]
    rfl
theorem same_zS : ∀ x y : TS, zS x = zS y → sameS x y = true
  | .mk k n xs b e p, .mk k' n' xs' b' e' p', h => by
    simp only [zS, TS.mk.injEq] at h
    obtain ⟨h1, h2, h3, h4, h5, _⟩ := h
    show (decide (k = k') && (decide (n = n') && (sameEs xs xs' && (sameSs b b' && sameSs e e')))) = true
    rw [same_zEs xs xs' h3, same_zSs b b' h4, same_zSs e e' h5, decide_eq_true h1, decide_eq_true h2]
    rfl
theorem same_zSs : ∀ l m : List TS, zSs l = zSs m → sameSs l m = true
  | [], [], _ => rfl
  | [], _ :: _, h => by simp [zSs] at h
  | _ :: _, [], h => by simp [zSs] at h
  | x :: l, y :: m, h => by
    simp only [zSs, List.cons.injEq] at h
    show (sameS x y && sameSs l m) = true
    rw [same_zS x y h.1, same_zSs l m h.2]
    rfl
end
end Go.Proofs.YthghjnkeofkoiaaGreatDoor

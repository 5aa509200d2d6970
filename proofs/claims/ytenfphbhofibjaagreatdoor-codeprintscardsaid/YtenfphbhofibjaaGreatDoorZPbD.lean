/-
 PaReg, PaN, PaLaw, PaPut, PaBox, joined.
 Conditions: as each theorem says.
-/
import Derived.Test.YtenfphbhofibjaaGreatDoorZPbC
set_option maxRecDepth 100000
set_option linter.unusedVariables false
namespace Go.Proofs.YtenfphbhofibjaaGreatDoor
theorem wpOp_callP {P : Program} {ops : Array Oper} {Q : Exit → Act → World → Prop} {i : Nat} {K : Act → World → Prop} {a : Act} {w : World} {o : Oper} {f : Nat} {args : Array Value} {R : Ending → World → Prop} (ho : ops[i]? = some o) (hg : o.guard = none) (hr : (execOp a.eval o).run P w = .ok (.enter f args) w) (hc : Calls P f args w R)
 (hK : ∀ v w', R (.returned v) w' → K (a.put o.dst v) w') (hQ : ∀ ch w', R (.panicked ch) w' → Q (.panic ch) a w') (hO : ∀ w', ¬ R .outgrown w') : wpOp P ops Q i K a w := by
 unfold wpOp
 rw [ho]
 simp only
 have hw : Region.wanted o (yielded ops a.tmps) = true := by simp [Region.wanted, hg]
 rw [if_pos hw]
 left
 unfold Oper.wp
 rw [hr, Oper.upon_enter]
 refine hc.mono ?_
 rintro e w' hR
 cases e with
 | returned v => exact hK v w' hR
 | panicked ch => exact hQ ch w' hR
 | outgrown => exact absurd hR (hO w')
theorem eval_const (a : Act) (v : Value) : a.eval (.const v) = v := rfl
theorem wpOp_skip {P : Program} {ops : Array Oper} {Q : Exit → Act → World → Prop} {i : Nat} {K : Act → World → Prop} {a : Act} {w : World} {o : Oper} {w' : World} (ho : ops[i]? = some o) (hg : o.guard = none) (hd : o.dst = none) (hr : (execOp a.eval o).run P w = .ok .skip w') (hK : K a w') : wpOp P ops Q i K a w := by
 unfold wpOp
 rw [ho]
 simp only
 have hw : Region.wanted o (yielded ops a.tmps) = true := by simp [Region.wanted, hg]
 rw [if_pos hw]
 left
 unfold Oper.wp
 rw [hr]
 show K (a.put o.dst undef) w'
 rw [hd]
 exact hK
structure JG (wr : World) (m : Nat) (ic tc : Nat → Nat) (S : Nat → Value → World → Prop) (l : Nat → Bool) (a : Act) (W : World) : Prop where
 mono : ∀ k, k + 1 < m → l (ic (k + 1)) = true → l (ic k) = true
 n0 : l (ic 0) = false → W = wr.drew
 st : ∀ k, k < m → l (ic k) = true → (∀ j, k < j → j < m → l (ic j) = false) → S k (a.eval (.tmp (tc k))) W
section
variable {wr : World} {m : Nat} {ic tc : Nat → Nat} {S : Nat → Value → World → Prop} {l : Nat → Bool} {a : Act} {W : World}
theorem JG.start (a : Act) : JG wr m ic tc S (fun _ => false) a wr.drew := ⟨fun _ _ h => by simp at h, fun _ => rfl, fun _ _ h => by simp at h⟩
theorem JG.later (h : JG wr m ic tc S l a W) {k : Nat} (hk : l (ic k) = false) : ∀ j, k ≤ j → j < m → l (ic j) = false := by
 intro j
 induction j with
 | zero =>
  intro h1 h2
  have : k = 0 := by omega
  subst this
  exact hk
 | succ j ih =>
  intro h1 h2
  by_cases e : k = j + 1
  ·subst e; exact hk
  ·cases h3 : l (ic (j + 1)) with
   | false => rfl
   | true =>
    have h4 := h.mono j h2 h3
    rw [ih (by omega) (by omega)] at h4
    cases h4
theorem JG.cur (h : JG wr m ic tc S l a W) (k : Nat) (hkm : k < m) (h1 : l (ic k) = true) (h2 : k + 1 < m → l (ic (k + 1)) = false) : S k (a.eval (.tmp (tc k))) W :=
 h.st k hkm h1 fun j hj hm => h.later (h2 (by omega)) j (by omega) hm
theorem JG.pure (h : JG wr m ic tc S l a W) {i d : Nat} {u : Value} (hi : ∀ k, k < m → ic k ≠ i) (hd : ∀ k, k < m → tc k ≠ d) (hm : 0 < m) : JG wr m ic tc S (more l i) (a.put (some d) u) W := by
 refine ⟨fun k hk q => ?_, fun q => ?_, fun k hk q hj => ?_⟩
 ·rw [more_ne _ (hi (k + 1) hk)] at q
  rw [more_ne _ (hi k (by omega))]
  exact h.mono k hk q
 ·rw [more_ne _ (hi 0 hm)] at q
  exact h.n0 q
 ·rw [more_ne _ (hi k hk)] at q
  rw [eval_other (hd k hk)]
  exact h.st k hk q fun j h1 h2 => by have := hj j h1 h2; rwa [more_ne _ (hi j h2)] at this
theorem JG.eff (h : JG wr m ic tc S l a W) (k : Nat) (hkm : k < m) (hp : ∀ j, j + 1 = k → l (ic j) = true) (hl : l (ic k) = false) (inj : ∀ j, j < m → j ≠ k → ic j ≠ ic k) (a' : Act) {W' : World} (hS : S k (a'.eval (.tmp (tc k))) W') : JG wr m ic tc S (more l (ic k)) a' W' := by
 have hlat := h.later hl
 refine ⟨fun j hj q => ?_, fun q => ?_, fun j hj q hn => ?_⟩
 ·by_cases e : j + 1 = k
  ·exact more_of _ (hp j e)
  ·rw [more_ne _ (inj (j + 1) hj e)] at q
   exact more_of _ (h.mono j hj q)
 ·by_cases e : k = 0
  ·subst e; rw [more_self] at q; cases q
  ·rw [more_ne _ (inj 0 (by omega) (by omega))] at q
   have := h.later q (k - 1) (by omega) (by omega)
   have h2 := hp (k - 1) (by omega)
   rw [this] at h2
   cases h2
 ·by_cases e : j = k
  ·subst e; exact hS
  ·rw [more_ne _ (inj j hj e)] at q
   have h2 : j < k := by
    rcases Nat.lt_or_ge j k with h2 | h2
    ·exact h2
    ·rw [hlat j h2 hj] at q; cases q
   have h3 := hn k h2 hkm
   rw [more_self] at h3
   cases h3
theorem JG.read (h : JG wr m ic tc S l a W) (hm : 0 < m) (Rd : World → Prop) (n : Nat) (hn : n ≤ m) (hlast : n < m → l (ic n) = false) (h0 : Rd wr.drew) (hk : ∀ k v W, k < n → S k v W → Rd W) : Rd W := by
 have hnone : ∀ j, n ≤ j → j < m → l (ic j) = false := fun j h1 h2 => h.later (hlast (by omega)) j h1 h2
 cases hz : l (ic 0) with
 | false => rw [h.n0 hz]; exact h0
 | true =>
  by_cases hn0 : n = 0
  ·subst hn0
   rw [hnone 0 (Nat.le_refl _) hm] at hz
   cases hz
  ·obtain ⟨k, hkn, hkt, hkf⟩ : ∃ k, k < n ∧ l (ic k) = true ∧ ∀ j, k < j → j < m → l (ic j) = false := by
    have key : ∀ q, q ≤ n - 1 → ∃ k, k < n ∧ l (ic k) = true ∧ ∀ j, k < j → j < m → (j ≤ q → l (ic j) = false) := by
     intro q
     induction q with
     | zero => intro _; exact ⟨0, by omega, hz, fun j h1 h2 h3 => by omega⟩
     | succ q ih =>
      intro hq
      obtain ⟨k, h1, h2, h3⟩ := ih (by omega)
      cases h4 : l (ic (q + 1)) with
      | true => exact ⟨q + 1, by omega, h4, fun j h5 h6 h7 => by omega⟩
      | false =>
       refine ⟨k, h1, h2, fun j h5 h6 h7 => ?_⟩
       by_cases e : j = q + 1
       ·subst e; exact h4
       ·exact h3 j h5 h6 (by omega)
    obtain ⟨k, h1, h2, h3⟩ := key (n - 1) (Nat.le_refl _)
    refine ⟨k, h1, h2, fun j h5 h6 => ?_⟩
    by_cases e : j ≤ n - 1
    ·exact h3 j h5 h6 e
    ·exact hnone j (by omega) h6
   exact hk k _ W hkn (h.st k (by omega) hkt hkf)
end
end Go.Proofs.YtenfphbhofibjaaGreatDoor
namespace Go.Proofs.YtenfphbhofibjaaGreatDoor
open Go.RowKit LM TM PM
def PN (s n : Nat) (w : World) (k : Nat) : Prop := s ≤ k ∧ k < w.heap.size ∧ k ≠ n
structure LieN (T : (Nat → Prop) → World → Prop) (s n : Nat) (w : World) : Prop where
 st : Stab T
 at' : T (PN s n w) w
section
variable {T : (Nat → Prop) → World → Prop} {s e n s' : Nat} {w w' : World}
theorem LieN.keep (h : LieN T s n w) (hs : w.heap.size ≤ w'.heap.size) (hk : ∀ k, s ≤ k → k < w.heap.size → k ≠ n → w'.heap[k]? = w.heap[k]?) : LieN T s n w' :=
 ⟨h.st, h.st _ _ _ _ (fun k hk2 => ⟨⟨hk2.1, Nat.lt_of_lt_of_le hk2.2.1 hs, hk2.2.2⟩, hk k hk2.1 hk2.2.1 hk2.2.2⟩) h.at'⟩
theorem LieN.gr {pb : Nat} (h : LieN T s n w) (hg : w.grownBy w' (some pb)) (hp : pb < s) : LieN T s n w' := h.keep hg.size fun k h1 h2 _ => hg.block k h2 (by simp; omega)
theorem LieN.alloc (h : LieN T s n w) (o : Obj) : LieN T s n (w.alloc o) := h.keep (by simp) fun k h1 h2 _ => Below.heap_alloc _ _ _ h2
theorem LieN.six {a b c d e1 f : Value} (h : LieN T s n w) : LieN T s n (six7 w n a b c d e1 f) := h.keep (Nat.le_of_eq six7_size.symm) fun k _ _ h3 => six7_other h3
theorem LieN.six2 {g : Nat} {a b c d e1 f : Value} (h : LieN T s n w) (hg : g < s) : LieN T s n (six7 w g a b c d e1 f) := h.keep (Nat.le_of_eq six7_size.symm) fun k h1 _ _ => six7_other (by omega)
theorem LieN.of (h : Lie T s e w) (hs : s' ≤ s) (hn : n < s ∨ e ≤ n) : LieN T s' n w :=
 ⟨h.st, h.st _ _ _ _ (fun k hk => ⟨⟨Nat.le_trans hs hk.1, Nat.lt_of_lt_of_le hk.2 h.lt, by have h1 : s ≤ k := hk.1; have h2 : k < e := hk.2; omega⟩, rfl⟩) h.at'⟩
theorem LieN.lie (h : LieN T s n w) (hs : s' ≤ s) (hl : s' ≤ w.heap.size) : Lie T s' w.heap.size w :=
 ⟨h.st, hl, Nat.le_refl _, h.st _ _ _ _ (fun k hk => ⟨⟨Nat.le_trans hs hk.1, hk.2.1⟩, rfl⟩) h.at'⟩
end
section
variable {s n : Nat} {W : World}
theorem escN1 {x : TE} {a b c : Value} (h : LieN (XE x a b c) s n W) : EsC (PN s n W) W [x] (sixE x a b c) := ⟨a, b, c, [], by simp, h.at'.1, rfl⟩
theorem escN2 {x y : TE} {a b c a' b' c' : Value} (h : LieN (XE x a b c) s n W) (k : LieN (XE y a' b' c') s n W) : EsC (PN s n W) W [x, y] (sixE x a b c ++ sixE y a' b' c') := ⟨a, b, c, sixE y a' b' c', rfl, h.at'.1, escN1 k⟩
theorem rowN0 {l : List TE} {cs : List Value} {m : Nat} (hE : EsC (PN s n W) W l cs) (hs : s ≤ W.heap.size) (hn : n ≠ W.heap.size) (hl : l.length = m) (hm : m ≤ 1000) (h0 : 0 < m) : SlAt (PN s n (W.alloc (.cells cs.toArray 35))) (.slice (some ⟨W.heap.size, 0, none⟩) m m) l.length (fun g o => EsAt (PN s n (W.alloc (.cells cs.toArray 35))) (W.alloc (.cells cs.toArray 35)) g o l) := by
 refine ⟨_, m, by rw [hl], by omega, by unfold maxLen; omega, fun _ => ⟨W.heap.size, 0, rfl, ⟨hs, by simp, fun e => hn e.symm⟩, ?_⟩⟩
 refine EsC.at (cs := cs) (EsC.kept (fun k hk => ⟨⟨hk.1, by have := hk.2.1; simp; omega, hk.2.2⟩, Below.heap_alloc _ _ _ hk.2.1⟩) hE) fun j u hj => ?_
 have hb : (W.alloc (.cells cs.toArray 35)).heap[W.heap.size]? = _ := heap_alloc_new W _
 have hj2 : cs.toArray[j]? = some u := by simpa using hj
 rw [Nat.zero_add]
 simp only [World.cell?, hb]
 exact hj2
theorem mkE_N {op m : Nat} {l : List TE} {cs : List Value} (hE : EsC (PN s n W) W l cs) (hs : s ≤ W.heap.size) (hn : n ≠ W.heap.size) (hl : l.length = m) (hm : m ≤ 1000) (h0 : 0 < m) (hop : op ≤ 17) (h14 : op = 14 → m = 2) : LieN (XE (mkE op l) (.slice (some ⟨W.heap.size, 0, none⟩) m m) (.slice none 0 0) (.slice none 0 0)) s n (W.alloc (.cells cs.toArray 35)) := by
 refine ⟨stab_XE _ _ _ _, ⟨⟨⟨hop, by decide, by decide⟩, rowN0 hE hs hn hl hm h0, nil_sl, nil_sl⟩, fun h => ?_⟩⟩
 have hn2 := h14 h
 subst hn2
 refine ⟨W.heap.size, cs.toArray, rfl, ⟨hs, by simp, fun e => hn e.symm⟩, heap_alloc_new W _, ?_, hl, ?_⟩
 ·have := esc_len hE
  simp
  omega
 ·exact EsC.kept (fun k hk => ⟨⟨⟨hk.1, by have := hk.2.1; simp; omega, hk.2.2⟩, by have := hk.2.1; omega⟩, Below.heap_alloc _ _ _ hk.2.1⟩) hE
theorem mkE_rowN {op : Nat} {v : Value} {l : List TE} (h : LieN (RE v l) s n W) (hop : op ≤ 17) (h14 : op ≠ 14) : LieN (XE (mkE op l) v (.slice none 0 0) (.slice none 0 0)) s n W :=
 ⟨stab_XE _ _ _ _, ⟨⟨hop, by decide, by decide⟩, h.at', nil_sl, nil_sl⟩, fun h1 => absurd h1 h14⟩
end
theorem ret_drew {α : Type} {r : PR α} {w w' : World} {pb d : Nat} {V : World → α → Ending → World → Prop} {en : Ending} (hV : ∀ x en w', V w.drew x en w' → V w x en w') (h : Ret r w.drew pb d (V w.drew) en w') : Ret r w pb d (V w) en w' := by
 cases r with
 | ok x ts => exact ⟨hV _ _ _ h.1, h.2.1, ⟨h.2.2.os, h.2.2.tape, h.2.2.output, h.2.2.size, h.2.2.block⟩⟩
 | bad a e => exact ⟨h.1, ⟨h.2.os, h.2.tape, h.2.output, h.2.size, h.2.block⟩⟩
theorem ret_E {r : PR TE} {w w' : World} {pb d : Nat} {v : Value} (h : Ret r w pb d (VE w) (.returned v) w') : ∃ y ts' a b c, r = .ok y ts' ∧ v = exV y a b c ∧ Lie (XE y a b c) w.heap.size w'.heap.size w' ∧ PAt w' pb ts' d ∧ w.grownBy w' (some pb) := by
 cases r with
 | ok y ts' =>
  obtain ⟨⟨a, b, c, he, hL⟩, h1, h2⟩ := h
  cases he
  exact ⟨y, ts', a, b, c, rfl, rfl, hL, h1, h2⟩
 | bad a e => cases h.1
theorem ret_LE {r : PR (List TE)} {w w' : World} {pb d : Nat} {v : Value} (h : Ret r w pb d (VLE w) (.returned v) w') : ∃ l ts', r = .ok l ts' ∧ Lie (RE v l) w.heap.size w'.heap.size w' ∧ PAt w' pb ts' d ∧ w.grownBy w' (some pb) := by
 cases r with
 | ok y ts' =>
  obtain ⟨⟨a, he, hL⟩, h1, h2⟩ := h
  cases he
  exact ⟨y, ts', rfl, hL, h1, h2⟩
 | bad a e => cases h.1
theorem ret_N {r : PR ByteArray} {w w' : World} {pb d : Nat} {v : Value} (h : Ret r w pb d VN (.returned v) w') : ∃ s ts', r = .ok s ts' ∧ v = .string s ∧ PAt w' pb ts' d ∧ w.grownBy w' (some pb) := by
 cases r with
 | ok y ts' =>
  obtain ⟨he, h1, h2⟩ := h
  have he2 : Ending.returned v = .returned (.string y) := he
  cases he2
  exact ⟨y, ts', rfl, rfl, h1, h2⟩
 | bad a e => cases h.1
theorem ret_panic {α : Type} {r : PR α} {w w' : World} {pb d : Nat} {V : α → Ending → World → Prop} {ch : List PanicEntry} (hV : ∀ x w', ¬ V x (.panicked ch) w') (h : Ret r w pb d V (.panicked ch) w') : ∃ a e, r = .bad a e ∧ ch = chainF a e ∧ Below pb w w' := by
 cases r with
 | ok x ts => exact absurd h.1 (hV _ _)
 | bad a e =>
  obtain ⟨h1, h2⟩ := h
  cases h1
  exact ⟨a, e, rfl, rfl, h2⟩
theorem ret_out {α : Type} {r : PR α} {w w' : World} {pb d : Nat} {V : α → Ending → World → Prop} (hV : ∀ x w', ¬ V x .outgrown w') : ¬ Ret r w pb d V .outgrown w' := by
 intro h
 cases r with
 | ok x ts => exact hV _ _ h.1
 | bad a e => cases h.1
theorem VE_p {w : World} {ch : List PanicEntry} (x : TE) (w' : World) : ¬ VE w x (.panicked ch) w' := fun ⟨_, _, _, h, _⟩ => by cases h
theorem VE_o {w : World} (x : TE) (w' : World) : ¬ VE w x .outgrown w' := fun ⟨_, _, _, h, _⟩ => by cases h
theorem VLE_p {w : World} {ch : List PanicEntry} (x : List TE) (w' : World) : ¬ VLE w x (.panicked ch) w' := fun ⟨_, h, _⟩ => by cases h
theorem VLE_o {w : World} (x : List TE) (w' : World) : ¬ VLE w x .outgrown w' := fun ⟨_, h, _⟩ => by cases h
theorem VN_p {ch : List PanicEntry} (x : ByteArray) (w' : World) : ¬ VN x (.panicked ch) w' := fun h => by cases (show Ending.panicked ch = .returned _ from h)
theorem VN_o (x : ByteArray) (w' : World) : ¬ VN x .outgrown w' := fun h => by cases (show Ending.outgrown = .returned _ from h)
end Go.Proofs.YtenfphbhofibjaaGreatDoor
namespace Go.Proofs.YtenfphbhofibjaaGreatDoor
open Go.RowKit LM TM PM
section
variable {W : World} {g : Nat} {x0 x1 x2 x3 x4 x5 : Value} {t : TypeId}
theorem st6E (hb : W.heap[g]? = some (.cells #[x0, x1, x2, x3, x4, x5] t (0, 0))) (a b : Int) (c : ByteArray) (d e f : Option Addr) (dn dc en ec fn fc : Nat) :
 (Instr.storeAt 35 (.pointer (some ⟨g, 0, none⟩)) (.agg #[.int .i64 a, .int .i64 b, .string c, .slice d dn dc, .slice e en ec, .slice f fn fc])).run Tryz.prog W = .ok () (six7 W g (.int .i64 a) (.int .i64 b) (.string c) (.slice d dn dc) (.slice e en ec) (.slice f fn fc)) := by
 have r0 : W.cell? ⟨g, 0, none⟩ = some x0 := by simp [World.cell?, hb]
 have r1 : W.cell? ⟨g, 1, none⟩ = some x1 := by simp [World.cell?, hb]
 have r2 : W.cell? ⟨g, 2, none⟩ = some x2 := by simp [World.cell?, hb]
 have r3 : W.cell? ⟨g, 3, none⟩ = some x3 := by simp [World.cell?, hb]
 have r4 : W.cell? ⟨g, 4, none⟩ = some x4 := by simp [World.cell?, hb]
 have r5 : W.cell? ⟨g, 5, none⟩ = some x5 := by simp [World.cell?, hb]
 have rf : ∀ i, W.frozen? ⟨g, i, none⟩ = false := fun i => by simp [World.frozen?, hb]
 unfold six7
 go_simp
theorem st6S (hb : W.heap[g]? = some (.cells #[x0, x1, x2, x3, x4, x5] t (0, 0))) (a b : Int) (c : ByteArray) (d e f : Option Addr) (dn dc en ec fn fc : Nat) :
 (Instr.storeAt 30 (.pointer (some ⟨g, 0, none⟩)) (.agg #[.int .i64 a, .string c, .slice d dn dc, .slice e en ec, .slice f fn fc, .int .i64 b])).run Tryz.prog W = .ok () (six7 W g (.int .i64 a) (.string c) (.slice d dn dc) (.slice e en ec) (.slice f fn fc) (.int .i64 b)) := by
 have r0 : W.cell? ⟨g, 0, none⟩ = some x0 := by simp [World.cell?, hb]
 have r1 : W.cell? ⟨g, 1, none⟩ = some x1 := by simp [World.cell?, hb]
 have r2 : W.cell? ⟨g, 2, none⟩ = some x2 := by simp [World.cell?, hb]
 have r3 : W.cell? ⟨g, 3, none⟩ = some x3 := by simp [World.cell?, hb]
 have r4 : W.cell? ⟨g, 4, none⟩ = some x4 := by simp [World.cell?, hb]
 have r5 : W.cell? ⟨g, 5, none⟩ = some x5 := by simp [World.cell?, hb]
 have rf : ∀ i, W.frozen? ⟨g, i, none⟩ = false := fun i => by simp [World.frozen?, hb]
 unfold six7
 go_simp
theorem ld6E (hb : W.heap[g]? = some (.cells #[x0, x1, x2, x3, x4, x5] t (0, 0))) : (Instr.loadAt 35 (.pointer (some ⟨g, 0, none⟩))).run Tryz.prog W = .ok (.agg #[x0, x1, x2, x3, x4, x5]) W := by
 have r0 : W.cell? ⟨g, 0, none⟩ = some x0 := by simp [World.cell?, hb]
 have r1 : W.cell? ⟨g, 1, none⟩ = some x1 := by simp [World.cell?, hb]
 have r2 : W.cell? ⟨g, 2, none⟩ = some x2 := by simp [World.cell?, hb]
 have r3 : W.cell? ⟨g, 3, none⟩ = some x3 := by simp [World.cell?, hb]
 have r4 : W.cell? ⟨g, 4, none⟩ = some x4 := by simp [World.cell?, hb]
 have r5 : W.cell? ⟨g, 5, none⟩ = some x5 := by simp [World.cell?, hb]
 go_simp
end
theorem lay2E (W : World) (a b a' b' : Int) (c c' : ByteArray) (d e f d' e' f' : Option Addr) (dn dc en ec fn fc dn' dc' en' ec' fn' fc' : Nat) :
 (Instr.buildSlice 28 2 #[(0, .agg #[.int .i64 a, .int .i64 b, .string c, .slice d dn dc, .slice e en ec, .slice f fn fc]), (1, .agg #[.int .i64 a', .int .i64 b', .string c', .slice d' dn' dc', .slice e' en' ec', .slice f' fn' fc'])]).run Tryz.prog W = .ok (.slice (some ⟨W.heap.size, 0, none⟩) 2 2) (W.alloc (.cells #[.int .i64 a, .int .i64 b, .string c, .slice d dn dc, .slice e en ec, .slice f fn fc, .int .i64 a', .int .i64 b', .string c', .slice d' dn' dc', .slice e' en' ec', .slice f' fn' fc'] 35)) := by
 go_simp
theorem bldE (W : World) (op : Int) (v : Option Addr) (n m : Nat) : (Instr.build 35 #[(0, .int .i64 op), (3, .slice v n m)]).run Tryz.prog W = .ok (.agg #[.int .i64 op, .int .i64 0, .string ⟨#[]⟩, .slice v n m, .slice none 0 0, .slice none 0 0]) W := by
 go_simp
theorem bldS1 (W : World) (op : Int) (s : ByteArray) (v : Option Addr) (n m : Nat) : (Instr.build 30 #[(0, .int .i64 op), (1, .string s), (2, .slice v n m)]).run Tryz.prog W = .ok (.agg #[.int .i64 op, .string s, .slice v n m, .slice none 0 0, .slice none 0 0, .int .i64 0]) W := by
 go_simp
theorem bldS2 (W : World) (op : Int) (v : Option Addr) (n m : Nat) : (Instr.build 30 #[(0, .int .i64 op), (2, .slice v n m)]).run Tryz.prog W = .ok (.agg #[.int .i64 op, .string ⟨#[]⟩, .slice v n m, .slice none 0 0, .slice none 0 0, .int .i64 0]) W := by
 go_simp
structure Yc (F : PR TE) (wr : World) (pb d : Nat) (y : TE) (ts' : List Tok) (a b c : Value) (Wc : World) : Prop where
 eq : F = .ok y ts'
 lie : Lie (XE y a b c) wr.heap.size Wc.heap.size Wc
 pat : PAt Wc pb ts' d
 gr : wr.grownBy Wc (some pb)
def rowO (six : List Value) (y : TE) (a b c : Value) : Obj := .cells (six ++ sixE y a b c).toArray 35
def SB (F : PR TE) (wr : World) (pb d g : Nat) (six : List Value) (op : Int) : Nat → Value → World → Prop
 | 0, v, W => ∃ y ts' a b c, v = exV y a b c ∧ Yc F wr pb d y ts' a b c W
 | 1, v, W => ∃ y ts' a b c Wc, v = .slice (some ⟨Wc.heap.size, 0, none⟩) 2 2 ∧ W = Wc.alloc (rowO six y a b c) ∧ Yc F wr pb d y ts' a b c Wc
 | 2, v, W => ∃ y ts' a b c Wc, v = .agg #[.int .i64 op, .int .i64 0, .string ⟨#[]⟩, .slice (some ⟨Wc.heap.size, 0, none⟩) 2 2, .slice none 0 0, .slice none 0 0] ∧ W = Wc.alloc (rowO six y a b c) ∧ Yc F wr pb d y ts' a b c Wc
 | _, v, W => ∃ y ts' a b c Wc, W = six7 (Wc.alloc (rowO six y a b c)) g (.int .i64 op) (.int .i64 0) (.string ⟨#[]⟩) (.slice (some ⟨Wc.heap.size, 0, none⟩) 2 2) (.slice none 0 0) (.slice none 0 0) ∧ Yc F wr pb d y ts' a b c Wc
theorem SB.blk {F : PR TE} {wr W : World} {pb d g n k : Nat} {six : List Value} {op : Int} {v : Value} {o : Obj} (hk : k < 3) (h : SB F wr pb d g six op k v W) (hb : wr.heap[n]? = some o) (hn : n ≠ pb) : W.heap[n]? = some o := by
 have hl := lt_of_block hb
 rcases (show k = 0 ∨ k = 1 ∨ k = 2 from by omega) with rfl | rfl | rfl
 ·obtain ⟨y, ts', a, b, c, _, hY⟩ := h
  rw [hY.gr.block n hl (by simpa using hn), hb]
 ·obtain ⟨y, ts', a, b, c, Wc, _, rfl, hY⟩ := h
  rw [Below.heap_alloc _ _ _ (Nat.lt_of_lt_of_le hl hY.gr.size), hY.gr.block n hl (by simpa using hn), hb]
 ·obtain ⟨y, ts', a, b, c, Wc, _, rfl, hY⟩ := h
  rw [Below.heap_alloc _ _ _ (Nat.lt_of_lt_of_le hl hY.gr.size), hY.gr.block n hl (by simpa using hn), hb]
def SF (F : PR TE) (wr : World) (pb d : Nat) (six : List Value) : Nat → Value → World → Prop
 | 0, v, W => ∃ y ts' a b c, v = exV y a b c ∧ Yc F wr pb d y ts' a b c W
 | _, v, W => ∃ y ts' a b c Wc, v = .slice (some ⟨Wc.heap.size, 0, none⟩) 2 2 ∧ W = Wc.alloc (rowO six y a b c) ∧ Yc F wr pb d y ts' a b c Wc
theorem SF.blk {F : PR TE} {wr W : World} {pb d n k : Nat} {six : List Value} {v : Value} {o : Obj} (hk : k < 1) (h : SF F wr pb d six k v W) (hb : wr.heap[n]? = some o) (hn : n ≠ pb) : W.heap[n]? = some o := by
 have hl := lt_of_block hb
 obtain rfl : k = 0 := by omega
 obtain ⟨y, ts', a, b, c, _, hY⟩ := h
 rw [hY.gr.block n hl (by simpa using hn), hb]
structure Yl (F : PR (List TE)) (wr : World) (pb d : Nat) (l : List TE) (ts' : List Tok) (v : Value) (Wc : World) : Prop where
 eq : F = .ok l ts'
 lie : Lie (RE v l) wr.heap.size Wc.heap.size Wc
 pat : PAt Wc pb ts' d
 gr : wr.grownBy Wc (some pb)
def SA (F : PR (List TE)) (wr : World) (pb d g : Nat) (name : ByteArray) : Nat → Value → World → Prop
 | 0, v, W => ∃ l ts', Yl F wr pb d l ts' v W
 | 1, v, W => ∃ l ts' va n m, v = .agg #[.int .i64 1, .string name, .slice va n m, .slice none 0 0, .slice none 0 0, .int .i64 0] ∧ Yl F wr pb d l ts' (.slice va n m) W
 | _, v, W => ∃ l ts' va n m Wc, W = six7 Wc g (.int .i64 1) (.string name) (.slice va n m) (.slice none 0 0) (.slice none 0 0) (.int .i64 0) ∧ Yl F wr pb d l ts' (.slice va n m) Wc
theorem SA.blk {F : PR (List TE)} {wr W : World} {pb d g n k : Nat} {name : ByteArray} {v : Value} {o : Obj} (hk : k < 2) (h : SA F wr pb d g name k v W) (hb : wr.heap[n]? = some o) (hn : n ≠ pb) : W.heap[n]? = some o := by
 have hl := lt_of_block hb
 rcases (show k = 0 ∨ k = 1 from by omega) with rfl | rfl
 ·obtain ⟨l, ts', hY⟩ := h
  rw [hY.gr.block n hl (by simpa using hn), hb]
 ·obtain ⟨l, ts', va, m1, m2, _, hY⟩ := h
  rw [hY.gr.block n hl (by simpa using hn), hb]
end Go.Proofs.YtenfphbhofibjaaGreatDoor
namespace Go.Proofs.YtenfphbhofibjaaGreatDoor
open Go.RowKit LM TM PM
theorem RowG.app0 {X Z : (Nat → Prop) → World → List Value → Prop} {ty : TypeId} {size bs n m s : Nat} {W W2 : World} {v v2 : Value} {cs new : List Value} {T : (Nat → Prop) → World → Prop}
 (h : RowG X ty size bs n W v cs) (hX : StabX X) (hL : Lie T s W.heap.size W) (hbs : bs ≤ s) (hsv : ∀ k, v.ownBlock = some k → k < s)
 (hown : W2.ownsRow bs ty size v2 m (cs ++ new)) (hg : W.grownBy W2 v.ownBlock) (ho : v2.ownBlock = v.ownBlock ∨ v2.ownBlock = some W.heap.size)
 (hj : ∀ (P : Nat → Prop), X P W2 cs → T P W2 → Z P W2 (cs ++ new)) : RowG Z ty size bs m W2 v2 (cs ++ new) ∧ Below bs W W2 := by
 have hlt : ∀ k, v.ownBlock = some k → bs ≤ k ∧ k < W.heap.size := fun k hk => h.own.lt k hk
 have hs2 : W.heap.size ≤ W2.heap.size := hg.size
 have hk2 : ∀ k, k < W.heap.size → v.ownBlock ≠ some k → W2.heap[k]? = W.heap[k]? := fun k hk hn => hg.block k hk (fun e1 => hn e1.symm)
 have hvo : ∀ k, v2.ownBlock = some k → v.ownBlock = some k ∨ W.heap.size ≤ k := fun k hk => by
  rcases ho with h1 | h1
  ·exact .inl (h1.symm.trans hk)
  ·rw [h1] at hk; cases hk; exact .inr (Nat.le_refl _)
 refine ⟨⟨hown, hj _ (hX _ _ _ _ _ (fun k hk => ?_) h.els) (hL.st _ _ _ _ (fun k hk => ?_) hL.at')⟩, ⟨hg.os, hg.tape, hg.output, hs2, fun k hk => hk2 k (by have := hL.le; omega) (fun e1 => by have := (hlt k e1).1; omega)⟩⟩
 ·have h1 := hk.1
  have h2 := hk.2.1
  have h3 := hk.2.2
  refine ⟨⟨h1, by omega, fun e1 => ?_⟩, hk2 k h2 h3⟩
  rcases hvo k e1 with h5 | h5
  ·exact h3 h5
  ·omega
 ·have h1 : s ≤ k := hk.1
  have h2 : k < W.heap.size := hk.2
  refine ⟨⟨by omega, by omega, fun e1 => ?_⟩, hk2 k h2 (fun e1 => by have := hsv k e1; omega)⟩
  rcases hvo k e1 with h5 | h5
  ·have := hsv k h5; omega
  ·omega
theorem pValue_one {E : List Tok → PR TE} {ts ts' : List Tok} {l : List TE} (h : pValue E ts = .ok l ts') : ∃ x, l = [x] := by
 unfold pValue at h
 obtain ⟨x, t1, _, h2⟩ := PR.bind_ok h
 obtain ⟨_, t2, _, h4⟩ := PR.bind_ok h2
 cases h4
 exact ⟨x, rfl⟩
theorem stab_EIn (e : TE) (a b c : Value) : Stab fun P w => EIn P w e a b c := fun P Q w w' H h => EIn.kept H e h
theorem row_one {v : Value} {x : TE} {P : Nat → Prop} {w : World} (h : RE v [x] P w) : ∃ g o cap a b c, v = .slice (some ⟨g, o, none⟩) 1 cap ∧ P g ∧ ECells w g o x a b c ∧ EIn P w x a b c := by
 obtain ⟨ad, cap, h1, h2, h3, h4⟩ := h
 obtain ⟨g, o, rfl, hg, hA⟩ := h4 (by simp)
 obtain ⟨⟨a, b, c, hc, hi⟩, _⟩ := hA
 exact ⟨g, o, cap, a, b, c, h1, hg, hc, hi⟩
theorem cells_get {w : World} {g o : Nat} {x : TE} {a b c : Value} (h : ECells w g o x a b c) : ∀ (q : Nat) (u : Value), (sixE x a b c)[q]? = some u → w.cell? ((⟨g, o, none⟩ : Addr).add q) = some u := by
 obtain ⟨op, num, text, ps, pm, bd⟩ := x
 obtain ⟨h0, h1, h2, h3, h4, h5⟩ := h
 intro q u hq
 match q, hq with
 | 0, hq => simp [sixE] at hq; subst hq; simpa [Addr.add] using h0
 | 1, hq => simp [sixE] at hq; subst hq; simpa [Addr.add] using h1
 | 2, hq => simp [sixE] at hq; subst hq; simpa [Addr.add] using h2
 | 3, hq => simp [sixE] at hq; subst hq; simpa [Addr.add] using h3
 | 4, hq => simp [sixE] at hq; subst hq; simpa [Addr.add] using h4
 | 5, hq => simp [sixE] at hq; subst hq; simpa [Addr.add] using h5
 | q + 6, hq => simp [sixE] at hq
structure Yp (F : PR (List TE)) (w : World) (pb d : Nat) (o : Obj) (ps l : List TE) (ts' : List Tok) (v : Value) (W : World) : Prop where
 eq : F = .ok l ts'
 pat : PAt W pb ts' d
 gr : w.grownBy W (some pb)
 blk : W.heap[w.heap.size]? = some o
 lie : Lie (RE v (ps ++ l)) (w.heap.size + 1) W.heap.size W
def SP (F : PR (List TE)) (w wr : World) (pb d : Nat) (o : Obj) (ps : List TE) : Nat → Value → World → Prop
 | 0, v, W => ∃ l ts', Yl F wr pb d l ts' v W
 | 1, v, W => ∃ l ts' va n m, v = .slice va n m ∧ Yp F w pb d o ps l ts' (.slice va n m) W
 | 2, v, W => ∃ l ts' va n m, v = .agg #[.int .i64 2, .string ⟨#[]⟩, .slice va n m, .slice none 0 0, .slice none 0 0, .int .i64 0] ∧ Yp F w pb d o ps l ts' (.slice va n m) W
 | _, v, W => ∃ l ts' va n m Wc, W = six7 Wc w.heap.size (.int .i64 2) (.string ⟨#[]⟩) (.slice va n m) (.slice none 0 0) (.slice none 0 0) (.int .i64 0) ∧ Yp F w pb d o ps l ts' (.slice va n m) Wc
theorem SP.blk {F : PR (List TE)} {w wr W : World} {pb d n k : Nat} {o o2 : Obj} {ps : List TE} {v : Value} (hk : k < 1) (h : SP F w wr pb d o ps k v W) (hb : wr.heap[n]? = some o2) (hn : n ≠ pb) : W.heap[n]? = some o2 := by
 have hl := lt_of_block hb
 obtain rfl : k = 0 := by omega
 obtain ⟨l, ts', hY⟩ := h
 rw [hY.gr.block n hl (by simpa using hn), hb]
theorem put_app {E : List Tok → PR TE} {tk : List Tok} {w wr Wc : World} {pb d s e : Nat} {o : Obj} {x : TE} {a b c v : Value} {l : List TE} {ts' : List Tok} (hx : Lie (XE x a b c) s e wr) (hop : exOp x = 14) (hs : w.heap.size + 1 ≤ s) (hpl : pb < w.heap.size) (hgw : w.grownBy wr (some pb)) (hb0 : wr.heap[w.heap.size]? = some o)
 (hY : Yl (pValue E tk) wr pb d l ts' v Wc) (ty : TypeId) : ∃ va n m W2, (Builtin.append_ #[28, 28] ty #[a, v]).run Tryz.prog Wc = .ok (.slice va n m) W2 ∧ Yp (pValue E tk) w pb d o (exParts x) l ts' (.slice va n m) W2 := by
 obtain ⟨y, rfl⟩ := pValue_one hY.eq
 obtain ⟨gv, ov, cap, ya, yb, yc, rfl, hgv, hcv, hiv⟩ := row_one hY.lie.at'
 have hxc := hx.gr hY.gr (by omega)
 obtain ⟨g, cs, rfl, hg, hblk, hsz, hl2, hes⟩ := hxc.at'.2 hop
 obtain ⟨i0, hi, hz0, hz1, hz2⟩ := info_parts infoExpr
 have hg1 : s ≤ g := hg.1
 have hg2 : g < e := hg.2
 have hee : e ≤ wr.heap.size := hx.lt
 have hsc : wr.heap.size ≤ Wc.heap.size := hY.gr.size
 have hrow : RowG (XEs (exParts x)) 35 6 (w.heap.size + 1) 2 Wc (.slice (some ⟨g, 0, none⟩) 2 2) cs.toList := by
  refine ⟨⟨by simp [hsz], .inr ⟨g, 2, cs, rfl, by omega, hblk, by decide, by unfold maxLen; decide, by omega, ?_⟩⟩, ?_⟩
  ·rw [List.take_of_length_le (by simp [hsz])]
  ·refine EsC.kept (fun k hk => ?_) hes
   have h1 : s ≤ k := hk.1.1
   have h2 : k < e := hk.1.2
   have h3 : k ≠ g := hk.2
   exact ⟨⟨by omega, by omega, by simp [Value.ownBlock]; omega⟩, rfl⟩
 obtain ⟨v2, W2, hrun, r1, r2, r3⟩ := run_append_own2 (P := Tryz.prog) Wc (w.heap.size + 1) 28 ty 35 i0 _ 6 104 Tryz.underlying28 hi hz0 hz1 hz2 rfl (by decide) (.slice (some ⟨g, 0, none⟩) 2 2) 2 cs.toList hrow.own ⟨gv, ov, none⟩ 1 cap (sixE y ya yb yc) (by rw [sixE_len]) (cells_get hcv) (six_cells hiv) (by decide) (by unfold maxLen; omega) (by omega) (by omega)
 have hLy : Lie (fun P w => EIn P w y ya yb yc) wr.heap.size Wc.heap.size Wc := ⟨stab_EIn _ _ _ _, hsc, Nat.le_refl _, hiv⟩
 obtain ⟨a1, a2⟩ := hrow.app0 (Z := XEs (exParts x ++ [y])) (stab_XEs _) hLy (by omega) (fun k hk => by simp [Value.ownBlock] at hk; omega) r1 r2 r3 (fun P h1 h2 => EsC.snoc h2 h1)
 obtain ⟨va, cp, hva, _⟩ := row_shape a1.own
 subst hva
 refine ⟨va, 3, cp, W2, hrun, hY.eq, hY.pat.bel a2 (by omega), ⟨a2.os.trans (hY.gr.os.trans hgw.os), a2.tape.trans (hY.gr.tape.trans hgw.tape), a2.output.trans (hY.gr.output.trans hgw.output), by have := a2.size; have := hgw.size; omega, fun k hk hn => ?_⟩, ?_, a1.lie_E (by simp [hl2]) (by have := a2.size; have := lt_of_block hb0; omega)⟩
 ·rw [a2.block k (by omega), hY.gr.block k (by have := hgw.size; omega) hn, hgw.block k hk hn]
 ·rw [a2.block _ (by omega), hY.gr.block _ (lt_of_block hb0) (by simp; omega), hb0]
end Go.Proofs.YtenfphbhofibjaaGreatDoor
namespace Go.Proofs.YtenfphbhofibjaaGreatDoor
open Go.RowKit LM TM PM
theorem infoStr : (Tryz.prog.info? 9).map (fun i => (i.zero, i.size, i.bytes)) = some (some (.string ⟨#[]⟩), 1, 16) := by kernel_rfl
structure BoxI (X : (Nat → Prop) → World → List Value → Prop) (ty : TypeId) (size : Nat) (T : TypeId) (O : Nat → Option Obj) (bc : Value → Array Value) (w0 : World) (pb gx gp bs n : Nat) (W : World) (v : Value) (cs : List Value) : Prop where
 box : W.heap[gx]? = some (.cells (bc v) T (0, 0))
 oth : ∀ k o, O k = some o → W.heap[k]? = some o
 row : RowG X ty size bs n W v cs
 gr : w0.grownBy W (some pb)
section
variable {X Z : (Nat → Prop) → World → List Value → Prop} {ty : TypeId} {size : Nat} {T : TypeId} {O : Nat → Option Obj} {bc : Value → Array Value} {w0 W W' : World} {pb gx gp bs n m : Nat} {v v2 : Value} {cs new : List Value}
theorem BoxI.step (h : BoxI X ty size T O bc w0 pb gx gp bs n W v cs) (hX : StabX X) (hg : W.grownBy W' (some pb)) (h1 : pb < w0.heap.size) (hx : w0.heap.size ≤ gx) (hO : ∀ k o, O k = some o → w0.heap.size ≤ k ∧ k < bs ∧ k ≠ gx) (hb : w0.heap.size ≤ bs) : BoxI X ty size T O bc w0 pb gx gp bs n W' v cs :=
 ⟨(hg.block gx (lt_of_block h.box) (by simp; omega)).trans h.box, fun k o hk => (hg.block k (lt_of_block (h.oth k o hk)) (by have := (hO k o hk).1; simp; omega)).trans (h.oth k o hk), h.row.gr hX hg (by omega), gr_trans h.gr hg⟩
theorem BoxI.stored {f : Nat} (hbox : W.heap[gx]? = some (.cells (bc v) T (0, 0))) (hpar : ∀ k o, O k = some o → W.heap[k]? = some o) (hrow : RowG Z ty size bs m W v2 cs) (hZ : StabX Z) (hgr : w0.grownBy W (some pb)) (hbc : (bc v).setIfInBounds f v2 = bc v2) (hO : ∀ k o, O k = some o → w0.heap.size ≤ k ∧ k < bs ∧ k ≠ gx) (hx : w0.heap.size ≤ gx) (hxb : gx < bs) : BoxI Z ty size T O bc w0 pb gx gp bs m (W.setCell ⟨gx, f, none⟩ v2) v2 cs := by
 have hoth : ∀ k, k ≠ gx → (W.setCell ⟨gx, f, none⟩ v2).heap[k]? = W.heap[k]? := fun k hk => Below.heap_setCell _ _ _ _ hk
 have hsz : (W.setCell ⟨gx, f, none⟩ v2).heap.size = W.heap.size := by simp [World.setCell]
 refine ⟨by rw [blk_set hbox, hbc], fun k o hk => (hoth k (hO k o hk).2.2).trans (hpar k o hk), ⟨⟨hrow.own.1, ?_⟩, hZ _ _ _ _ _ (fun k hk => ⟨⟨hk.1, by rw [hsz]; exact hk.2.1, hk.2.2⟩, hoth k (by have := hk.1; omega)⟩) hrow.els⟩, gr_new hgr hx _ _⟩
 rcases hrow.own.2 with h0 | ⟨k, cap3, cu, hv3, hk, hh, r⟩
 ·exact .inl h0
 ·exact .inr ⟨k, cap3, cu, hv3, hk, (hoth k (by omega)).trans hh, r⟩
end
def RetI {α : Type} (r : PR α) (w : World) (pb d : Nat) (I : α → World → Prop) (en : Ending) (w' : World) : Prop :=
 match r with
 | .ok x ts' => en = .returned (.tuple #[]) ∧ PAt w' pb ts' d ∧ I x w' ∧ Below pb w w'
 | .bad a e => en = .panicked (chainF a e) ∧ Below pb w w'
theorem reti_bad {α : Type} {r : PR α} {w w' : World} {pb d a e : Nat} {I : α → World → Prop} (hr : r = .bad a e) (hb : Below pb w w') : RetI r w pb d I (.panicked (chainF a e)) w' := by subst hr; exact ⟨rfl, hb⟩
theorem reti_ok {α : Type} {r : PR α} {w w' : World} {pb d : Nat} {x : α} {ts' : List Tok} {I : α → World → Prop} (hr : r = .ok x ts') (hp : PAt w' pb ts' d) (hi : I x w') (hb : Below pb w w') : RetI r w pb d I (.returned (.tuple #[])) w' := by subst hr; exact ⟨rfl, hp, hi, hb⟩
def SN (F : PR ByteArray) (w0 wr : World) (pb d gx gp bs : Nat) (T : TypeId) (O : Nat → Option Obj) (bc : Value → Array Value) (v0 : Value) (acc : List ByteArray) : Nat → Value → World → Prop
 | 0, v, W => ∃ s ts', v = .string s ∧ F = .ok s ts' ∧ PAt W pb ts' d ∧ wr.grownBy W (some pb)
 | 1, v, W => ∃ s ts' Wc, v = .slice (some ⟨Wc.heap.size, 0, none⟩) 1 1 ∧ W = Wc.alloc (.cells #[.string s] 9) ∧ F = .ok s ts' ∧ PAt Wc pb ts' d ∧ wr.grownBy Wc (some pb)
 | 2, v, W => ∃ s ts' cs, F = .ok s ts' ∧ PAt W pb ts' d ∧ W.heap[gx]? = some (.cells (bc v0) T (0, 0)) ∧ (∀ k o, O k = some o → W.heap[k]? = some o) ∧ RowG (XNs (acc ++ [s])) 9 1 bs (acc.length + 1) W v cs ∧ w0.grownBy W (some pb) ∧ Below pb wr W
 | _, v, W => ∃ s ts' v2 cs, F = .ok s ts' ∧ PAt W pb ts' d ∧ BoxI (XNs (acc ++ [s])) 9 1 T O bc w0 pb gx gp bs (acc.length + 1) W v2 cs ∧ Below pb wr W
theorem SN.blk {F : PR ByteArray} {w0 wr W : World} {pb d gx gp bs n k : Nat} {T : TypeId} {O : Nat → Option Obj} {bc : Value → Array Value} {v0 v : Value} {acc : List ByteArray} {o : Obj} (hk : k < 2) (h : SN F w0 wr pb d gx gp bs T O bc v0 acc k v W) (hb : wr.heap[n]? = some o) (hn : n ≠ pb) : W.heap[n]? = some o := by
 have hl := lt_of_block hb
 rcases (show k = 0 ∨ k = 1 from by omega) with rfl | rfl
 ·obtain ⟨s, ts', _, _, _, hg⟩ := h
  rw [hg.block n hl (by simpa using hn), hb]
 ·obtain ⟨s, ts', Wc, _, rfl, _, _, hg⟩ := h
  rw [Below.heap_alloc _ _ _ (Nat.lt_of_lt_of_le hl hg.size), hg.block n hl (by simpa using hn), hb]
theorem name_app {F : PR ByteArray} {w0 wr Wc : World} {pb d gx gp bs : Nat} {T : TypeId} {O : Nat → Option Obj} {bc : Value → Array Value} {v0 : Value} {acc : List ByteArray} {cs : List Value} {s : ByteArray} {ts' : List Tok} (hI : BoxI (XNs acc) 9 1 T O bc w0 pb gx gp bs acc.length wr v0 cs) (hF : F = .ok s ts') (hp : PAt Wc pb ts' d) (hg : wr.grownBy Wc (some pb))
 (h1 : pb < w0.heap.size) (hx : w0.heap.size ≤ gx) (hO : ∀ k o, O k = some o → w0.heap.size ≤ k ∧ k < bs ∧ k ≠ gx) (hb : gx < bs) (hbw : bs ≤ wr.heap.size) (hn : acc.length ≤ 100000) (ty : TypeId) :
 ∃ v W2, (Builtin.append_ #[33, 33] ty #[v0, .slice (some ⟨Wc.heap.size, 0, none⟩) 1 1]).run Tryz.prog (Wc.alloc (.cells #[.string s] 9)) = .ok v W2 ∧ SN F w0 wr pb d gx gp bs T O bc v0 acc 2 v W2 := by
 obtain ⟨i0, hi, hz0, hz1, hz2⟩ := info_parts infoStr
 have hIc := hI.step (stab_XNs _) hg h1 hx hO (by omega)
 have hsc : wr.heap.size ≤ Wc.heap.size := hg.size
 obtain ⟨v, W2, hrun, r1, r2, r3⟩ := run_append_own2 (P := Tryz.prog) (Wc.alloc (.cells #[.string s] 9)) bs 33 ty 9 i0 _ 1 16 Tryz.underlying33 hi hz0 hz1 hz2 rfl (by decide) v0 acc.length cs (hIc.row.own.alloc _) ⟨Wc.heap.size, 0, none⟩ 1 1 [.string s] (by simp) (fun q u hq => by match q, hq with | 0, hq => simp at hq; subst hq; simp [Addr.add] | q + 1, hq => simp at hq) (by intro u hu; simp at hu; subst hu; rfl) (by decide) (by unfold maxLen; omega) (by omega) (by simp; omega)
 have hL : Lie (fun (_ : Nat → Prop) (_ : World) => True) Wc.heap.size Wc.heap.size Wc := ⟨fun _ _ _ _ _ _ => trivial, Nat.le_refl _, Nat.le_refl _, trivial⟩
 obtain ⟨a1, a2, a3⟩ := hIc.row.app (Z := XNs (acc ++ [s])) (stab_XNs _) hL (by omega) (fun k hk => (hIc.row.own.lt k hk).2) (by omega) r1 r2 (by simpa using r3) hIc.gr (by omega) (fun P h1 _ => by show _ = _; rw [show cs = _ from h1]; simp)
 exact ⟨v, W2, hrun, s, ts', _, hF, hp.bel a3 (by omega), (a3.block gx (by omega)).trans hIc.box, fun k o hk => (a3.block k (hO k o hk).2.1).trans (hIc.oth k o hk), a1, a2, (grown_to_below hg (by omega)).trans ⟨a3.os, a3.tape, a3.output, a3.size, fun k hk => a3.block k (by omega)⟩⟩
end Go.Proofs.YtenfphbhofibjaaGreatDoor

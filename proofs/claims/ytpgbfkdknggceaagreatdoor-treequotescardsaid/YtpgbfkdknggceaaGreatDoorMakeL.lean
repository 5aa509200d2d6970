/-
  The laws' Make of layer 4: lemmas of its walk.
  Conditions: as each theorem says.
-/
import Derived.Test.YtpgbfkdknggceaaGreatDoorMakeM
import Derived.Test.YtpgbfkdknggceaaGreatDoorAwake
namespace Go.Proofs.YtpgbfkdknggceaaGreatDoor
open Go.ChangeShapes Go.WideShapes Go.ChangeAt Go.RowKit Go.Maps Go.Sort Go.Lib
set_option linter.unusedVariables false
/-- A cache's key, as it is read. -/
def kE (m t : Int) : Lit := .string (keyBytes [.int .i64 m, .int .u64 t])
def Ew (m t : Int) : Prop := 0 ≤ m ∧ m ≤ 3 ∧ 0 ≤ t ∧ t ≤ 18446744073709551615
/-- Block c is a cache of at most n entries, and reads as D; f: what it has. -/
structure ChD (w : World) (c n : Nat) (f : Int → Int → Option Int) (D : DataW Unit) : Prop where
  own : w.ownsMap Tryz.prog 121 (plainElem Tryz.prog 94) c n D
  rng : ∀ m t p, f m t = some p → Ew m t ∧ 0 ≤ p ∧ p ≤ 18446744073709551615
  hit : ∀ m t p, f m t = some p → Maps.has D (kE m t) = true ∧ ∀ z, D.atKey (kE m t) z = .lit (.int .u64 p)
  all : ∀ kl, Maps.has D kl = true → ∃ m t p, kl = kE m t ∧ f m t = some p
def Ch (w : World) (c n : Nat) (f : Int → Int → Option Int) : Prop := ∃ D, ChD w c n f D
/-- An entry is set. -/
def upF (f : Int → Int → Option Int) (m t p : Int) : Int → Int → Option Int := fun m' t' => if m' = m ∧ t' = t then some p else f m' t'
/-- What the cache has behind the first i objects. -/
def cacheF (L : List OO) : Nat → Int → Int → Option Int
  | 0 => fun _ _ => none
  | i + 1 => match L[i]? with
    | some oo => if oo.proxy then upF (cacheF L i) (oo.mem % 4) (tgt L.length oo.names) (refI i) else cacheF L i
    | none => cacheF L i
theorem cacheF_plain {L : List OO} {i : Nat} {oo : OO} (h : L[i]? = some oo) (hp : oo.proxy = false) : cacheF L (i + 1) = cacheF L i := by
  simp [cacheF, h, hp]
theorem cacheF_proxy {L : List OO} {i : Nat} {oo : OO} (h : L[i]? = some oo) (hp : oo.proxy = true) : cacheF L (i + 1) = upF (cacheF L i) (oo.mem % 4) (tgt L.length oo.names) (refI i) := by
  simp [cacheF, h, hp]
theorem ChD.kept {w w' : World} {c n : Nat} {f : Int → Int → Option Int} {D : DataW Unit} (h : ChD w c n f D) (hk : w'.heap[c]? = w.heap[c]?) : ChD w' c n f D := by
  refine ⟨?_, h.rng, h.hit, h.all⟩
  obtain ⟨es, clock, hb, r⟩ := h.own
  exact ⟨es, clock, hk.trans hb, r⟩
theorem Ch.kept {w w' : World} {c n : Nat} {f : Int → Int → Option Int} (h : Ch w c n f) (hk : w'.heap[c]? = w.heap[c]?) : Ch w' c n f := by
  obtain ⟨D, h⟩ := h
  exact ⟨D, h.kept hk⟩
theorem Ch.lt {w : World} {c n : Nat} {f : Int → Int → Option Int} (h : Ch w c n f) : c < w.heap.size := by
  obtain ⟨D, h⟩ := h
  exact h.own.lt
theorem Ch.block {w : World} {c n : Nat} {f : Int → Int → Option Int} (h : Ch w c n f) : ∃ es clock, w.heap[c]? = some (.map es clock) := by
  obtain ⟨D, h⟩ := h
  obtain ⟨es, clock, hb, r⟩ := h.own
  exact ⟨es, clock, hb⟩
/-- The first k Refs. -/
def refsTo (k : Nat) : List Int := (List.range k).map refI
theorem refsTo_succ (k : Nat) : refsTo (k + 1) = refsTo k ++ [refI k] := by simp [refsTo, List.range_succ]
theorem refsTo_get {k i : Nat} (h : i < k) : (refsTo k)[i]? = some (refI i) := by simp [refsTo, h]
theorem refsTo_length (k : Nat) : (refsTo k).length = k := by simp [refsTo]
theorem Mk.start (w0 w : World) (ab : Nat) (L : List OO) (h : Arn w0.heap.size ab w ⟨[(0, (L.length : Int))], [], []⟩) (hb : Below w0.heap.size w0 w) (hs : w0.heap.size + 2 ≤ w.heap.size) (B M : Nat → Nat) : Mk w0 w ab L (fun _ => []) B M ⟨[(0, (L.length : Int))], [], []⟩ 0 :=
  ⟨h, rfl, rfl, fun j oo hj => by omega, rfl, fun i j hi => by omega, hs, fun j oo hj => by omega, fun i j oi oj hi => by omega, hb⟩
theorem Mk.sides {base cb k n : Nat} {w w1 w' : World} {v : Value} {xs : List Value} {f : Int → Int → Option Int} (hr : w.ownsRow base 94 1 v k xs) (hc : Ch w cb n f) (hb : Below w.heap.size w w1) (hF : Fr isA base w1 w') (hbs : base ≤ w.heap.size) :
    w'.ownsRow base 94 1 v k xs ∧ Ch w' cb n f ∧ base ≤ w'.heap.size := by
  have hr1 := row_kept hr (fun k hk => hb.block k hk)
  have hc1 := hc.kept (hb.block cb hc.lt)
  obtain ⟨es, clock, hm⟩ := hc1.block
  exact ⟨hF.row hr1 rfl, hc1.kept ((hF.map hm).trans hm.symm), Nat.le_trans hbs (Nat.le_trans hb.size hF.size)⟩
/-- Behind an append on the row of Refs. -/
theorem Mk.app {w0 w w' : World} {ab cb m k n : Nat} {L : List OO} {done : Nat → List Int} {B M : Nat → Nat} {s : St} {v : Value} {xs : List Value} {o : Obj} {f : Int → Int → Option Int} (h : Mk w0 w ab L done B M s k) (hc : Ch w cb n f) (hr : w.ownsRow w0.heap.size 94 1 v m xs) (hg : (w.alloc o).grownBy w' v.ownBlock) :
    Mk w0 w' ab L done B M s k ∧ Ch w' cb n f := by
  have F : Fr (only 94) w0.heap.size w w' := ((Fr.refl _ _ _).alloc o).grown hg (fun j e => by
    obtain ⟨h1, cs, t, fz, h2, h3⟩ := mine_row (T := only 94) (hr.alloc o) rfl j e
    exact ⟨h1, cs, t, fz, h2, h3⟩)
  obtain ⟨es, clock, hm⟩ := hc.block
  refine ⟨⟨h.arn.fr F (by intro t ht; simp [isA] at ht; simp [only]; omega), h.accs, h.len, h.slot, h.un, h.inj, Nat.le_trans h.big F.size, fun j oo h1 h2 h3 => ?_, h.injM, h.below.trans (F.below h.below.size)⟩, hc.kept ((F.map hm).trans hm.symm)⟩
  obtain ⟨e1, e2⟩ := h.maps j oo h1 h2 h3
  obtain ⟨es, clock, hb⟩ := e1.block
  exact ⟨e1.kept ((F.map hb).trans hb.symm), e2⟩
set_option maxRecDepth 100000 in
theorem lawE : Go.WideMaps.KeyLaw Tryz.prog 121 := deep_law_laid laidOut (m := 3) (by omega) (of_decide_eq_true (by kernel_rfl)) (by kernel_rfl) (by kernel_rfl)
theorem keyedE : Keyed Tryz.prog 121 := Keyed.of_law lawE
theorem key2 {P : Program} {k a b : TypeId} {n0 n1 g0 g1 p0 p1 : String} {e0 e1 : Bool} {y0 y1 : Nat} {q0 q1 : IntKind} (x y : Int)
    (hu : P.underlying k = some (.struct #[⟨n0, a, 0, e0, g0, p0, y0⟩, ⟨n1, b, 1, e1, g1, p1, y1⟩])) (hk : P.keyType k = true) (hck : P.cellsOf k = 2) (ha : P.cellsOf a = 1) (hb : P.cellsOf b = 1)
    (ua : P.underlying a = some (.int q0)) (ub : P.underlying b = some (.int q1)) (m0 : n0 ≠ "_") (m1 : n1 ≠ "_") (hs : 20 < P.types.size)
    (wx : (Lit.int q0 x).wf = true) (wy : (Lit.int q1 y).wf = true) :
    keyOf P k (.agg #[.int q0 x, .int q1 y]) = some (.string (keyBytes [.int q0 x, .int q1 y])) := by
  obtain ⟨d, hd⟩ := two_of hs
  simp [keyOf, hu, hk, Value.formed, hck, Program.keyLits, Value.cells, ha, hb, hd, ua, ub, wx, wy, m0, m1]
theorem keyE (x y : Int) (hx0 : 0 ≤ x) (hx1 : x ≤ 255) (hy0 : 0 ≤ y) (hy1 : y ≤ 18446744073709551615) : keyOf Tryz.prog 121 (.agg #[.int .i64 x, .int .u64 y]) = some (.string (keyBytes [.int .i64 x, .int .u64 y])) :=
  key2 x y Tryz.underlying121 (by kernel_rfl) (by kernel_rfl) (by kernel_rfl) (by kernel_rfl) Tryz.underlying3 Tryz.underlying94 (by decide) (by decide) (of_decide_eq_true (by kernel_rfl)) (WalkArith.wf_i64 (by omega)) (WalkArith.wf_u64 ⟨hy0, hy1⟩)
theorem kE_inj {m t m' t' : Int} (h : Ew m t) (h' : Ew m' t') (e : kE m t = kE m' t') : m = m' ∧ t = t' := by
  have a := keyE m t h.1 (by have := h.2.1; omega) h.2.2.1 h.2.2.2
  have b := keyE m' t' h'.1 (by have := h'.2.1; omega) h'.2.2.1 h'.2.2.2
  have b' : keyOf Tryz.prog 121 (.agg #[.int .i64 m', .int .u64 t']) = some (kE m t) := by rw [e]; exact b
  have := lawE.inj a b'
  simpa using this
theorem ChD.put {w w' : World} {c n n' : Nat} {f : Int → Int → Option Int} {D : DataW Unit} {m t p : Int} (h : ChD w c n f D) (hw : Ew m t) (hp : 0 ≤ p ∧ p ≤ 18446744073709551615) (ho : w'.ownsMap Tryz.prog 121 (plainElem Tryz.prog 94) c n' (D.put (kE m t) (.lit (.int .u64 p)))) : ChD w' c n' (upF f m t p) (D.put (kE m t) (.lit (.int .u64 p))) := by
  have hk : WideAt.IsKeyLit (kE m t) := by simp [kE, WideAt.IsKeyLit]
  refine ⟨ho, fun m' t' p' h1 => ?_, fun m' t' p' h1 => ?_, fun kl h1 => ?_⟩
  · unfold upF at h1
    split at h1
    · rename_i e; cases h1; rw [e.1, e.2]; exact ⟨hw, hp⟩
    · exact h.rng _ _ _ h1
  · unfold upF at h1
    split at h1
    · rename_i e
      cases h1
      rw [e.1, e.2]
      exact ⟨has_put_same h.own.isMap hk _, fun z => atKey_put_same h.own.isMap hk _ z⟩
    · rename_i e
      have hne : kE m' t' ≠ kE m t := fun e2 => e (kE_inj (h.rng _ _ _ h1).1 hw e2)
      obtain ⟨x, y⟩ := h.hit _ _ _ h1
      exact ⟨by rw [has_put_other hne]; exact x, fun z => by rw [atKey_put_other hne]; exact y z⟩
  · by_cases e : kl = kE m t
    · exact ⟨m, t, p, e, by simp [upF]⟩
    · rw [has_put_other e] at h1
      obtain ⟨m', t', p', e2, h2⟩ := h.all kl h1
      refine ⟨m', t', p', e2, ?_⟩
      unfold upF
      rw [if_neg (fun e3 => e (by rw [e2, e3.1, e3.2]))]
      exact h2
theorem atN_nat (n t : Nat) : atN n (t : Int) = t % n := by unfold atN; rw [← Int.natCast_emod]; exact Int.toNat_natCast _
theorem look_refI {s : St} {i : Nat} {p : Nat × Ob} (h : s.slots[i]? = some ⟨1, some p⟩) (hi : i ≤ 1000) : look s.slots (refI i) = some p := by
  have e1 : (refI i % 4294967296).toNat = i := by unfold refI; omega
  have e2 : refI i / 4294967296 = 1 := by unfold refI; omega
  rw [look, e1, e2, h]; simp
theorem refI_range (i : Nat) (hi : i ≤ 1000) : 0 ≤ refI i ∧ refI i ≤ 18446744073709551615 := by unfold refI; omega
theorem object_refI (i : Nat) (hi : i ≤ 1000) (w : World) : Calls Tryz.prog 67 #[.int .u64 (refI i)] w fun e w' => e = .returned (.agg #[.int .u8 5, .int .i64 (refI i), .string { data := #[] }]) ∧ w' = w.alloc (.cells #[.int .u8 5, .int .i64 (refI i), .string { data := #[] }] 112) := by
  have := object_any (refI i) w
  rwa [show wrap64 (refI i) = refI i from by unfold wrap64 refI; omega] at this
theorem tgt_range (n : Nat) (ns : List Int) (hn : 0 < n) (hl : n ≤ 1000) : 0 ≤ tgt n ns ∧ tgt n ns ≤ 18446744073709551615 := by
  unfold tgt
  split
  · omega
  · rename_i b _
    refine refI_range _ ?_
    unfold atN
    have := Int.emod_lt_of_pos b (show (0 : Int) < n from by omega)
    have := Int.emod_nonneg b (show (n : Int) ≠ 0 from by omega)
    omega
theorem ob_three {w : World} {b : Nat} {o : Ob} (h : w.heap[b]? = some (.cells o.cells 114 (0, 0))) : w.cell? ⟨b, 3, none⟩ = some (.map o.fm) ∧ w.cell? ⟨b, 12, none⟩ = some (.int .u64 o.ta) ∧ (∀ j, w.frozen? ⟨b, j, none⟩ = false) := by
  refine ⟨?_, ?_, fun j => frozen_of_row _ _ _ _ _ h⟩ <;> (rw [cell_of_row _ _ _ _ _ _ h]; rfl)
/-- Which names have been gone through: all of the first i's, k of the i-th's. -/
def doneAt (L : List OO) (i k : Nat) (done : Nat → List Int) : Prop := ∀ j oo, L[j]? = some oo → done j = if j < i then oo.names else if j = i then oo.names.take k else []
theorem doneAt_more {L : List OO} {i k : Nat} {done : Nat → List Int} {oo : OO} {b : Int} (h : doneAt L i k done) (hi : L[i]? = some oo) (hb : oo.names[k]? = some b) : doneAt L i (k + 1) (moreN done i b) := by
  intro j oj hj
  unfold moreN
  by_cases e : j = i
  · subst e
    rw [hi] at hj
    cases hj
    rw [if_pos rfl, h j oo hi, if_neg (by omega), if_pos rfl, if_neg (by omega), if_pos rfl, List.take_add_one, hb]
    rfl
  · rw [if_neg e, h j oj hj]
    simp [e]
theorem doneAt_next {L : List OO} {i k : Nat} {done : Nat → List Int} {oo : OO} (h : doneAt L i k done) (hi : L[i]? = some oo) (hk : oo.names.length ≤ k) : doneAt L (i + 1) 0 done := by
  intro j oj hj
  rw [h j oj hj]
  by_cases e : j = i
  · subst e
    rw [hi] at hj
    cases hj
    rw [if_neg (by omega), if_pos rfl, if_pos (by omega), List.take_of_length_le hk]
  · by_cases e2 : j < i
    · rw [if_pos e2, if_pos (by omega)]
    · rw [if_neg e2, if_neg e, if_neg (by omega)]
      split <;> simp
/-- Proxies among the first i. -/
def px (L : List OO) (i : Nat) : Nat := (L.take i).countP fun oo => oo.proxy
theorem px_succ {L : List OO} {i : Nat} {oo : OO} (h : L[i]? = some oo) : px L (i + 1) = px L i + if oo.proxy then 1 else 0 := by
  unfold px
  rw [List.take_add_one, h]
  cases hp : oo.proxy <;> simp [hp]
theorem px_le (L : List OO) (i : Nat) : px L i ≤ i := by
  unfold px
  have := List.countP_le_length (p := fun oo : OO => oo.proxy) (l := L.take i)
  have h2 : (L.take i).length ≤ i := by simp; omega
  omega
theorem entersNumber (args : Array Value) (w : World) : (callFunc 68 args).run Tryz.prog w = .ok (.enter 68 args) w := by kernel_rfl
theorem entersObject (args : Array Value) (w : World) : (callFunc 67 args).run Tryz.prog w = .ok (.enter 67 args) w := by kernel_rfl
theorem keyW (k : Nat) (hk : k ≤ 1000000) : Vl.wf ⟨2, (k : Int), ⟨#[]⟩⟩ := by
  refine ⟨rfl, ?_, ?_⟩
  · show (Lit.int .i64 (k : Int)).wf = true
    exact WalkArith.wf_i64 (by omega)
  · show (⟨#[]⟩ : ByteArray).size ≤ maxLen
    exact Nat.zero_le _
/-- Behind a field's store. -/
theorem Mk.fldAll {w0 w w7 : World} {ab cb cp i n : Nat} {L : List OO} {done : Nat → List Int} {B M : Nat → Nat} {s : St} {oo : OO} {b : Int} {A C : Obj} {x y : Vl} {D : DataW Value} {v : Value} {xs : List Value} {cs : Array Value} {t : TypeId} {f : Int → Int → Option Int} (h : Mk w0 w ab L done B M s L.length) (hi : L[i]? = some oo) (hp : oo.proxy = false)
    (hF : FldsD w (M i) (fldsOf L.length (done i)) D) (hx : x.wf) (hu : upd (fldsOf L.length (done i)) x y = fldsOf L.length (done i ++ [b])) (hr : w.ownsRow w0.heap.size 94 1 v L.length xs) (hc : Ch w cb n f) (hcp : w.heap[cp]? = some (.cells cs t (0, 0)))
    (ho : w7.ownsMap Tryz.prog 112 asIs (M i) ((fldsOf L.length (done i)).length + 1) (D.put (keyV x) (.held y.val))) (hg : (((w.alloc A).alloc C).drew).grownBy w7 (some (M i))) (hne : cb < w0.heap.size + 2) :
    Mk w0 w7 ab L (moreN done i b) B M s L.length ∧ w7.ownsRow w0.heap.size 94 1 v L.length xs ∧ Ch w7 cb n f ∧ w7.heap[cp]? = some (.cells cs t (0, 0)) := by
  have hne : M i ≠ cb := by have := (h.maps i oo (by obtain ⟨hh, _⟩ := List.getElem?_eq_some_iff.1 hi; exact hh) hi hp).2; omega
  have hb : Below w.heap.size w (((w.alloc A).alloc C).drew) := below_drew (((Below.refl _ w).alloc (Nat.le_refl _) _).alloc (by simp) _)
  have hF1 : FldsD (((w.alloc A).alloc C).drew) (M i) (fldsOf L.length (done i)) D := hF.kept (hb.block _ hF.own.lt)
  have hF2 := hF1.put hx ho
  rw [hu] at hF2
  obtain ⟨es, clock, hm, _⟩ := hF1.own
  have keep : ∀ (k : Nat) (cs : Array Value) (t : TypeId), w.heap[k]? = some (.cells cs t (0, 0)) → w7.heap[k]? = some (.cells cs t (0, 0)) := fun k cs t hk => by
    have h1 := (hb.block k (lt_of_block hk)).trans hk
    refine (hg.block k (lt_of_block h1) (fun e => ?_)).trans h1
    cases e
    rw [hm] at h1; cases h1
  refine ⟨(h.later hb).fld hi hp ⟨_, hF2⟩ hg, ?_, hc.kept ((hg.block cb (Nat.lt_of_lt_of_le hc.lt hb.size) (fun e => hne (by simpa using e.symm))).trans (hb.block cb hc.lt)), keep _ _ _ hcp⟩
  refine ⟨hr.1, ?_⟩
  rcases hr.2 with h0 | ⟨g, cap, cur, rfl, hb0, hgg, r⟩
  · exact .inl h0
  · exact .inr ⟨g, cap, cur, rfl, hb0, keep _ _ _ hgg, r⟩
/-- Behind a store into the cache. -/
theorem Mk.cached {w0 w w7 : World} {ab cb n m k : Nat} {L : List OO} {done : Nat → List Int} {B M : Nat → Nat} {s : St} {v : Value} {xs : List Value} {f f' : Int → Int → Option Int} (h : Mk w0 w ab L done B M s k) (hr : w.ownsRow w0.heap.size 94 1 v L.length xs) (hc : Ch w cb n f) (hg : w.drew.grownBy w7 (some cb)) (hc7 : Ch w7 cb m f') (hcb : w0.heap.size ≤ cb ∧ cb < w0.heap.size + 2) :
    Mk w0 w7 ab L done B M s k ∧ w7.ownsRow w0.heap.size 94 1 v L.length xs ∧ Ch w7 cb m f' := by
  obtain ⟨es, clock, hm⟩ := hc.block
  have keep : ∀ (k : Nat) (cs : Array Value) (t : TypeId), w.heap[k]? = some (.cells cs t (0, 0)) → w7.heap[k]? = some (.cells cs t (0, 0)) := fun k cs t hk => by
    refine (hg.block k (lt_of_block hk) (fun e => ?_)).trans hk
    cases e
    rw [hm] at hk; cases hk
  have b7 : Below w0.heap.size w0 w7 := (below_drew h.below).grown hg h.below.size (fun j e => by cases e; exact hcb.1)
  refine ⟨⟨h.arn.kept fun j cs t hj ht => (keep j cs t hj).trans hj.symm, h.accs, h.len, h.slot, h.un, h.inj, Nat.le_trans h.big hg.size, fun j oo h1 h2 h3 => ?_, h.injM, b7⟩, ⟨hr.1, ?_⟩, hc7⟩
  · obtain ⟨e1, e2⟩ := h.maps j oo h1 h2 h3
    exact ⟨e1.kept (hg.block _ e1.lt (fun e => by cases e; omega)), e2⟩
  · rcases hr.2 with h0 | ⟨g, cap, cur, rfl, hb0, hgg, r⟩
    · exact .inl h0
    · exact .inr ⟨g, cap, cur, rfl, hb0, keep _ _ _ hgg, r⟩
theorem put_made {w0 w : World} {ab : Nat} {L : List OO} {B M : Nat → Nat} {s : St} {k : Nat} {oo : OO} {mb : Nat} (h : Mk w0 w ab L (fun _ => []) B M s k) (hk : L[k]? = some oo) (hm : oo.proxy = false → Flds w mb []) (hl : L.length ≤ 1000) :
    Calls Tryz.prog 64 #[.pointer (some ⟨ab, 0, none⟩), .agg (obStart oo mb).cells] w fun e w' => e = .returned (.tuple #[.int .u64 (refI k), .int .i64 0]) ∧ (∃ B' M' s', Mk w0 w' ab L (fun _ => []) B' M' s' (k + 1)) ∧ Fr isA w0.heap.size w w' := by
  have hkl : k < L.length := by obtain ⟨hh, _⟩ := List.getElem?_eq_some_iff.1 hk; exact hh
  have how : (obStart oo mb).ow = 0 := by unfold obStart; split <;> rfl
  have hhd : (obStart oo mb).hd = .slice none 0 0 := by unfold obStart; split <;> rfl
  have hlen := h.len
  refine (put_ok h.arn (obStart oo mb) hhd (fun b hb => ?_) h.below.size 0 (by rw [how]; rfl) (p1 := (k : Int)) (p2 := (L.length : Int)) (by rw [h.accs]; rfl) (by omega) (by omega) (by omega) (n := k) (u := 0) (l := s.slots ++ [⟨0, none⟩]) (un := []) (.inl ⟨h.un, h.len.symm, rfl, rfl, rfl⟩) (by omega) (by rw [h.un]; simp) (by omega)).mono ?_
  · unfold obStart at hb
    split at hb
    · simp at hb
    · rename_i hp
      simp at hb
      subst hb
      exact (hm (by simpa using hp)).block
  · rintro e w' ⟨he, r', hc, hA, hF, hs⟩
    refine ⟨?_, h.put hk hm hc hA hF, hF⟩
    rw [he, show ((0 : Nat) : Int) + 1 = 1 from rfl, show (1 : Int) * 4294967296 + (k : Int) = refI k from by unfold refI; omega]
end Go.Proofs.YtpgbfkdknggceaaGreatDoor

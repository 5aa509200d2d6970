/-
 MakeP, MakeM, MakeL, MakeW, MakeN, joined.
 Conditions: as each theorem says.
-/
import Derived.Test.YtenfphbhofibjaaGreatDoorZJReach
import Derived.Test.YtenfphbhofibjaaGreatDoorZAwake
set_option maxRecDepth 100000
set_option maxHeartbeats 4000000
set_option linter.unusedVariables false
namespace Go.Proofs.YtenfphbhofibjaaGreatDoor
open Go.ChangeShapes Go.WideShapes Go.ChangeAt Go.RowKit Go.Maps Go.Sort Go.Lib
structure OO where
 names : List Int
 proxy : Bool
 mem : Int
def refI (i : Nat) : Int := 4294967296 + (i : Int)
def atN (n : Nat) (b : Int) : Nat := (b % (n : Int)).toNat
def tgt (n : Nat) (ns : List Int) : Int := match ns.getLast? with | none => 0 | some b => refI (atN n b)
def fldsOf (n : Nat) (ns : List Int) : List (Vl × Vl) := ns.mapIdx fun k b => (⟨2, (k : Int), ⟨#[]⟩⟩, ⟨5, refI (atN n b), ⟨#[]⟩⟩)
def obOf (oo : OO) (n : Nat) (ns : List Int) (m : Nat) : Ob := if oo.proxy then { k := 6, me := oo.mem % 4, ta := tgt n ns } else { fm := some m }
def obStart (oo : OO) (m : Nat) : Ob := if oo.proxy then { k := 6, me := oo.mem % 4 } else { fm := some m }
theorem tgt_snoc (n : Nat) (ns : List Int) (b : Int) : tgt n (ns ++ [b]) = refI (atN n b) := by simp [tgt]
theorem fldsOf_snoc (n : Nat) (ns : List Int) (b : Int) : fldsOf n (ns ++ [b]) = fldsOf n ns ++ [(⟨2, (ns.length : Int), ⟨#[]⟩⟩, ⟨5, refI (atN n b), ⟨#[]⟩⟩)] := by simp [fldsOf, List.mapIdx_append]
theorem fldsOf_keys (n : Nat) (ns : List Int) : (fldsOf n ns).map Prod.fst = (List.range ns.length).map fun k => ⟨2, (k : Int), ⟨#[]⟩⟩ := by
 apply List.ext_getElem?
 intro i
 by_cases h : i < ns.length
 ·simp [fldsOf, h]
 ·simp [fldsOf, h]
theorem fldsOf_upd (n : Nat) (ns : List Int) (b : Int) : upd (fldsOf n ns) ⟨2, (ns.length : Int), ⟨#[]⟩⟩ ⟨5, refI (atN n b), ⟨#[]⟩⟩ = fldsOf n (ns ++ [b]) := by
 unfold upd
 rw [if_neg, fldsOf_snoc]
 rw [fldsOf_keys]
 simp
 intro x hx
 omega
def OAt (w : World) (b off : Nat) (oo : OO) : Prop :=
 b < w.heap.size ∧ ∃ na cap, w.cell? ⟨b, off, none⟩ = some (.slice na oo.names.length cap) ∧ w.cell? ⟨b, off + 1, none⟩ = some (.bool oo.proxy) ∧ w.cell? ⟨b, off + 2, none⟩ = some (.int .u8 oo.mem) ∧ 0 ≤ oo.mem ∧ oo.mem ≤ 255 ∧ oo.names.length ≤ cap ∧ cap ≤ maxLen ∧
  (∀ x ∈ oo.names, 0 ≤ x ∧ x ≤ 255) ∧ (oo.names ≠ [] → ∃ g o2, na = some ⟨g, o2, none⟩ ∧ g < w.heap.size ∧ ∀ j x, oo.names[j]? = some x → w.cell? ⟨g, o2 + j, none⟩ = some (.int .u8 x))
def ORow (w : World) (v : Value) (L : List OO) : Prop :=
 ∃ b off cap, v = .slice (some ⟨b, off, none⟩) L.length cap ∧ L.length ≤ cap ∧ cap ≤ maxLen ∧ ∀ i oo, L[i]? = some oo → OAt w b (off + i * 3) oo ∧ oo.names.length ≤ 1000
theorem OAt.below {w w' : World} {b off : Nat} {oo : OO} (h : OAt w b off oo) (hb : Below w.heap.size w w') : OAt w' b off oo := by
 obtain ⟨h0, na, cap, h1, h2, h3, h4, h5, h6, h7, h8, h9⟩ := h
 refine ⟨Nat.lt_of_lt_of_le h0 hb.size, na, cap, (hb.cell (p := ⟨b, off, none⟩) h0).trans h1, (hb.cell (p := ⟨b, off + 1, none⟩) h0).trans h2, (hb.cell (p := ⟨b, off + 2, none⟩) h0).trans h3, h4, h5, h6, h7, h8, fun hne => ?_⟩
 obtain ⟨g, o2, e1, e2, e3⟩ := h9 hne
 exact ⟨g, o2, e1, Nat.lt_of_lt_of_le e2 hb.size, fun j x hj => (hb.cell (p := ⟨g, o2 + j, none⟩) e2).trans (e3 j x hj)⟩
structure Mk (w0 w : World) (ab : Nat) (L : List OO) (done : Nat → List Int) (B M : Nat → Nat) (s : St) (k : Nat) : Prop where
 arn : Arn w0.heap.size ab w s
 accs : s.accs = [((k : Int), (L.length : Int))]
 len : s.slots.length = k
 slot : ∀ j oo, j < k → L[j]? = some oo → s.slots[j]? = some ⟨1, some (B j, obOf oo L.length (done j) (M j))⟩
 un : s.unused = []
 inj : ∀ i j, i < k → j < k → B i = B j → i = j
 big : w0.heap.size + 2 ≤ w.heap.size
 maps : ∀ j oo, j < k → L[j]? = some oo → oo.proxy = false → Flds w (M j) (fldsOf L.length (done j)) ∧ w0.heap.size + 2 ≤ M j
 injM : ∀ i j oi oj, i < k → j < k → L[i]? = some oi → L[j]? = some oj → oi.proxy = false → oj.proxy = false → M i = M j → i = j
 below : Below w0.heap.size w0 w
theorem Mk.later {w0 w w' : World} {ab : Nat} {L : List OO} {done : Nat → List Int} {B M : Nat → Nat} {s : St} {k : Nat} (h : Mk w0 w ab L done B M s k) (hb : Below w.heap.size w w') : Mk w0 w' ab L done B M s k :=
 ⟨h.arn.below hb, h.accs, h.len, h.slot, h.un, h.inj, Nat.le_trans h.big hb.size, fun j oo h1 h2 h3 => ⟨(h.maps j oo h1 h2 h3).1.kept (hb.block _ (h.maps j oo h1 h2 h3).1.lt), (h.maps j oo h1 h2 h3).2⟩, h.injM, h.below.trans (hb.mono h.below.size)⟩
theorem Mk.put {w0 w w' : World} {ab : Nat} {L : List OO} {B M : Nat → Nat} {s : St} {k : Nat} {oo : OO} {r' : Option Nat} {mb : Nat} (h : Mk w0 w ab L (fun _ => []) B M s k) (hk : L[k]? = some oo) (hm : oo.proxy = false → Flds w mb [])
 (hc : Cloned w (obStart oo mb).fm w' r') (hA : Arn w0.heap.size ab w' ⟨s.accs.set 0 ((k : Int) + 1, (L.length : Int)), (s.slots ++ [(⟨0, none⟩ : Sl)]).set k ⟨0 + 1, some (w.heap.size, { obStart oo mb with fm := r' })⟩, []⟩) (hF : Fr isA w0.heap.size w w') :
 ∃ B' M' s', Mk w0 w' ab L (fun _ => []) B' M' s' (k + 1) := by
 obtain ⟨m, hm1, hm2, hm3⟩ : ∃ m, (oo.proxy = true → r' = none) ∧ (oo.proxy = false → r' = some m) ∧ (oo.proxy = false → Flds w' m [] ∧ w.heap.size ≤ m) := by
  cases hp : oo.proxy with
  | true =>
   simp only [obStart, hp, if_true] at hc
   rcases hc with ⟨_, rfl⟩ | ⟨b, es, clock, m, h1, _⟩
   ·exact ⟨0, fun _ => rfl, by simp, by simp⟩
   ·simp at h1
  | false =>
   simp only [obStart, hp] at hc
   rcases hc with ⟨h1, _⟩ | ⟨b, es, clock, m, h1, h2, h3, h4, h5⟩
   ·simp at h1
   ·simp at h1
    subst h1
    exact ⟨m, by simp, fun _ => h3, fun _ => ⟨(hm hp).copy h2 h5, h4⟩⟩
 have hlen := h.len
 refine ⟨fun j => if j = k then w.heap.size else B j, fun j => if j = k then m else M j, _, hA, ?_, ?_, fun j o' hj hL => ?_, rfl, fun i j hi hj e => ?_, Nat.le_trans h.big hF.size, fun j o' hj hL hp => ?_, fun i j oi oj hi hj hLi hLj hpi hpj e => ?_, h.below.trans (hF.below h.below.size)⟩
 ·simp [h.accs]
 ·simp [hlen]
 ·by_cases e : j = k
  ·subst e
   rw [hk] at hL
   cases hL
   simp only [if_true]
   rw [List.getElem?_set_self (by simp [hlen])]
   cases hp : oo.proxy with
   | true => rw [hm1 hp]; simp [obOf, obStart, hp, tgt]
   | false => rw [hm2 hp]; simp [obOf, obStart, hp]
  ·simp only [if_neg e]
   rw [List.getElem?_set_ne (by omega), List.getElem?_append_left (by omega)]
   exact h.slot j o' (by omega) hL
 ·have old : ∀ i, i < k → B i < w.heap.size := fun i hi => by
   obtain ⟨o', ho'⟩ : ∃ o', L[i]? = some o' := ⟨_, List.getElem?_eq_getElem (by have := (List.getElem?_eq_some_iff.1 hk).1; omega)⟩
   exact lt_of_block (h.arn.objs i _ _ _ (h.slot i o' hi ho') rfl).2
  by_cases e1 : i = k <;> by_cases e2 : j = k <;> simp only [e1, e2, if_true, if_false] at e
  ·omega
  ·have := old j (by omega); omega
  ·have := old i (by omega); omega
  ·exact h.inj i j (by omega) (by omega) e
 ·by_cases e : j = k
  ·subst e
   rw [hk] at hL
   cases hL
   simp only [if_true]
   exact ⟨by simpa [fldsOf] using (hm3 hp).1, by have := (hm3 hp).2; have := h.big; omega⟩
  ·simp only [if_neg e]
   obtain ⟨h1, h2⟩ := h.maps j o' (by omega) hL hp
   obtain ⟨es, clock, hb⟩ := h1.block
   exact ⟨h1.kept ((hF.map hb).trans hb.symm), h2⟩
 ·have old : ∀ i oi, i < k → L[i]? = some oi → oi.proxy = false → M i < w.heap.size := fun i oi hi hL hp => (h.maps i oi hi hL hp).1.lt
  by_cases e1 : i = k <;> by_cases e2 : j = k <;> simp only [e1, e2, if_true, if_false] at e
  ·omega
  ·subst e1; rw [hk] at hLi; cases hLi; have := old j oj (by omega) hLj hpj; have := (hm3 hpi).2; omega
  ·subst e2; rw [hk] at hLj; cases hLj; have := old i oi (by omega) hLi hpi; have := (hm3 hpj).2; omega
  ·exact h.injM i j oi oj (by omega) (by omega) hLi hLj hpi hpj e
end Go.Proofs.YtenfphbhofibjaaGreatDoor
namespace Go.Proofs.YtenfphbhofibjaaGreatDoor
open Go.ChangeShapes Go.WideShapes Go.ChangeAt Go.RowKit Go.Maps Go.Sort Go.Lib
theorem slotCells_same {l : List Sl} {n u b : Nat} {o o' : Ob} (h : l[n]? = some ⟨u, some (b, o)⟩) : slotCells (l.set n ⟨u, some (b, o')⟩) = slotCells l := by
 induction l generalizing n with
 | nil => simp at h
 | cons q l ih =>
  cases n with
  | zero => simp at h; subst h; simp [slotCells, ptrOf]
  | succ n => simp only [List.set_cons_succ, slotCells]; rw [ih (by simpa using h)]
theorem Arn.mark {base ab n u b j : Nat} {w : World} {s : St} {o o' : Ob} {v : Value} (h : Arn base ab w s) (hd : ∀ (i : Nat) (sl : Sl) (b' : Nat) (q : Ob), i ≠ n → s.slots[i]? = some sl → sl.obj = some (b', q) → b' ≠ b) (hb : s.slots[n]? = some ⟨u, some (b, o)⟩) (ho : o.cells.setIfInBounds j v = o'.cells) :
 Arn base ab (w.setCell ⟨b, j, none⟩ v) ⟨s.accs, s.slots.set n ⟨u, some (b, o')⟩, s.unused⟩ ∧ Fr (only 178) base w (w.setCell ⟨b, j, none⟩ v) := by
 have hbb := h.objs n _ b o hb rfl
 have F : Fr (only 178) base w (w.setCell ⟨b, j, none⟩ v) := (Fr.refl _ _ _).setCell ⟨hbb.1, _, _, _, hbb.2, rfl⟩ _
 have hn : n < s.slots.length := by obtain ⟨hh, _⟩ := List.getElem?_eq_some_iff.1 hb; exact hh
 obtain ⟨vo, vs, vu, h0, h1, h2, h3⟩ := h.rows
 refine ⟨⟨h.hb, ⟨vo, vs, vu, F.block h0 rfl, F.row h1 rfl, ?_, F.row h3 rfl⟩, fun i sl b' q e1 e2 => ?_⟩, F⟩
 ·simp only [List.length_set, slotCells_same hb]
  exact F.row h2 rfl
 ·by_cases e : i = n
  ·subst e
   simp only at e1
   rw [List.getElem?_set_self hn] at e1
   simp at e1
   subst e1
   simp at e2
   obtain ⟨rfl, rfl⟩ := e2
   refine ⟨hbb.1, ?_⟩
   rw [← ho]
   exact heap_setCell_same _ _ _ _ _ _ hbb.2
  ·simp only at e1
   rw [List.getElem?_set_ne (fun x => e x.symm)] at e1
   have := h.objs i sl b' q e1 e2
   exact ⟨this.1, block_set this.2 (hd i sl b' q e e1 e2) _⟩
def moreN (done : Nat → List Int) (i : Nat) (b : Int) (j : Nat) : List Int := if j = i then done i ++ [b] else done j
section
variable {w0 w w' : World} {ab : Nat} {L : List OO} {done : Nat → List Int} {B M : Nat → Nat} {s : St} {i : Nat} {oo : OO} {b : Int}
theorem Mk.tgt (h : Mk w0 w ab L done B M s L.length) (hi : L[i]? = some oo) (hp : oo.proxy = true) :
 (∃ s', Mk w0 (w.setCell ⟨B i, 12, none⟩ (.int .u64 (refI (atN L.length b)))) ab L (moreN done i b) B M s' L.length) ∧ Fr (only 178) w0.heap.size w (w.setCell ⟨B i, 12, none⟩ (.int .u64 (refI (atN L.length b)))) := by
 have hil : i < L.length := by obtain ⟨hh, _⟩ := List.getElem?_eq_some_iff.1 hi; exact hh
 have hs := h.slot i oo hil hi
 have hcells : (obOf oo L.length (done i) (M i)).cells.setIfInBounds 12 (.int .u64 (refI (atN L.length b))) = (obOf oo L.length (done i ++ [b]) (M i)).cells := by
  simp [obOf, hp, Ob.cells, tgt_snoc]
 obtain ⟨A, F⟩ := h.arn.mark (fun j sl b' q hj e1 e2 e => by
  have hjl : j < L.length := by obtain ⟨hh, _⟩ := List.getElem?_eq_some_iff.1 e1; rw [h.len] at hh; exact hh
  obtain ⟨oj, hoj⟩ : ∃ oj, L[j]? = some oj := ⟨_, List.getElem?_eq_getElem hjl⟩
  rw [h.slot j oj hjl hoj] at e1
  simp at e1
  subst e1
  simp at e2
  rw [← e2.1] at e
  exact hj (h.inj j i hjl hil e)) hs hcells
 refine ⟨⟨_, A, h.accs, by simp [h.len], fun j oj hj hL => ?_, h.un, h.inj, Nat.le_trans h.big F.size, fun j oj hj hL hpj => ?_, h.injM, h.below.trans (F.below h.below.size)⟩, F⟩
 ·by_cases e : j = i
  ·subst e
   rw [hi] at hL
   cases hL
   rw [List.getElem?_set_self (by rw [h.len]; exact hil)]
   simp [moreN]
  ·rw [List.getElem?_set_ne (fun x => e x.symm), h.slot j oj hj hL]
   simp [moreN, e]
 ·have e : j ≠ i := by rintro rfl; rw [hi] at hL; cases hL; rw [hp] at hpj; cases hpj
  obtain ⟨h1, h2⟩ := h.maps j oj hj hL hpj
  obtain ⟨es, clock, hb⟩ := h1.block
  rw [show moreN done i b j = done j from by simp [moreN, e]]
  exact ⟨h1.kept ((F.map hb).trans hb.symm), h2⟩
theorem Mk.fld (h : Mk w0 w ab L done B M s L.length) (hi : L[i]? = some oo) (hp : oo.proxy = false) (hF : Flds w' (M i) (fldsOf L.length (done i ++ [b]))) (hg : w.grownBy w' (some (M i))) : Mk w0 w' ab L (moreN done i b) B M s L.length := by
 have hil : i < L.length := by obtain ⟨hh, _⟩ := List.getElem?_eq_some_iff.1 hi; exact hh
 obtain ⟨m1, m2⟩ := h.maps i oo hil hi hp
 obtain ⟨es, clock, hb⟩ := m1.block
 refine ⟨h.arn.kept fun k cs t hk ht => hg.block k (lt_of_block hk) (fun e => ?_), h.accs, h.len, fun j oj hj hL => ?_, h.un, h.inj, Nat.le_trans h.big hg.size, fun j oj hj hL hpj => ?_, h.injM, h.below.grown hg h.below.size (fun k e => by cases e; omega)⟩
 ·cases e
  rw [hb] at hk; cases hk
 ·rw [h.slot j oj hj hL]
  by_cases e : j = i
  ·subst e
   rw [hi] at hL
   cases hL
   simp [obOf, hp]
  ·simp [moreN, e]
 ·by_cases e : j = i
  ·subst e
   simp only [moreN, if_true]
   exact ⟨hF, m2⟩
  ·obtain ⟨h1, h2⟩ := h.maps j oj hj hL hpj
   rw [show moreN done i b j = done j from by simp [moreN, e]]
   exact ⟨h1.kept (hg.block _ h1.lt (fun x => e (h.injM j i oj oo hj hil hL hi hpj hp (by simpa using x)))), h2⟩
end
end Go.Proofs.YtenfphbhofibjaaGreatDoor
namespace Go.Proofs.YtenfphbhofibjaaGreatDoor
open Go.ChangeShapes Go.WideShapes Go.ChangeAt Go.RowKit Go.Maps Go.Sort Go.Lib
def kE (m t : Int) : Lit := .string (keyBytes [.int .i64 m, .int .u64 t])
def Ew (m t : Int) : Prop := 0 ≤ m ∧ m ≤ 3 ∧ 0 ≤ t ∧ t ≤ 18446744073709551615
structure ChD (w : World) (c n : Nat) (f : Int → Int → Option Int) (D : DataW Unit) : Prop where
 own : w.ownsMap Tryz.prog 185 (plainElem Tryz.prog 157) c n D
 rng : ∀ m t p, f m t = some p → Ew m t ∧ 0 ≤ p ∧ p ≤ 18446744073709551615
 hit : ∀ m t p, f m t = some p → Maps.has D (kE m t) = true ∧ ∀ z, D.atKey (kE m t) z = .lit (.int .u64 p)
 all : ∀ kl, Maps.has D kl = true → ∃ m t p, kl = kE m t ∧ f m t = some p
def Ch (w : World) (c n : Nat) (f : Int → Int → Option Int) : Prop := ∃ D, ChD w c n f D
def upF (f : Int → Int → Option Int) (m t p : Int) : Int → Int → Option Int := fun m' t' => if m' = m ∧ t' = t then some p else f m' t'
def cacheF (L : List OO) : Nat → Int → Int → Option Int
 | 0 => fun _ _ => none
 | i + 1 => match L[i]? with
  | some oo => if oo.proxy then upF (cacheF L i) (oo.mem % 4) (tgt L.length oo.names) (refI i) else cacheF L i
  | none => cacheF L i
theorem cacheF_plain {L : List OO} {i : Nat} {oo : OO} (h : L[i]? = some oo) (hp : oo.proxy = false) : cacheF L (i + 1) = cacheF L i := by
 simp [cacheF, h, hp]
theorem cacheF_proxy {L : List OO} {i : Nat} {oo : OO} (h : L[i]? = some oo) (hp : oo.proxy = true) : cacheF L (i + 1) = upF (cacheF L i) (oo.mem % 4) (tgt L.length oo.names) (refI i) := by
 simp [cacheF, h, hp]
theorem ChD.kept {w w' : World} {c n : Nat} {f : Int → Int → Option Int} {D : DataW Unit} (h : ChD w c n f D) (hk : w'.heap[c]? = w.heap[c]?) : ChD w' c n f D := by
 refine ⟨?_, h.rng, h.hit, h.all⟩
 obtain ⟨es, clock, hb, r⟩ := h.own
 exact ⟨es, clock, hk.trans hb, r⟩
theorem Ch.kept {w w' : World} {c n : Nat} {f : Int → Int → Option Int} (h : Ch w c n f) (hk : w'.heap[c]? = w.heap[c]?) : Ch w' c n f := by
 obtain ⟨D, h⟩ := h
 exact ⟨D, h.kept hk⟩
theorem Ch.lt {w : World} {c n : Nat} {f : Int → Int → Option Int} (h : Ch w c n f) : c < w.heap.size := by
 obtain ⟨D, h⟩ := h
 exact h.own.lt
theorem Ch.block {w : World} {c n : Nat} {f : Int → Int → Option Int} (h : Ch w c n f) : ∃ es clock, w.heap[c]? = some (.map es clock) := by
 obtain ⟨D, h⟩ := h
 obtain ⟨es, clock, hb, r⟩ := h.own
 exact ⟨es, clock, hb⟩
def refsTo (k : Nat) : List Int := (List.range k).map refI
theorem refsTo_succ (k : Nat) : refsTo (k + 1) = refsTo k ++ [refI k] := by simp [refsTo, List.range_succ]
theorem refsTo_get {k i : Nat} (h : i < k) : (refsTo k)[i]? = some (refI i) := by simp [refsTo, h]
theorem Mk.start (w0 w : World) (ab : Nat) (L : List OO) (h : Arn w0.heap.size ab w ⟨[(0, (L.length : Int))], [], []⟩) (hb : Below w0.heap.size w0 w) (hs : w0.heap.size + 2 ≤ w.heap.size) (B M : Nat → Nat) : Mk w0 w ab L (fun _ => []) B M ⟨[(0, (L.length : Int))], [], []⟩ 0 :=
 ⟨h, rfl, rfl, fun j oo hj => by omega, rfl, fun i j hi => by omega, hs, fun j oo hj => by omega, fun i j oi oj hi => by omega, hb⟩
theorem Mk.sides {base cb k n : Nat} {w w1 w' : World} {v : Value} {xs : List Value} {f : Int → Int → Option Int} (hr : w.ownsRow base 157 1 v k xs) (hc : Ch w cb n f) (hb : Below w.heap.size w w1) (hF : Fr isA base w1 w') (hbs : base ≤ w.heap.size) :
 w'.ownsRow base 157 1 v k xs ∧ Ch w' cb n f ∧ base ≤ w'.heap.size := by
 have hr1 := row_kept hr (fun k hk => hb.block k hk)
 have hc1 := hc.kept (hb.block cb hc.lt)
 obtain ⟨es, clock, hm⟩ := hc1.block
 exact ⟨hF.row hr1 rfl, hc1.kept ((hF.map hm).trans hm.symm), Nat.le_trans hbs (Nat.le_trans hb.size hF.size)⟩
theorem Mk.app {w0 w w' : World} {ab cb m k n : Nat} {L : List OO} {done : Nat → List Int} {B M : Nat → Nat} {s : St} {v : Value} {xs : List Value} {o : Obj} {f : Int → Int → Option Int} (h : Mk w0 w ab L done B M s k) (hc : Ch w cb n f) (hr : w.ownsRow w0.heap.size 157 1 v m xs) (hg : (w.alloc o).grownBy w' v.ownBlock) :
 Mk w0 w' ab L done B M s k ∧ Ch w' cb n f := by
 have F : Fr (only 157) w0.heap.size w w' := ((Fr.refl _ _ _).alloc o).grown hg (fun j e => by
  obtain ⟨h1, cs, t, fz, h2, h3⟩ := mine_row (T := only 157) (hr.alloc o) rfl j e
  exact ⟨h1, cs, t, fz, h2, h3⟩)
 obtain ⟨es, clock, hm⟩ := hc.block
 refine ⟨⟨h.arn.fr F (by intro t ht; simp [isA] at ht; simp [only]; omega), h.accs, h.len, h.slot, h.un, h.inj, Nat.le_trans h.big F.size, fun j oo h1 h2 h3 => ?_, h.injM, h.below.trans (F.below h.below.size)⟩, hc.kept ((F.map hm).trans hm.symm)⟩
 obtain ⟨e1, e2⟩ := h.maps j oo h1 h2 h3
 obtain ⟨es, clock, hb⟩ := e1.block
 exact ⟨e1.kept ((F.map hb).trans hb.symm), e2⟩
theorem lawE : Go.WideMaps.KeyLaw Tryz.prog 185 := deep_law_laid laidOut (m := 3) (by omega) (of_decide_eq_true (by kernel_rfl)) (by kernel_rfl) (by kernel_rfl)
theorem keyedE : Keyed Tryz.prog 185 := Keyed.of_law lawE
theorem key2 {P : Program} {k a b : TypeId} {n0 n1 g0 g1 p0 p1 : String} {e0 e1 : Bool} {y0 y1 : Nat} {q0 q1 : IntKind} (x y : Int)
 (hu : P.underlying k = some (.struct #[⟨n0, a, 0, e0, g0, p0, y0⟩, ⟨n1, b, 1, e1, g1, p1, y1⟩])) (hk : P.keyType k = true) (hck : P.cellsOf k = 2) (ha : P.cellsOf a = 1) (hb : P.cellsOf b = 1)
 (ua : P.underlying a = some (.int q0)) (ub : P.underlying b = some (.int q1)) (m0 : n0 ≠ "_") (m1 : n1 ≠ "_") (hs : 20 < P.types.size)
 (wx : (Lit.int q0 x).wf = true) (wy : (Lit.int q1 y).wf = true) :
 keyOf P k (.agg #[.int q0 x, .int q1 y]) = some (.string (keyBytes [.int q0 x, .int q1 y])) := by
 obtain ⟨d, hd⟩ := two_of hs
 simp [keyOf, hu, hk, Value.formed, hck, Program.keyLits, Value.cells, ha, hb, hd, ua, ub, wx, wy, m0, m1]
theorem keyE (x y : Int) (hx0 : 0 ≤ x) (hx1 : x ≤ 255) (hy0 : 0 ≤ y) (hy1 : y ≤ 18446744073709551615) : keyOf Tryz.prog 185 (.agg #[.int .i64 x, .int .u64 y]) = some (.string (keyBytes [.int .i64 x, .int .u64 y])) :=
 key2 x y Tryz.underlying185 (by kernel_rfl) (by kernel_rfl) (by kernel_rfl) (by kernel_rfl) Tryz.underlying3 Tryz.underlying157 (by decide) (by decide) (of_decide_eq_true (by kernel_rfl)) (WalkArith.wf_i64 (by omega)) (WalkArith.wf_u64 ⟨hy0, hy1⟩)
theorem kE_inj {m t m' t' : Int} (h : Ew m t) (h' : Ew m' t') (e : kE m t = kE m' t') : m = m' ∧ t = t' := by
 have a := keyE m t h.1 (by have := h.2.1; omega) h.2.2.1 h.2.2.2
 have b := keyE m' t' h'.1 (by have := h'.2.1; omega) h'.2.2.1 h'.2.2.2
 have b' : keyOf Tryz.prog 185 (.agg #[.int .i64 m', .int .u64 t']) = some (kE m t) := by rw [e]; exact b
 have := lawE.inj a b'
 simpa using this
theorem ChD.put {w w' : World} {c n n' : Nat} {f : Int → Int → Option Int} {D : DataW Unit} {m t p : Int} (h : ChD w c n f D) (hw : Ew m t) (hp : 0 ≤ p ∧ p ≤ 18446744073709551615) (ho : w'.ownsMap Tryz.prog 185 (plainElem Tryz.prog 157) c n' (D.put (kE m t) (.lit (.int .u64 p)))) : ChD w' c n' (upF f m t p) (D.put (kE m t) (.lit (.int .u64 p))) := by
 have hk : WideAt.IsKeyLit (kE m t) := by simp [kE, WideAt.IsKeyLit]
 refine ⟨ho, fun m' t' p' h1 => ?_, fun m' t' p' h1 => ?_, fun kl h1 => ?_⟩
 ·unfold upF at h1
  split at h1
  ·rename_i e; cases h1; rw [e.1, e.2]; exact ⟨hw, hp⟩
  ·exact h.rng _ _ _ h1
 ·unfold upF at h1
  split at h1
  ·rename_i e
   cases h1
   rw [e.1, e.2]
   exact ⟨has_put_same h.own.isMap hk _, fun z => atKey_put_same h.own.isMap hk _ z⟩
  ·rename_i e
   have hne : kE m' t' ≠ kE m t := fun e2 => e (kE_inj (h.rng _ _ _ h1).1 hw e2)
   obtain ⟨x, y⟩ := h.hit _ _ _ h1
   exact ⟨by rw [has_put_other hne]; exact x, fun z => by rw [atKey_put_other hne]; exact y z⟩
 ·by_cases e : kl = kE m t
  ·exact ⟨m, t, p, e, by simp [upF]⟩
  ·rw [has_put_other e] at h1
   obtain ⟨m', t', p', e2, h2⟩ := h.all kl h1
   refine ⟨m', t', p', e2, ?_⟩
   unfold upF
   rw [if_neg (fun e3 => e (by rw [e2, e3.1, e3.2]))]
   exact h2
theorem atN_nat (n t : Nat) : atN n (t : Int) = t % n := by unfold atN; rw [← Int.natCast_emod]; exact Int.toNat_natCast _
theorem look_refI {s : St} {i : Nat} {p : Nat × Ob} (h : s.slots[i]? = some ⟨1, some p⟩) (hi : i ≤ 1000) : look s.slots (refI i) = some p := by
 have e1 : (refI i % 4294967296).toNat = i := by unfold refI; omega
 have e2 : refI i / 4294967296 = 1 := by unfold refI; omega
 rw [look, e1, e2, h]; simp
theorem refI_range (i : Nat) (hi : i ≤ 1000) : 0 ≤ refI i ∧ refI i ≤ 18446744073709551615 := by unfold refI; omega
theorem object_refI (i : Nat) (hi : i ≤ 1000) (w : World) : Calls Tryz.prog 123 #[.int .u64 (refI i)] w fun e w' => e = .returned (.agg #[.int .u8 5, .int .i64 (refI i), .string { data := #[] }]) ∧ w' = w.alloc (.cells #[.int .u8 5, .int .i64 (refI i), .string { data := #[] }] 176) := by
 have := object_any (refI i) w
 rwa [show wrap64 (refI i) = refI i from by unfold wrap64 refI; omega] at this
theorem tgt_range (n : Nat) (ns : List Int) (hn : 0 < n) (hl : n ≤ 1000) : 0 ≤ tgt n ns ∧ tgt n ns ≤ 18446744073709551615 := by
 unfold tgt
 split
 ·omega
 ·rename_i b _
  refine refI_range _ ?_
  unfold atN
  have := Int.emod_lt_of_pos b (show (0 : Int) < n from by omega)
  have := Int.emod_nonneg b (show (n : Int) ≠ 0 from by omega)
  omega
theorem ob_three {w : World} {b : Nat} {o : Ob} (h : w.heap[b]? = some (.cells o.cells 178 (0, 0))) : w.cell? ⟨b, 3, none⟩ = some (.map o.fm) ∧ w.cell? ⟨b, 12, none⟩ = some (.int .u64 o.ta) ∧ (∀ j, w.frozen? ⟨b, j, none⟩ = false) := by
 refine ⟨?_, ?_, fun j => frozen_of_row _ _ _ _ _ h⟩ <;> (rw [cell_of_row _ _ _ _ _ _ h]; rfl)
def doneAt (L : List OO) (i k : Nat) (done : Nat → List Int) : Prop := ∀ j oo, L[j]? = some oo → done j = if j < i then oo.names else if j = i then oo.names.take k else []
theorem doneAt_more {L : List OO} {i k : Nat} {done : Nat → List Int} {oo : OO} {b : Int} (h : doneAt L i k done) (hi : L[i]? = some oo) (hb : oo.names[k]? = some b) : doneAt L i (k + 1) (moreN done i b) := by
 intro j oj hj
 unfold moreN
 by_cases e : j = i
 ·subst e
  rw [hi] at hj
  cases hj
  rw [if_pos rfl, h j oo hi, if_neg (by omega), if_pos rfl, if_neg (by omega), if_pos rfl, List.take_add_one, hb]
  rfl
 ·rw [if_neg e, h j oj hj]
  simp [e]
theorem doneAt_next {L : List OO} {i k : Nat} {done : Nat → List Int} {oo : OO} (h : doneAt L i k done) (hi : L[i]? = some oo) (hk : oo.names.length ≤ k) : doneAt L (i + 1) 0 done := by
 intro j oj hj
 rw [h j oj hj]
 by_cases e : j = i
 ·subst e
  rw [hi] at hj
  cases hj
  rw [if_neg (by omega), if_pos rfl, if_pos (by omega), List.take_of_length_le hk]
 ·by_cases e2 : j < i
  ·rw [if_pos e2, if_pos (by omega)]
  ·rw [if_neg e2, if_neg e, if_neg (by omega)]
   split <;> simp
def px (L : List OO) (i : Nat) : Nat := (L.take i).countP fun oo => oo.proxy
theorem px_succ {L : List OO} {i : Nat} {oo : OO} (h : L[i]? = some oo) : px L (i + 1) = px L i + if oo.proxy then 1 else 0 := by
 unfold px
 rw [List.take_add_one, h]
 cases hp : oo.proxy <;> simp [hp]
theorem px_le (L : List OO) (i : Nat) : px L i ≤ i := by
 unfold px
 have := List.countP_le_length (p := fun oo : OO => oo.proxy) (l := L.take i)
 have h2 : (L.take i).length ≤ i := by simp; omega
 omega
theorem entersNumber (args : Array Value) (w : World) : (callFunc 124 args).run Tryz.prog w = .ok (.enter 124 args) w := by kernel_rfl
theorem entersObject (args : Array Value) (w : World) : (callFunc 123 args).run Tryz.prog w = .ok (.enter 123 args) w := by kernel_rfl
theorem keyW (k : Nat) (hk : k ≤ 1000000) : Vl.wf ⟨2, (k : Int), ⟨#[]⟩⟩ := by
 refine ⟨rfl, ?_, ?_⟩
 ·show (Lit.int .i64 (k : Int)).wf = true
  exact WalkArith.wf_i64 (by omega)
 ·show (⟨#[]⟩ : ByteArray).size ≤ maxLen
  exact Nat.zero_le _
theorem Mk.fldAll {w0 w w7 : World} {ab cb cp i n : Nat} {L : List OO} {done : Nat → List Int} {B M : Nat → Nat} {s : St} {oo : OO} {b : Int} {A C : Obj} {x y : Vl} {D : DataW Value} {v : Value} {xs : List Value} {cs : Array Value} {t : TypeId} {f : Int → Int → Option Int} (h : Mk w0 w ab L done B M s L.length) (hi : L[i]? = some oo) (hp : oo.proxy = false)
 (hF : FldsD w (M i) (fldsOf L.length (done i)) D) (hx : x.wf) (hu : upd (fldsOf L.length (done i)) x y = fldsOf L.length (done i ++ [b])) (hr : w.ownsRow w0.heap.size 157 1 v L.length xs) (hc : Ch w cb n f) (hcp : w.heap[cp]? = some (.cells cs t (0, 0)))
 (ho : w7.ownsMap Tryz.prog 176 asIs (M i) ((fldsOf L.length (done i)).length + 1) (D.put (keyV x) (.held y.val))) (hg : (((w.alloc A).alloc C).drew).grownBy w7 (some (M i))) (hne : cb < w0.heap.size + 2) :
 Mk w0 w7 ab L (moreN done i b) B M s L.length ∧ w7.ownsRow w0.heap.size 157 1 v L.length xs ∧ Ch w7 cb n f ∧ w7.heap[cp]? = some (.cells cs t (0, 0)) := by
 have hne : M i ≠ cb := by have := (h.maps i oo (by obtain ⟨hh, _⟩ := List.getElem?_eq_some_iff.1 hi; exact hh) hi hp).2; omega
 have hb : Below w.heap.size w (((w.alloc A).alloc C).drew) := below_drew (((Below.refl _ w).alloc (Nat.le_refl _) _).alloc (by simp) _)
 have hF1 : FldsD (((w.alloc A).alloc C).drew) (M i) (fldsOf L.length (done i)) D := hF.kept (hb.block _ hF.own.lt)
 have hF2 := hF1.put hx ho
 rw [hu] at hF2
 obtain ⟨es, clock, hm, _⟩ := hF1.own
 have keep : ∀ (k : Nat) (cs : Array Value) (t : TypeId), w.heap[k]? = some (.cells cs t (0, 0)) → w7.heap[k]? = some (.cells cs t (0, 0)) := fun k cs t hk => by
  have h1 := (hb.block k (lt_of_block hk)).trans hk
  refine (hg.block k (lt_of_block h1) (fun e => ?_)).trans h1
  cases e
  rw [hm] at h1; cases h1
 refine ⟨(h.later hb).fld hi hp ⟨_, hF2⟩ hg, ?_, hc.kept ((hg.block cb (Nat.lt_of_lt_of_le hc.lt hb.size) (fun e => hne (by simpa using e.symm))).trans (hb.block cb hc.lt)), keep _ _ _ hcp⟩
 refine ⟨hr.1, ?_⟩
 rcases hr.2 with h0 | ⟨g, cap, cur, rfl, hb0, hgg, r⟩
 ·exact .inl h0
 ·exact .inr ⟨g, cap, cur, rfl, hb0, keep _ _ _ hgg, r⟩
theorem Mk.cached {w0 w w7 : World} {ab cb n m k : Nat} {L : List OO} {done : Nat → List Int} {B M : Nat → Nat} {s : St} {v : Value} {xs : List Value} {f f' : Int → Int → Option Int} (h : Mk w0 w ab L done B M s k) (hr : w.ownsRow w0.heap.size 157 1 v L.length xs) (hc : Ch w cb n f) (hg : w.drew.grownBy w7 (some cb)) (hc7 : Ch w7 cb m f') (hcb : w0.heap.size ≤ cb ∧ cb < w0.heap.size + 2) :
 Mk w0 w7 ab L done B M s k ∧ w7.ownsRow w0.heap.size 157 1 v L.length xs ∧ Ch w7 cb m f' := by
 obtain ⟨es, clock, hm⟩ := hc.block
 have keep : ∀ (k : Nat) (cs : Array Value) (t : TypeId), w.heap[k]? = some (.cells cs t (0, 0)) → w7.heap[k]? = some (.cells cs t (0, 0)) := fun k cs t hk => by
  refine (hg.block k (lt_of_block hk) (fun e => ?_)).trans hk
  cases e
  rw [hm] at hk; cases hk
 have b7 : Below w0.heap.size w0 w7 := (below_drew h.below).grown hg h.below.size (fun j e => by cases e; exact hcb.1)
 refine ⟨⟨h.arn.kept fun j cs t hj ht => (keep j cs t hj).trans hj.symm, h.accs, h.len, h.slot, h.un, h.inj, Nat.le_trans h.big hg.size, fun j oo h1 h2 h3 => ?_, h.injM, b7⟩, ⟨hr.1, ?_⟩, hc7⟩
 ·obtain ⟨e1, e2⟩ := h.maps j oo h1 h2 h3
  exact ⟨e1.kept (hg.block _ e1.lt (fun e => by cases e; omega)), e2⟩
 ·rcases hr.2 with h0 | ⟨g, cap, cur, rfl, hb0, hgg, r⟩
  ·exact .inl h0
  ·exact .inr ⟨g, cap, cur, rfl, hb0, keep _ _ _ hgg, r⟩
theorem put_made {w0 w : World} {ab : Nat} {L : List OO} {B M : Nat → Nat} {s : St} {k : Nat} {oo : OO} {mb : Nat} (h : Mk w0 w ab L (fun _ => []) B M s k) (hk : L[k]? = some oo) (hm : oo.proxy = false → Flds w mb []) (hl : L.length ≤ 1000) :
 Calls Tryz.prog 120 #[.pointer (some ⟨ab, 0, none⟩), .agg (obStart oo mb).cells] w fun e w' => e = .returned (.tuple #[.int .u64 (refI k), .int .i64 0]) ∧ (∃ B' M' s', Mk w0 w' ab L (fun _ => []) B' M' s' (k + 1)) ∧ Fr isA w0.heap.size w w' := by
 have hkl : k < L.length := by obtain ⟨hh, _⟩ := List.getElem?_eq_some_iff.1 hk; exact hh
 have how : (obStart oo mb).ow = 0 := by unfold obStart; split <;> rfl
 have hhd : (obStart oo mb).hd = .slice none 0 0 := by unfold obStart; split <;> rfl
 have hlen := h.len
 refine (put_ok h.arn (obStart oo mb) hhd (fun b hb => ?_) h.below.size 0 (by rw [how]; rfl) (p1 := (k : Int)) (p2 := (L.length : Int)) (by rw [h.accs]; rfl) (by omega) (by omega) (by omega) (n := k) (u := 0) (l := s.slots ++ [⟨0, none⟩]) (un := []) (.inl ⟨h.un, h.len.symm, rfl, rfl, rfl⟩) (by omega) (by rw [h.un]; simp) (by omega)).mono ?_
 ·unfold obStart at hb
  split at hb
  ·simp at hb
  ·rename_i hp
   simp at hb
   subst hb
   exact (hm (by simpa using hp)).block
 ·rintro e w' ⟨he, r', hc, hA, hF, hs⟩
  refine ⟨?_, h.put hk hm hc hA hF, hF⟩
  rw [he, show ((0 : Nat) : Int) + 1 = 1 from rfl, show (1 : Int) * 4294967296 + (k : Int) = refI k from by unfold refI; omega]
end Go.Proofs.YtenfphbhofibjaaGreatDoor
namespace Go.Proofs.YtenfphbhofibjaaGreatDoor
open Go.ChangeShapes Go.WideShapes Go.ChangeAt Go.RowKit Go.Maps Go.Sort Go.Lib
theorem mkArena {w0 : World} {v : Value} {L : List OO} (hL : ORow w0 v L) (hl : L.length ≤ 1000) (h0 : 0 < L.length) :
 Calls Tryz.prog 94 #[v] w0 fun e w' => ∃ rv B M s, e = .returned (.tuple #[.pointer (some ⟨w0.heap.size, 0, none⟩), rv, .map (some (w0.heap.size + 1))]) ∧ (∃ done, (∀ j oo, L[j]? = some oo → done j = oo.names) ∧ Mk w0 w' w0.heap.size L done B M s L.length) ∧ w'.ownsRow w0.heap.size 157 1 rv L.length (refRow (refsTo L.length)) ∧ Ch w' (w0.heap.size + 1) (L.countP fun oo => oo.proxy) (cacheF L L.length) := by
 have hmm := @run_makeMap Tryz.prog
 obtain ⟨b, off, cap, rfl, hc1, hc2, hat⟩ := hL
 unfold maxLen at hc2
 have HAT : Hid (∀ (w : World), Below w0.heap.size w0 w → ∀ i oo, L[i]? = some oo → OAt w b (off + i * 3) oo ∧ oo.names.length ≤ 1000) := fun w hb i oo hi => ⟨(hat i oo hi).1.below hb, (hat i oo hi).2⟩
 clear hat
 go_enter Tryz.func94, Tryz.ntmps94
 go_wp2_with fail
 refine (new_any _).mono ?_
 rintro e w1 ⟨rfl, hw1⟩
 have A1 : Arn w0.heap.size w0.heap.size w1 ⟨[], [], []⟩ := by rw [hw1]; exact Arn.made w0 (Nat.le_refl _)
 have b1 : Below w0.heap.size w0 w1 := by rw [hw1]; exact (Below.refl _ _).alloc (Nat.le_refl _) _
 have s1 : w1.heap.size = w0.heap.size + 1 := by rw [hw1]; simp
 clear hw1
 go_wp2_with fail
 refine (owner_any (A1.alloc _) _ (by simp)).mono ?_
 rintro e w2 ⟨rfl, A2, F2⟩
 simp only [List.length_nil]
 have c2 : Ch w2 (w0.heap.size + 1) 0 (cacheF L 0) := by
  have hb := heap_alloc_new w1 (.map #[] 0)
  rw [s1] at hb
  have h2 : Ch (w1.alloc (.map #[] 0)) (w0.heap.size + 1) 0 (cacheF L 0) := by rw [← s1]; exact ⟨.map [], World.ownsMap_made _ _ _ _, fun m t p h => (by cases h), fun m t p h => (by cases h), fun kl h => (by cases h)⟩
  exact h2.kept ((F2.map hb).trans hb.symm)
 have b2 : Below w0.heap.size w0 w2 := (b1.alloc b1.size _).trans (F2.below (by have := b1.size; simp; omega))
 have M2 := Mk.start w0 w2 w0.heap.size L (by simpa using A2) b2 (by have := F2.size; simp at this; omega) (fun _ => 0) (fun _ => 0)
 clear A1 A2 F2 b1 b2 s1
 obtain ⟨cb, hcb⟩ : ∃ cb, w0.heap.size + 1 = cb := ⟨_, rfl⟩
 rw [hcb] at c2 ⊢
 have HCB : Hid (w0.heap.size + 1 = cb) := hcb
 clear hcb
 go_wp2_with fail
 go_loopw [28, 8] (fun i rv wr => ∃ k : Nat, k ≤ L.length ∧ i = .int .i64 k ∧ (∃ B M s, Mk w0 wr w0.heap.size L (fun _ => []) B M s k) ∧ wr.ownsRow w0.heap.size 157 1 rv k (refRow (refsTo k)) ∧ Ch wr cb 0 (cacheF L 0))
  (fun i _ _ => L.length - (intOf i).toNat)
 case atStart => exact ⟨0, Nat.zero_le _, rfl, ⟨_, _, _, M2⟩, World.ownsRow_nil _ _ _ _, c2⟩
 case round =>
  clear c2 M2
  obtain ⟨k, hk, rfl, ⟨B, M, s, hM⟩, hrow, hch⟩ := hrel
  by_cases hlt : k < L.length
  ·obtain ⟨oo, hoo⟩ : ∃ oo, L[k]? = some oo := ⟨_, List.getElem?_eq_getElem hlt⟩
   obtain ⟨⟨hbl, na, ncap, f0, f1, f2, m0, m1, n0, n1, n2, n3⟩, nl⟩ := HAT.out _ hM.below k oo hoo
   have hidx : 0 ≤ (k : Int) ∧ (k : Int) < (L.length : Int) := ⟨by omega, by omega⟩
   have HM : Hid (Mk w0 wr w0.heap.size L (fun _ => []) B M s k) := hM
   have HR : Hid (wr.ownsRow w0.heap.size 157 1 _ k (refRow (refsTo k))) := hrow
   have HC : Hid (Ch wr cb 0 (cacheF L 0)) := hch
   have HO : Hid (L[k]? = some oo) := hoo
   have HN : Hid (∀ x ∈ oo.names, 0 ≤ x ∧ x ≤ 255) := n2
   clear hM hrow hch hoo n2 n3
   cases hp : oo.proxy with
   | false =>
    rw [hp] at f1
    go_wp2_with fail
    have hS : obStart oo (wr.heap.size + 1) = { fm := some (wr.heap.size + 1) } := by simp [obStart, hp]
    have hb3 : ∀ A C, Below wr.heap.size wr (((wr.alloc A).alloc (.map #[] 0)).alloc C) := fun A C => (((Below.refl _ wr).alloc (Nat.le_refl _) _).alloc (by simp) _).alloc (by simp; omega) _
    have hfl : ∀ A C, Flds (((wr.alloc A).alloc (.map #[] 0)).alloc C) (wr.heap.size + 1) [] := fun A C => by
     have := Flds.made (wr.alloc A)
     simp only [World.size_alloc] at this
     exact this.kept (Below.heap_alloc _ _ _ (by simp))
    have HP := put_made (oo := oo) (mb := wr.heap.size + 1) (HM.out.later (hb3 (.cells #[.slice na oo.names.length ncap, .bool false, .int .u8 oo.mem] 149) (.cells (obStart oo (wr.heap.size + 1)).cells 178))) HO.out (fun _ => hfl _ _) hl
    rw [hS] at HP
    refine HP.mono ?_
    rintro e w5 ⟨rfl, hM5, hF5⟩
    have hb5 := hb3 (.cells #[.slice na oo.names.length ncap, .bool false, .int .u8 oo.mem] 149) (.cells (Ob.cells { fm := some (wr.heap.size + 1) }) 178)
    obtain ⟨hr5, hc5, hz5⟩ := Mk.sides HR.out HC.out hb5 hF5 HM.out.below.size
    clear HP hS hb3 hfl hF5 hb5
    obtain ⟨ti, hti, hz0, hz1, hz2⟩ := info_parts Tryz.info157
    go_wp2_with (at_builtin; refine wpList_append_own _ rfl (.tmp 49) (.tmp 51) 143 rfl w0.heap.size 157 ti _ 1 8 Tryz.underlying143 hti hz0 hz1 hz2 rfl (by decide) u8 k _ rfl (hr5.alloc _) ⟨w5.heap.size, 0, none⟩ 1 1 [.int .u64 (refI k)] rfl rfl one_news (by intro u hu; simp at hu; subst hu; rfl) (by unfold maxLen; omega) (by omega) (by simp; omega) ?_)
    intro v' w6 hown' hgrow _
    obtain ⟨B5, M5, s5, hM5⟩ := hM5
    obtain ⟨hM6, hc6⟩ := hM5.app hc5 hr5 hgrow
    rw [refs_one, ← refsTo_succ] at hown'
    clear hM5 hr5 hc5 hgrow
    go_wp2_with fail
    exact ⟨⟨k + 1, by omega, by go_num, ⟨_, _, _, hM6⟩, hown', hc6⟩, by simp [intOf]; omega⟩
   | true =>
    rw [hp] at f1
    go_wp2_with fail
    have hS : obStart oo 0 = { k := 6, me := oo.mem % 4 } := by simp [obStart, hp]
    have hb3 : ∀ A C, Below wr.heap.size wr (((wr.alloc A).alloc (.map #[] 0)).alloc C) := fun A C => (((Below.refl _ wr).alloc (Nat.le_refl _) _).alloc (by simp) _).alloc (by simp; omega) _
    have HP := put_made (oo := oo) (mb := 0) (HM.out.later (hb3 (.cells #[.slice na oo.names.length ncap, .bool true, .int .u8 oo.mem] 149) (.cells (obStart oo 0).cells 178))) HO.out (fun h => by rw [hp] at h; cases h) hl
    rw [hS] at HP
    refine HP.mono ?_
    rintro e w5 ⟨rfl, hM5, hF5⟩
    have hb5 := hb3 (.cells #[.slice na oo.names.length ncap, .bool true, .int .u8 oo.mem] 149) (.cells (Ob.cells { k := 6, me := oo.mem % 4 }) 178)
    obtain ⟨hr5, hc5, hz5⟩ := Mk.sides HR.out HC.out hb5 hF5 HM.out.below.size
    clear HP hS hb3 hF5 hb5
    obtain ⟨ti, hti, hz0, hz1, hz2⟩ := info_parts Tryz.info157
    go_wp2_with (at_builtin; refine wpList_append_own _ rfl (.tmp 49) (.tmp 51) 143 rfl w0.heap.size 157 ti _ 1 8 Tryz.underlying143 hti hz0 hz1 hz2 rfl (by decide) u8 k _ rfl (hr5.alloc _) ⟨w5.heap.size, 0, none⟩ 1 1 [.int .u64 (refI k)] rfl rfl one_news (by intro u hu; simp at hu; subst hu; rfl) (by unfold maxLen; omega) (by omega) (by simp; omega) ?_)
    intro v' w6 hown' hgrow _
    obtain ⟨B5, M5, s5, hM5⟩ := hM5
    obtain ⟨hM6, hc6⟩ := hM5.app hc5 hr5 hgrow
    rw [refs_one, ← refsTo_succ] at hown'
    clear hM5 hr5 hc5 hgrow
    go_wp2_with fail
    exact ⟨⟨k + 1, by omega, by go_num, ⟨_, _, _, hM6⟩, hown', hc6⟩, by simp [intOf]; omega⟩
  ·obtain rfl : k = L.length := by omega
   clear hlt hk
   obtain ⟨W1, hW1⟩ : ∃ W1, W1 = wr := ⟨_, rfl⟩
   subst hW1
   obtain ⟨rg, cr, _, hrv, hcr1, hcr2, _, _⟩ := row_at hrow h0
   unfold maxLen at hcr2
   have hD0 : doneAt L 0 0 (fun _ => []) := fun j oo _ => by simp
   subst hrv
   go_wp2_with fail
   go_loopw [56] (fun i wr => ∃ k : Nat, k ≤ L.length ∧ i = .int .i64 k ∧ (∃ done s, doneAt L k 0 done ∧ Mk w0 wr w0.heap.size L done B M s L.length) ∧ wr.ownsRow w0.heap.size 157 1 (.slice (some ⟨rg, 0, none⟩) L.length cr) L.length (refRow (refsTo L.length)) ∧ Ch wr cb (px L k) (cacheF L k))
    (fun i _ => L.length - (intOf i).toNat)
   case atStart => exact ⟨0, Nat.zero_le _, rfl, ⟨_, _, hD0, hM⟩, hrow, hch⟩
   case round =>
    clear hrow hch hM hD0
    obtain ⟨i, hi, rfl, ⟨done, s, hD, hM⟩, hrow, hch⟩ := hrel
    by_cases hlt : i < L.length
    ·obtain ⟨oo, hoo⟩ : ∃ oo, L[i]? = some oo := ⟨_, List.getElem?_eq_getElem hlt⟩
     obtain ⟨⟨hbl, na, ncap, f0, f1, f2, m0, m1, n0, n1, n2, n3⟩, nl⟩ := HAT.out _ (Below.refl _ _) i oo hoo
     replace f0 := (hM.below.cell (p := ⟨b, off + i * 3, none⟩) hbl).trans f0
     replace f1 := (hM.below.cell (p := ⟨b, off + i * 3 + 1, none⟩) hbl).trans f1
     replace f2 := (hM.below.cell (p := ⟨b, off + i * 3 + 2, none⟩) hbl).trans f2
     replace hbl : b < wr.heap.size := Nat.lt_of_lt_of_le hbl hM.below.size
     have hidx : 0 ≤ (i : Int) ∧ (i : Int) < (L.length : Int) := ⟨by omega, by omega⟩
     have e0 : wr.cell? ⟨rg, i, none⟩ = some (.int .u64 (refI i)) := (hrow.cellAt i (by omega)).trans (by simp [refRow, refsTo_get hlt])
     have hlk := look_refI (hM.slot i oo hlt hoo) (by omega)
     have hrr := refI_range i (by omega)
     have hrgl : rg < wr.heap.size := (hrow.lt rg rfl).2
     have hA := hM.arn
     have HG : Hid (∀ o, Calls Tryz.prog 122 #[.pointer (some ⟨w0.heap.size, 0, none⟩), .int .u64 (refI i)] (wr.alloc o) fun e w' => e = .returned (.pointer (some ⟨B i, 0, none⟩)) ∧ ∃ q, w' = (wr.alloc o).drewN q) := fun o => get_ptr (hA.alloc o) (refI i) hrr.1 hrr.2 _ hlk
     have HM : Hid (Mk w0 wr w0.heap.size L done B M s L.length) := hM
     have HD : Hid (doneAt L i 0 done) := hD
     have HR : Hid (wr.ownsRow w0.heap.size 157 1 (.slice (some ⟨rg, 0, none⟩) L.length cr) L.length (refRow (refsTo L.length))) := hrow
     have HC : Hid (Ch wr cb (px L i) (cacheF L i)) := hch
     have HO : Hid (L[i]? = some oo) := hoo
     have HN : Hid (∀ x ∈ oo.names, 0 ≤ x ∧ x ≤ 255) := n2
     have HX : Hid (oo.names ≠ [] → ∃ g o2, na = some ⟨g, o2, none⟩ ∧ g < w0.heap.size ∧ ∀ j x, oo.names[j]? = some x → w0.cell? ⟨g, o2 + j, none⟩ = some (.int .u8 x)) := n3
     clear hM hrow hch hoo n2 n3 hlk hA hD
     go_wp2_with fail
     refine (HG.out _).mono ?_
     rintro e w5 ⟨rfl, q, hw5⟩
     have hb5 : Below wr.heap.size wr w5 := by rw [hw5]; exact below_drewN ((Below.refl _ _).alloc (Nat.le_refl _) _) q
     have hM5 := HM.out.later hb5
     have hr5 := row_kept HR.out (fun k hk => hb5.block k hk)
     have hc5 := HC.out.kept (hb5.block cb HC.out.lt)
     have hcp : w5.heap[wr.heap.size]? = some (.cells #[.slice na oo.names.length ncap, .bool oo.proxy, .int .u8 oo.mem] 149 (0, 0)) := by rw [hw5]; exact heap_alloc_new wr _
     have hcpb : w0.heap.size ≤ wr.heap.size := HM.out.below.size
     obtain ⟨g0, g1, g2, gf⟩ := three hcp
     have HNN : Hid (∀ x ∈ oo.names, 0 ≤ x ∧ x ≤ 255) := HN
     have hnc : oo.names.length ≤ 2 ^ 63 - 1 := by unfold maxLen at n1; omega
     unfold maxLen at n1
     clear hw5 HM HR HC HG f0 f1 f2 e0 hbl hb5
     generalize wr.heap.size = cp at hcp hcpb g0 g1 g2 gf ⊢
     go_wp2_with fail
     have hD5 : doneAt L i 0 done := HD.out
     go_loopw [74] (fun i2 wr => ∃ k : Nat, k ≤ oo.names.length ∧ i2 = .int .i64 k ∧ (∃ done s, doneAt L i k done ∧ Mk w0 wr w0.heap.size L done B M s L.length) ∧ wr.ownsRow w0.heap.size 157 1 (.slice (some ⟨rg, 0, none⟩) L.length cr) L.length (refRow (refsTo L.length)) ∧ Ch wr cb (px L i) (cacheF L i) ∧ wr.heap[cp]? = some (.cells #[.slice na oo.names.length ncap, .bool oo.proxy, .int .u8 oo.mem] 149 (0, 0)))
      (fun i2 _ => oo.names.length - (intOf i2).toNat)
     case atStart => exact ⟨0, Nat.zero_le _, rfl, ⟨_, _, hD5, hM5⟩, hr5, hc5, hcp⟩
     case round =>
      clear hr5 hc5 hM5 hD5 hcp g0 g1 g2 gf HD
      obtain ⟨k, hk, rfl, ⟨done, s, hD, hM⟩, hrow, hch, hcp⟩ := hrel
      obtain ⟨g0, g1, g2, gf⟩ := three hcp
      by_cases hkl : k < oo.names.length
      ·obtain ⟨x, hx⟩ : ∃ x, oo.names[k]? = some x := ⟨_, List.getElem?_eq_getElem hkl⟩
       have hxr := HN.out x (List.mem_of_getElem? hx)
       obtain ⟨t, rfl⟩ : ∃ t : Nat, x = (t : Int) := ⟨x.toNat, by omega⟩
       obtain ⟨ng, no, hna, hngl, hnc2⟩ := HX.out (by rintro e; rw [e] at hkl; simp at hkl)
       have hq0 := (hM.below.cell (p := ⟨ng, no + k, none⟩) hngl).trans (hnc2 k _ hx)
       subst hna
       have htl : t % L.length < L.length := Nat.mod_lt _ h0
       have e0 : wr.cell? ⟨rg, t % L.length, none⟩ = some (.int .u64 (refI (t % L.length))) := (hrow.cellAt (t % L.length) (by omega)).trans (by simp [refRow, refsTo_get htl])
       have hkx : 0 ≤ (k : Int) ∧ (k : Int) < (oo.names.length : Int) := ⟨by omega, by omega⟩
       have ht255 : t ≤ 255 := by omega
       have hL0 : ((L.length : Int) == 0) = false := by rw [beq_eq_false_iff_ne]; omega
       have HM : Hid (Mk w0 wr w0.heap.size L done B M s L.length) := hM
       have HD : Hid (doneAt L i k done) := hD
       have HR : Hid (wr.ownsRow w0.heap.size 157 1 (.slice (some ⟨rg, 0, none⟩) L.length cr) L.length (refRow (refsTo L.length))) := hrow
       have HC : Hid (Ch wr cb (px L i) (cacheF L i)) := hch
       have HCP : Hid (wr.heap[cp]? = some (.cells #[.slice (some ⟨ng, no, none⟩) oo.names.length ncap, .bool oo.proxy, .int .u8 oo.mem] 149 (0, 0))) := hcp
       have HXK : Hid (oo.names[k]? = some (t : Int)) := hx
       have hobj := (hM.arn.objs i _ _ _ (hM.slot i oo hlt HO.out) rfl).2
       obtain ⟨y3, y12, yf⟩ := ob_three hobj
       have hBl : B i < wr.heap.size := lt_of_block hobj
       clear hM hrow hch hcp hD hx hnc2 hobj
       cases hp : oo.proxy with
       | true =>
        rw [hp] at g1
        go_wp2_with fail
        obtain ⟨⟨s', hM'⟩, F'⟩ := HM.out.tgt (b := (t : Int)) HO.out hp
        rw [atN_nat] at hM' F'
        obtain ⟨es, clock, hcm⟩ := HC.out.block
        exact ⟨⟨k + 1, by omega, by go_num, ⟨_, _, doneAt_more HD.out HO.out HXK.out, hM'⟩, F'.row HR.out rfl, HC.out.kept ((F'.map hcm).trans hcm.symm), by have := F'.block HCP.out rfl; rw [hp] at this; exact this⟩, by simp [intOf]; omega⟩
       | false =>
        rw [hp] at g1
        have hfm : (obOf oo L.length (done i) (M i)).fm = some (M i) := by simp [obOf, hp]
        rw [hfm] at y3
        obtain ⟨D, hFD⟩ := (HM.out.maps i oo hlt HO.out hp).1
        have hdi : done i = oo.names.take k := by rw [HD.out i oo HO.out, if_neg (by omega), if_pos rfl]
        have hdl : (done i).length = k := by rw [hdi, List.length_take]; omega
        have hFl : (fldsOf L.length (done i)).length = k := by simp [fldsOf, hdl]
        have HUP : Hid (upd (fldsOf L.length (done i)) ⟨2, (k : Int), ⟨#[]⟩⟩ ⟨5, refI (t % L.length), ⟨#[]⟩⟩ = fldsOf L.length (done i ++ [(t : Int)])) := by
         show _ = _
         rw [← fldsOf_upd, hdl, atN_nat]
        have hkw : Vl.wf ⟨2, (k : Int), ⟨#[]⟩⟩ := keyW k (by omega)
        have HFD : Hid (FldsD wr (M i) (fldsOf L.length (done i)) D) := hFD
        have HKW : Hid (Vl.wf ⟨2, (k : Int), ⟨#[]⟩⟩) := hkw
        have HFL : Hid ((fldsOf L.length (done i)).length = k) := hFl
        have hBl1 : B i < wr.heap.size + 1 := by omega
        have yA : ∀ o q, (wr.alloc o).cell? ⟨B i, q, none⟩ = wr.cell? ⟨B i, q, none⟩ := fun o q => World.cell?_alloc_past _ _ _ hBl
        have yAA : ∀ o o2 q, ((wr.alloc o).alloc o2).cell? ⟨B i, q, none⟩ = wr.cell? ⟨B i, q, none⟩ := fun o o2 q => (World.cell?_alloc_past _ _ _ (by simp; omega)).trans (World.cell?_alloc_past _ _ _ hBl)
        have htl2 : t % L.length ≤ 1000 := by omega
        obtain ⟨w7, hup, ho7, hg7⟩ := (show (((wr.alloc (.cells #[.int .u8 2, .int .i64 k, .string { data := #[] }] 176)).alloc (.cells #[.int .u8 5, .int .i64 (refI (t % L.length)), .string { data := #[] }] 176)).drew).ownsMap Tryz.prog 176 asIs (M i) (fldsOf L.length (done i)).length D from ((hFD.own.alloc _).alloc _).drew).update keyedV Tryz.underlying173 (by rw [hFl]; unfold maxLen; omega) (keyOf_val hkw) (show asIs (Vl.val ⟨5, refI (t % L.length), ⟨#[]⟩⟩) = some (.held (Vl.val ⟨5, refI (t % L.length), ⟨#[]⟩⟩), []) from rfl)
        simp only [Vl.val] at hup
        have FLD : Hid (Mk w0 w7 w0.heap.size L (moreN done i t) B M s L.length ∧ w7.ownsRow w0.heap.size 157 1 (.slice (some ⟨rg, 0, none⟩) L.length cr) L.length (refRow (refsTo L.length)) ∧ Ch w7 cb (px L i) (cacheF L i) ∧ w7.heap[cp]? = some (.cells #[.slice (some ⟨ng, no, none⟩) oo.names.length ncap, .bool oo.proxy, .int .u8 oo.mem] 149 (0, 0))) :=
         Mk.fldAll HM.out HO.out hp HFD.out HKW.out HUP.out HR.out HC.out HCP.out ho7 hg7 (by have := HCB.out; omega)
        clear hFD hfm hdi hdl hFl hkw ho7 hg7
        go_upto_region 25 with fail
        go_region_law (first
         | (refine step_call1R rfl (.tmp 97) 124 2 rfl (.int .i64 k) _ (by first | (simp [Act.eval]; done) | (simp [Act.eval, Act.put]; done)) entersNumber (number_any k _) ?_; rintro w8 rfl)
         | (refine step_call1R rfl (.tmp 99) 123 157 rfl (.int .u64 (refI (t % L.length))) _ (by first | (simp [Act.eval]; done) | (simp [Act.eval, Act.put]; done)) entersObject (object_refI _ htl2 _) ?_; rintro w8 rfl))
        all_goals
         obtain ⟨z1, z2, z3, z4⟩ := FLD.out
         clear hup FLD
         go_wp2_with fail
         go_roundw
         case rel => exact ⟨k + 1, by omega, by go_num, ⟨_, _, doneAt_more HD.out HO.out HXK.out, z1⟩, z2, z3, by first | exact z4 | (rw [hp] at z4; exact z4)⟩
         case measure => simp [intOf]; omega
      ·obtain rfl : k = oo.names.length := by omega
       have hD2 := doneAt_next hD HO.out (Nat.le_refl _)
       have hpx := px_succ HO.out
       clear hkl hk hD
       cases hp : oo.proxy with
       | false =>
        rw [hp] at g1 hpx
        simp only [Bool.false_eq_true, if_false, Nat.add_zero] at hpx
        rw [← hpx, ← cacheF_plain HO.out hp] at hch
        have HM : Hid (Mk w0 wr w0.heap.size L done B M s L.length) := hM
        have HR : Hid (wr.ownsRow w0.heap.size 157 1 (.slice (some ⟨rg, 0, none⟩) L.length cr) L.length (refRow (refsTo L.length))) := hrow
        have HC : Hid (Ch wr cb (px L (i + 1)) (cacheF L (i + 1))) := hch
        have HD : Hid (doneAt L (i + 1) 0 done) := hD2
        clear hM hrow hch hD2 hpx
        go_wp2_with fail
        exact ⟨⟨i + 1, by omega, by go_num, ⟨_, _, HD.out, HM.out⟩, HR.out, HC.out⟩, by simp [intOf]; omega⟩
       | true =>
        rw [hp] at g1 hpx
        simp only [if_true] at hpx
        have hobj := (hM.arn.objs i _ _ _ (hM.slot i oo hlt HO.out) rfl).2
        obtain ⟨y3, y12, yf⟩ := ob_three hobj
        have hBl : B i < wr.heap.size := lt_of_block hobj
        have hta : (obOf oo L.length (done i) (M i)).ta = tgt L.length (done i) := by simp [obOf, hp]
        rw [hta] at y12
        have htr := tgt_range L.length (done i) h0 hl
        have hdi : done i = oo.names := by rw [hD2 i oo HO.out, if_pos (by omega)]
        have hcf := cacheF_proxy HO.out hp
        rw [← hdi] at hcf
        clear hdi
        generalize tgt L.length (done i) = T at y12 htr hcf
        have e0 : wr.cell? ⟨rg, i, none⟩ = some (.int .u64 (refI i)) := (hrow.cellAt i (by omega)).trans (by simp [refRow, refsTo_get hlt])
        have hrr := refI_range i (by omega)
        have hpl := px_le L i
        obtain ⟨D, hCD⟩ := hch
        obtain ⟨w7, hup, ho7, hg7⟩ := (show wr.drew.ownsMap Tryz.prog 185 (plainElem Tryz.prog 157) cb (px L i) D from hCD.own.drew).update keyedE Tryz.underlying145 (by unfold maxLen; omega) (keyE (oo.mem % 4) T (by omega) (by omega) htr.1 htr.2) (plainElem_int Tryz.underlying157 (WalkArith.wf_u64 hrr))
        rw [← hpx] at ho7
        have FIN : Hid (Mk w0 w7 w0.heap.size L done B M s L.length ∧ w7.ownsRow w0.heap.size 157 1 (.slice (some ⟨rg, 0, none⟩) L.length cr) L.length (refRow (refsTo L.length)) ∧ Ch w7 cb (px L (i + 1)) (cacheF L (i + 1))) :=
         Mk.cached hM hrow ⟨_, hCD⟩ hg7 ⟨_, by rw [hcf]; exact hCD.put ⟨by omega, by omega, htr.1, htr.2⟩ hrr ho7⟩ (by have := HCB.out; omega)
        have HD : Hid (doneAt L (i + 1) 0 done) := hD2
        clear hM hrow hD2 hpx hobj hta ho7 hg7 hCD y3 hcf
        go_upto_region 28 with fail
        go_region
        all_goals
         obtain ⟨z1, z2, z3⟩ := FIN.out
         clear hup FIN
         go_wp2_with fail
         go_roundw
         case rel => exact ⟨i + 1, by omega, by go_num, ⟨_, _, HD.out, z1⟩, z2, z3⟩
         case measure => simp [intOf]; omega
    ·obtain rfl : i = L.length := by omega
     have hpx : px L L.length = L.countP fun oo => oo.proxy := by simp [px]
     rw [hpx] at hch
     have HE : Hid (∃ done, (∀ j oo, L[j]? = some oo → done j = oo.names) ∧ Mk w0 wr w0.heap.size L done B M s L.length) := ⟨done, fun j oo hj => by rw [hD j oo hj, if_pos (by obtain ⟨hh, _⟩ := List.getElem?_eq_some_iff.1 hj; exact hh)], hM⟩
     have HR : Hid (wr.ownsRow w0.heap.size 157 1 (.slice (some ⟨rg, 0, none⟩) L.length cr) L.length (refRow (refsTo L.length))) := hrow
     have HC : Hid (Ch wr cb (L.countP fun oo => oo.proxy) (cacheF L L.length)) := hch
     clear hM hrow hch hD hpx
     go_wp2
     have hcb := HCB.out
     go_ret3
     exact ⟨_, B, M, s, by rw [hcb]; rfl, HE.out, HR.out, by rw [hcb]; exact HC.out⟩
end Go.Proofs.YtenfphbhofibjaaGreatDoor
namespace Go.Proofs.YtenfphbhofibjaaGreatDoor
open Go.ChangeShapes Go.WideShapes Go.ChangeAt Go.RowKit Go.Maps Go.Sort Go.Lib
theorem leV_nat (i j : Nat) (h : i ≤ j) : leV ⟨2, (i : Int), ⟨#[]⟩⟩ ⟨2, (j : Int), ⟨#[]⟩⟩ = true := by
 unfold leV
 rw [ltV]
 have h1 : ordT (trip ⟨2, (j : Int), ⟨#[]⟩⟩) (trip ⟨2, (i : Int), ⟨#[]⟩⟩) ≥ 0 := by
  have e : ordT (trip ⟨2, (j : Int), ⟨#[]⟩⟩) (trip ⟨2, (i : Int), ⟨#[]⟩⟩) = if cmpI (j : Int) (i : Int) != 0 then cmpI (j : Int) (i : Int) else 0 := by
   unfold ordT lexC trip
   simp only [cmpI_is.refl]
   simp [cmpL_is.refl]
  rw [e]
  rcases cmpI_three (j : Int) (i : Int) with ⟨_, h2⟩ | ⟨_, h2⟩ | ⟨_, h2⟩
  ·omega
  ·rw [h2]; simp
  ·rw [h2]; simp
 simp; omega
theorem sortK_nat (m : Nat) : sortK ((List.range m).map fun (k : Nat) => (⟨2, (k : Int), ⟨#[]⟩⟩ : Vl)) = (List.range m).map fun (k : Nat) => (⟨2, (k : Int), ⟨#[]⟩⟩ : Vl) := by
 unfold sortK
 apply List.mergeSort_of_pairwise
 rw [List.pairwise_map]
 exact List.Pairwise.imp (fun {a b} h => leV_nat a b (Nat.le_of_lt h)) (List.pairwise_lt_range (n := m))
theorem atN_lt (n : Nat) (b : Int) (hn : 0 < n) : atN n b < n := by
 unfold atN
 have := Int.emod_lt_of_pos b (show (0 : Int) < n from by omega)
 have := Int.emod_nonneg b (show (n : Int) ≠ 0 from by omega)
 omega
theorem fldsOf_nodup (n : Nat) (ns : List Int) : ((fldsOf n ns).map Prod.fst).Nodup := by
 rw [fldsOf_keys, List.nodup_iff_pairwise_ne, List.pairwise_map]
 refine List.Pairwise.imp (fun {a b} h e => ?_) List.pairwise_lt_range
 simp at e
 omega
theorem look_flds (n : Nat) (ns : List Int) (k : Nat) (b : Int) (h : ns[k]? = some b) : lookV (fldsOf n ns) ⟨2, (k : Int), ⟨#[]⟩⟩ = ⟨5, refI (atN n b), ⟨#[]⟩⟩ := by
 refine lookV_of_mem (p := (⟨2, (k : Int), ⟨#[]⟩⟩, ⟨5, refI (atN n b), ⟨#[]⟩⟩)) (fldsOf_nodup n ns) ?_
 rw [List.mem_iff_getElem?]
 exact ⟨k, by simp [fldsOf, h]⟩
theorem refOf_refI (i : Nat) (hi : i ≤ 1000) : refOf ⟨5, refI i, ⟨#[]⟩⟩ = refI i := by
 unfold refOf refI
 simp
 omega
theorem names_rec (n : Nat) (ns : List Int) (hn : 0 < n) (hl : n ≤ 1000) : (namesOf (fldsOf n ns) [] 0 ⟨0, 0, ⟨#[]⟩⟩ 0).filter (fun x => !(x == 0)) = ns.map fun b => refI (atN n b) := by
 have h1 : (sortK ((fldsOf n ns).map Prod.fst)).map (fun k => refOf (lookV (fldsOf n ns) k)) = ns.map fun b => refI (atN n b) := by
  rw [fldsOf_keys, sortK_nat, List.map_map]
  apply List.ext_getElem?
  intro i
  by_cases h : i < ns.length
  ·have hb : ns[i]? = some ns[i] := List.getElem?_eq_getElem h
   simp only [List.getElem?_map, List.getElem?_range h, Option.map_some, hb, Function.comp]
   rw [look_flds n ns i _ hb, refOf_refI _ (by have := atN_lt n ns[i] hn; omega)]
  ·simp [h]
 unfold namesOf
 rw [h1]
 have h2 : (ns.map fun b => refI (atN n b)).filter (fun x => !(x == 0)) = ns.map fun b => refI (atN n b) := by
  rw [List.filter_eq_self]
  intro x hx
  obtain ⟨b, _, rfl⟩ := List.mem_map.1 hx
  simp [refI]
  omega
 rw [List.filter_append, List.filter_append, h2]
 simp [refOf]
theorem names_proxy (n : Nat) (ns : List Int) (hn : 0 < n) : (namesOf [] [] 0 ⟨0, 0, ⟨#[]⟩⟩ (tgt n ns)).filter (fun x => !(x == 0)) = match ns.getLast? with | none => [] | some b => [refI (atN n b)] := by
 unfold namesOf tgt
 cases h : ns.getLast? with
 | none => simp [refOf, sortK]
 | some b =>
  have : refI (atN n b) ≠ 0 := by unfold refI; omega
  simp [refOf, sortK, this]
def nmL (L : List OO) (dd : Int → Bool) (i : Nat) : List Nat :=
 match L[i]? with
 | none => []
 | some oo => if oo.proxy then (if dd (oo.mem % 4) then [] else match oo.names.getLast? with | none => [] | some b => [atN L.length b]) else oo.names.map (atN L.length)
def flM (L : List OO) (done : Nat → List Int) (j : Nat) : List (Vl × Vl) := match L[j]? with | none => [] | some oo => if oo.proxy then [] else fldsOf L.length (done j)
section
variable {w0 w : World} {ab : Nat} {L : List OO} {done : Nat → List Int} {B M : Nat → Nat} {s : St}
theorem Mk.row (h : Mk w0 w ab L done B M s L.length) {i : Nat} {sl : Sl} (hs : s.slots[i]? = some sl) : ∃ oo, i < L.length ∧ L[i]? = some oo ∧ sl = ⟨1, some (B i, obOf oo L.length (done i) (M i))⟩ := by
 have hi : i < L.length := by obtain ⟨hh, _⟩ := List.getElem?_eq_some_iff.1 hs; rw [h.len] at hh; exact hh
 obtain ⟨oo, hoo⟩ : ∃ oo, L[i]? = some oo := ⟨_, List.getElem?_eq_getElem hi⟩
 rw [h.slot i oo hi hoo] at hs
 cases hs
 exact ⟨oo, hi, hoo, rfl⟩
theorem Mk.objs (h : Mk w0 w ab L done B M s L.length) (hd : ∀ (j : Nat) (oo : OO), L[j]? = some oo → done j = oo.names) (hl : L.length ≤ 1000) (hn : ∀ (j : Nat) (oo : OO), L[j]? = some oo → oo.names.length ≤ 1000 ∧ 0 ≤ oo.mem) : Objs w s (flM L done) := by
 intro i sl b o hs ho
 obtain ⟨oo, hi, hoo, rfl⟩ := h.row hs
 simp at ho
 obtain ⟨rfl, rfl⟩ := ho
 have htr := tgt_range L.length (done i) (by omega) hl
 have hnn := hn i oo hoo
 cases hp : oo.proxy with
 | true =>
  rw [show obOf oo L.length (done i) (M i) = { k := 6, me := oo.mem % 4, ta := Go.Proofs.YtenfphbhofibjaaGreatDoor.tgt L.length (done i) } from by simp [obOf, hp], show flM L done i = [] from by simp [flM, hoo, hp]]
  exact ⟨.inl ⟨rfl, rfl⟩, rfl, by simp, by simp, by simp, htr.1, htr.2, by simp only; omega, by simp only; omega⟩
 | false =>
  have hm := h.maps i oo hi hoo hp
  rw [show obOf oo L.length (done i) (M i) = { fm := some (M i) } from by simp [obOf, hp], show flM L done i = fldsOf L.length (done i) from by simp [flM, hoo, hp]]
  refine ⟨.inr ⟨M i, rfl, hm.1⟩, rfl, ?_, by simp, by simp, by simp, by simp, by simp, by simp⟩
  simp [fldsOf, hd i oo hoo]
  exact hnn.1
theorem Mk.uses (h : Mk w0 w ab L done B M s L.length) (n : Nat) (sl : Sl) (hs : s.slots[n]? = some sl) : sl.uses ≤ 1000000 := by
 obtain ⟨oo, _, _, rfl⟩ := h.row hs
 simp
theorem Mk.owner (h : Mk w0 w ab L done B M s L.length) (i : Nat) (sl : Sl) (b : Nat) (o : Ob) (hs : s.slots[i]? = some sl) (ho : sl.obj = some (b, o)) : o.ow = 0 := by
 obtain ⟨oo, _, _, rfl⟩ := h.row hs
 simp at ho
 obtain ⟨rfl, rfl⟩ := ho
 unfold obOf
 split <;> rfl
theorem Mk.look (h : Mk w0 w ab L done B M s L.length) (hl : L.length ≤ 1000) {i : Nat} {oo : OO} (hi : L[i]? = some oo) : look s.slots (refI i) = some (B i, obOf oo L.length (done i) (M i)) := by
 have hil : i < L.length := by obtain ⟨hh, _⟩ := List.getElem?_eq_some_iff.1 hi; exact hh
 exact look_refI (h.slot i oo hil hi) (by omega)
theorem Mk.lives (h : Mk w0 w ab L done B M s L.length) (hl : L.length ≤ 1000) (r : Int) : lives s r = true ↔ ∃ i, i < L.length ∧ r = refI i := by
 constructor
 ·intro hr
  obtain ⟨sl, h1, h2, _⟩ := lives_slot hr
  obtain ⟨oo, hi, hoo, rfl⟩ := h.row h1
  refine ⟨(r % 4294967296).toNat, hi, ?_⟩
  simp at h2
  unfold refI
  omega
 ·rintro ⟨i, hi, rfl⟩
  obtain ⟨oo, hoo⟩ : ∃ oo, L[i]? = some oo := ⟨_, List.getElem?_eq_getElem hi⟩
  unfold Go.Proofs.YtenfphbhofibjaaGreatDoor.lives
  rw [h.look hl hoo]
  rfl
theorem Mk.names (h : Mk w0 w ab L done B M s L.length) (hd : ∀ (j : Nat) (oo : OO), L[j]? = some oo → done j = oo.names) (hl : L.length ≤ 1000) (dd : Int → Bool) {i : Nat} (hi : i < L.length) : nmOf s (flM L done) dd (refI i) = (nmL L dd i).map refI := by
 obtain ⟨oo, hoo⟩ : ∃ oo, L[i]? = some oo := ⟨_, List.getElem?_eq_getElem hi⟩
 have hs : (refI i % 4294967296).toNat = i := by unfold refI; omega
 unfold nmOf nmL
 rw [h.look hl hoo, hs, hoo]
 simp only [flM, hoo, hd i oo hoo]
 cases hp : oo.proxy with
 | true =>
  simp only [obOf, hp, if_true]
  cases hdd : dd (oo.mem % 4) with
  | true => simp
  | false =>
   have := names_proxy L.length oo.names (by omega)
   simp only [this]
   cases oo.names.getLast? <;> simp
 | false =>
  have := names_rec L.length oo.names (by omega) hl
  simp only [obOf, hp]
  simp [this]
end
end Go.Proofs.YtenfphbhofibjaaGreatDoor

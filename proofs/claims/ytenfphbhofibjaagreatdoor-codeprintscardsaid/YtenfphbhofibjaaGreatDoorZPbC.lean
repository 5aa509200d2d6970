/-
 PaKeep, PaTree, PaRow, joined.
 Conditions: as each theorem says.
-/
import Derived.Test.YtenfphbhofibjaaGreatDoorZJTk
import Derived.Test.YtenfphbhofibjaaGreatDoorZPaSmall2
set_option linter.unusedVariables false
namespace Go.Proofs.YtenfphbhofibjaaGreatDoor
open Go.RowKit LM TM PM
def Stab (T : (Nat → Prop) → World → Prop) : Prop := ∀ (P Q : Nat → Prop) (w w' : World), (∀ k, P k → Q k ∧ w'.heap[k]? = w.heap[k]?) → T P w → T Q w'
def RE (v : Value) (l : List TE) (P : Nat → Prop) (w : World) : Prop := SlAt P v l.length (fun g o => EsAt P w g o l)
def RS (v : Value) (l : List TS) (P : Nat → Prop) (w : World) : Prop := SlAt P v l.length (fun g o => SsAt P w g o l)
def RN (v : Value) (l : List ByteArray) (P : Nat → Prop) (w : World) : Prop := SlAt P v l.length (fun g o => StrAt w g o l)
def O14 (x : TE) (a : Value) (P : Nat → Prop) (w : World) : Prop := exOp x = 14 → ∃ g cs, a = .slice (some ⟨g, 0, none⟩) 2 2 ∧ P g ∧ w.heap[g]? = some (.cells cs 35 (0, 0)) ∧ cs.size = 12 ∧ (exParts x).length = 2 ∧ EsC (fun k => P k ∧ k ≠ g) w (exParts x) cs.toList
def XE (x : TE) (a b c : Value) (P : Nat → Prop) (w : World) : Prop := EIn P w x a b c ∧ O14 x a P w
def XS (x : TS) (a b c : Value) (P : Nat → Prop) (w : World) : Prop := SIn P w x a b c
theorem stab_RE (v : Value) (l : List TE) : Stab (RE v l) := fun P Q w w' H h => h.imp (fun k hk => (H k hk).1) fun g o hg hA => EsAt.kept H l hg hA
theorem stab_RS (v : Value) (l : List TS) : Stab (RS v l) := fun P Q w w' H h => h.imp (fun k hk => (H k hk).1) fun g o hg hA => SsAt.kept H l hg hA
theorem stab_RN (v : Value) (l : List ByteArray) : Stab (RN v l) := fun P Q w w' H h => h.imp (fun k hk => (H k hk).1) fun g o hg hA => StrAt.kept (H g hg).2 l o hA
theorem stab_XS (x : TS) (a b c : Value) : Stab (XS x a b c) := fun P Q w w' H h => SIn.kept H x h
theorem stab_XE (x : TE) (a b c : Value) : Stab (XE x a b c) := fun P Q w w' H h => ⟨EIn.kept H x h.1, fun h14 => by
 obtain ⟨g, cs, h1, h2, h3, h4, h5, h6⟩ := h.2 h14
 exact ⟨g, cs, h1, (H g h2).1, (H g h2).2.trans h3, h4, h5, EsC.kept (fun k hk => ⟨⟨(H k hk.1).1, hk.2⟩, (H k hk.1).2⟩) h6⟩⟩
structure Lie (T : (Nat → Prop) → World → Prop) (s e : Nat) (w : World) : Prop where
 st : Stab T
 le : s ≤ e
 lt : e ≤ w.heap.size
 at' : T (Fresh s e) w
theorem Lie.keep {T : (Nat → Prop) → World → Prop} {s e : Nat} {w w' : World} (h : Lie T s e w) (hs : w.heap.size ≤ w'.heap.size) (hk : ∀ k, s ≤ k → k < e → w'.heap[k]? = w.heap[k]?) : Lie T s e w' :=
 ⟨h.st, h.le, Nat.le_trans h.lt hs, h.st _ _ _ _ (fun k hk2 => ⟨hk2, hk k hk2.1 hk2.2⟩) h.at'⟩
theorem Lie.gr {T : (Nat → Prop) → World → Prop} {s e pb : Nat} {w w' : World} (h : Lie T s e w) (hg : w.grownBy w' (some pb)) (hp : pb < s) : Lie T s e w' :=
 h.keep hg.size fun k h1 h2 => hg.block k (Nat.lt_of_lt_of_le h2 h.lt) (by simp; omega)
theorem Lie.alloc {T : (Nat → Prop) → World → Prop} {s e : Nat} {w : World} (h : Lie T s e w) (o : Obj) : Lie T s e (w.alloc o) :=
 h.keep (by simp) fun k h1 h2 => Below.heap_alloc _ _ _ (Nat.lt_of_lt_of_le h2 h.lt)
theorem Lie.wider {T : (Nat → Prop) → World → Prop} {s e s' e' : Nat} {w : World} (h : Lie T s e w) (hs : s' ≤ s) (he : e ≤ e') (hw : e' ≤ w.heap.size) : Lie T s' e' w :=
 ⟨h.st, Nat.le_trans hs (Nat.le_trans h.le he), hw, h.st _ _ _ _ (fun k hk => ⟨⟨Nat.le_trans hs hk.1, Nat.lt_of_lt_of_le hk.2 he⟩, rfl⟩) h.at'⟩
def VE (w : World) (x : TE) (en : Ending) (w' : World) : Prop := ∃ a b c, en = .returned (exV x a b c) ∧ Lie (XE x a b c) w.heap.size w'.heap.size w'
def VS (w : World) (x : TS) (en : Ending) (w' : World) : Prop := ∃ a b c, en = .returned (stV x a b c) ∧ Lie (XS x a b c) w.heap.size w'.heap.size w'
def VLE (w : World) (l : List TE) (en : Ending) (w' : World) : Prop := ∃ v, en = .returned v ∧ Lie (RE v l) w.heap.size w'.heap.size w'
def VLS (w : World) (l : List TS) (en : Ending) (w' : World) : Prop := ∃ v, en = .returned v ∧ Lie (RS v l) w.heap.size w'.heap.size w'
def OkE (pb d : Nat) (E : List Tok → PR TE) : Prop := ∀ (w : World) (ts : List Tok), PAt w pb ts d → GoodT ts → Calls Tryz.prog 141 #[.pointer (some ⟨pb, 0, none⟩)] w fun en w' => Ret (E ts) w pb d (VE w) en w'
def OkU (pb d : Nat) (U : List Tok → PR TE) : Prop := ∀ (w : World) (ts : List Tok), PAt w pb ts d → GoodT ts → Calls Tryz.prog 196 #[.pointer (some ⟨pb, 0, none⟩)] w fun en w' => Ret (U ts) w pb d (VE w) en w'
def OkB (pb d : Nat) (B : List Tok → PR (List TS)) : Prop := ∀ (w : World) (ts : List Tok), PAt w pb ts d → GoodT ts → Calls Tryz.prog 142 #[.pointer (some ⟨pb, 0, none⟩)] w fun en w' => Ret (B ts) w pb d (VLS w) en w'
def OkS (pb d : Nat) (S : List Tok → PR TS) : Prop := ∀ (w : World) (ts : List Tok), PAt w pb ts d → GoodT ts → Calls Tryz.prog 91 #[.pointer (some ⟨pb, 0, none⟩)] w fun en w' => Ret (S ts) w pb d (VS w) en w'
theorem six_gr {w w' : World} {r : Option Nat} {g : Nat} {a b c d e f : Value} (h : w.grownBy w' r) (hg : w.heap.size ≤ g) : w.grownBy (six7 w' g a b c d e f) r := by
 unfold six7
 exact gr_new (gr_new (gr_new (gr_new (gr_new (gr_new h hg _ _) hg _ _) hg _ _) hg _ _) hg _ _) hg _ _
theorem six_pat {w : World} {pb : Nat} {ts : List Tok} {dd g : Nat} {a b c d e f : Value} (h : PAt w pb ts dd) (hg : pb < g) : PAt (six7 w g a b c d e f) pb ts dd := by
 unfold six7
 exact (((((h.other hg).other hg).other hg).other hg).other hg).other hg
theorem six_lie {T : (Nat → Prop) → World → Prop} {s e g : Nat} {w : World} {a b c d e1 f : Value} (h : Lie T s e w) (hg : g < s ∨ e ≤ g) : Lie T s e (six7 w g a b c d e1 f) :=
 h.keep (Nat.le_of_eq six7_size.symm) fun k h1 h2 => six7_other (by omega)
end Go.Proofs.YtenfphbhofibjaaGreatDoor
namespace Go.Proofs.YtenfphbhofibjaaGreatDoor
open Go.RowKit LM TM PM
theorem XE.slices {op : Nat} {num : Int} {text : ByteArray} {ps : List TE} {pm : List ByteArray} {bd : List TS} {a b c : Value} {P : Nat → Prop} {w : World} (h : XE (.mk op num text ps pm bd) a b c P w) : ∃ pa pc na nc ba bc, a = .slice pa ps.length pc ∧ b = .slice na pm.length nc ∧ c = .slice ba bd.length bc := by
 obtain ⟨_, ⟨pa, pc, h1, _⟩, ⟨na, nc, h2, _⟩, ⟨ba, bc, h3, _⟩⟩ := h.1
 exact ⟨pa, pc, na, nc, ba, bc, h1, h2, h3⟩
theorem XS.slices {kind : Nat} {name : ByteArray} {xs : List TE} {bd el : List TS} {pos : Int} {a b c : Value} {P : Nat → Prop} {w : World} (h : XS (.mk kind name xs bd el pos) a b c P w) : ∃ pa pc na nc ba bc, a = .slice pa xs.length pc ∧ b = .slice na bd.length nc ∧ c = .slice ba el.length bc := by
 obtain ⟨_, ⟨pa, pc, h1, _⟩, ⟨na, nc, h2, _⟩, ⟨ba, bc, h3, _⟩⟩ := h
 exact ⟨pa, pc, na, nc, ba, bc, h1, h2, h3⟩
theorem opOf_le {t n : Nat} {x : Bs} (h : opOf t x = some n) : n ≤ 13 := by
 unfold opOf at h
 split at h
 ·split at h
  ·cases h; decide
  ·split at h
   ·cases h; decide
   ·split at h
    ·cases h; decide
    ·cases h
 ·split at h
  ·split at h
   ·cases h; decide
   ·split at h
    ·cases h; decide
    ·cases h
  ·split at h
   ·split at h
    ·cases h; decide
    ·cases h
   ·split at h
    ·cases h; decide
    ·split at h
     ·cases h; decide
     ·cases h
theorem pOp_le {t n : Nat} {ts : List Tok} (h : pOp t ts = some n) : n ≤ 13 := by
 unfold pOp at h
 split at h
 ·exact opOf_le h
 ·cases h
theorem op_cases (o : Option Nat) : o = none ∨ ∃ n, o = some n := by cases o <;> simp
theorem nil_sl {P : Nat → Prop} {A : Nat → Nat → Prop} : SlAt P (.slice none 0 0) 0 A := ⟨none, 0, rfl, Nat.le_refl _, Nat.zero_le _, fun h => absurd h (by omega)⟩
section
variable {s e : Nat} {W : World}
theorem nil_RE (hs : s ≤ e) (he : e ≤ W.heap.size) : Lie (RE (.slice none 0 0) []) s e W := ⟨stab_RE _ _, hs, he, nil_sl⟩
theorem nil_RS (hs : s ≤ e) (he : e ≤ W.heap.size) : Lie (RS (.slice none 0 0) []) s e W := ⟨stab_RS _ _, hs, he, nil_sl⟩
theorem esc1 {x : TE} {a b c : Value} (h : Lie (XE x a b c) s e W) : EsC (Fresh s e) W [x] (sixE x a b c) := ⟨a, b, c, [], by simp, h.at'.1, rfl⟩
theorem esc2 {x y : TE} {a b c a' b' c' : Value} (h : Lie (XE x a b c) s e W) (k : Lie (XE y a' b' c') s e W) : EsC (Fresh s e) W [x, y] (sixE x a b c ++ sixE y a' b' c') := ⟨a, b, c, sixE y a' b' c', rfl, h.at'.1, esc1 k⟩
theorem esc_len {P : Nat → Prop} : ∀ {l : List TE} {cs : List Value}, EsC P W l cs → cs.length = l.length * 6
 | [], cs, h => by rw [show cs = [] from h]; rfl
 | x :: l, cs, ⟨a, b, c, cs', h1, _, h3⟩ => by rw [h1, List.length_append, sixE_len, esc_len h3, List.length_cons]; omega
theorem row_new {l : List TE} {cs : List Value} {n : Nat} (hE : EsC (Fresh s e) W l cs) (hs : s ≤ e) (he : e ≤ W.heap.size) (hl : l.length = n) (hn : n ≤ 1000) (h0 : 0 < n) : SlAt (Fresh s (W.heap.size + 1)) (.slice (some ⟨W.heap.size, 0, none⟩) n n) l.length (fun g o => EsAt (Fresh s (W.heap.size + 1)) (W.alloc (.cells cs.toArray 35)) g o l) := by
 refine ⟨_, n, by rw [hl], by omega, by unfold maxLen; omega, fun _ => ⟨W.heap.size, 0, rfl, ⟨by omega, by omega⟩, ?_⟩⟩
 refine EsC.at (cs := cs) (EsC.kept (fun k hk => ⟨⟨hk.1, by have := hk.2; omega⟩, Below.heap_alloc _ _ _ (by have := hk.2; omega)⟩) hE) fun j u hj => ?_
 have hb : (W.alloc (.cells cs.toArray 35)).heap[W.heap.size]? = _ := heap_alloc_new W _
 have hj2 : cs.toArray[j]? = some u := by simpa using hj
 rw [Nat.zero_add]
 simp only [World.cell?, hb]
 exact hj2
theorem row_lie {l : List TE} {cs : List Value} {n : Nat} (hE : EsC (Fresh s e) W l cs) (hs : s ≤ e) (he : e ≤ W.heap.size) (hl : l.length = n) (hn : n ≤ 1000) (h0 : 0 < n) : Lie (RE (.slice (some ⟨W.heap.size, 0, none⟩) n n) l) s (W.heap.size + 1) (W.alloc (.cells cs.toArray 35)) :=
 ⟨stab_RE _ _, by omega, by simp, row_new hE hs he hl hn h0⟩
theorem mkE_lie {op n : Nat} {l : List TE} {cs : List Value} (hE : EsC (Fresh s e) W l cs) (hs : s ≤ e) (he : e ≤ W.heap.size) (hl : l.length = n) (hn : n ≤ 1000) (h0 : 0 < n) (hop : op ≤ 17) (h14 : op = 14 → n = 2) : Lie (XE (mkE op l) (.slice (some ⟨W.heap.size, 0, none⟩) n n) (.slice none 0 0) (.slice none 0 0)) s (W.heap.size + 1) (W.alloc (.cells cs.toArray 35)) := by
 refine ⟨stab_XE _ _ _ _, by omega, by simp, ⟨⟨⟨hop, by decide, by decide⟩, row_new hE hs he hl hn h0, nil_sl, nil_sl⟩, fun h => ?_⟩⟩
 have hn2 := h14 h
 subst hn2
 refine ⟨W.heap.size, cs.toArray, rfl, ⟨by omega, by omega⟩, heap_alloc_new W _, ?_, hl, ?_⟩
 ·have := esc_len hE
  simp
  omega
 ·exact EsC.kept (fun k hk => ⟨⟨⟨hk.1, by have := hk.2; omega⟩, by have := hk.2; omega⟩, Below.heap_alloc _ _ _ (by have := hk.2; omega)⟩) hE
theorem row_blk0 {l : List TE} {cs : List Value} {n g : Nat} (hE : EsC (Fresh s e) W l cs) (hb : W.heap[g]? = some (.cells cs.toArray 35 (0, 0))) (hs : s ≤ e) (he : e ≤ g) (hl : l.length = n) (hn : n ≤ 1000) (h0 : 0 < n) : SlAt (Fresh s (g + 1)) (.slice (some ⟨g, 0, none⟩) n n) l.length (fun g' o => EsAt (Fresh s (g + 1)) W g' o l) ∧ SlAt (Fresh s (g + 1)) (.slice (some ⟨g, 0, none⟩) n n) l.length (fun g' o => EsAt (Fresh s (g + 1)) W g' o l) := by
 have key : EsAt (Fresh s (g + 1)) W g 0 l := by
  refine EsC.at (cs := cs) (EsC.kept (fun k hk => ⟨⟨hk.1, by have := hk.2; omega⟩, rfl⟩) hE) fun j u hj => ?_
  have hj2 : cs.toArray[j]? = some u := by simpa using hj
  rw [Nat.zero_add]
  simp only [World.cell?, hb]
  exact hj2
 exact ⟨⟨_, n, by rw [hl], by omega, by unfold maxLen; omega, fun _ => ⟨g, 0, rfl, ⟨by omega, by omega⟩, key⟩⟩, ⟨_, n, by rw [hl], by omega, by unfold maxLen; omega, fun _ => ⟨g, 0, rfl, ⟨by omega, by omega⟩, key⟩⟩⟩
theorem row_blk {l : List TE} {cs : List Value} {n g : Nat} (hE : EsC (Fresh s e) W l cs) (hb : W.heap[g]? = some (.cells cs.toArray 35 (0, 0))) (hs : s ≤ e) (he : e ≤ g) (hl : l.length = n) (hn : n ≤ 1000) (h0 : 0 < n) : Lie (RE (.slice (some ⟨g, 0, none⟩) n n) l) s (g + 1) W :=
 ⟨stab_RE _ _, by omega, by have := lt_of_block hb; omega, (row_blk0 hE hb hs he hl hn h0).2⟩
theorem mkE_row {op : Nat} {v : Value} {l : List TE} (h : Lie (RE v l) s e W) (hop : op ≤ 17) (h14 : op ≠ 14) : Lie (XE (mkE op l) v (.slice none 0 0) (.slice none 0 0)) s e W :=
 ⟨stab_XE _ _ _ _, h.le, h.lt, ⟨⟨hop, by decide, by decide⟩, h.at', nil_sl, nil_sl⟩, fun h1 => absurd h1 h14⟩
theorem leaf_lie {op : Nat} {num : Int} {text : ByteArray} (hs : s ≤ e) (he : e ≤ W.heap.size) (hop : op ≤ 17) (h14 : op ≠ 14) (h0 : 0 ≤ num) (h1 : num ≤ 9223372036854775807) : Lie (XE (.mk op num text [] [] []) (.slice none 0 0) (.slice none 0 0) (.slice none 0 0)) s e W :=
 ⟨stab_XE _ _ _ _, hs, he, ⟨⟨hop, h0, h1⟩, nil_sl, nil_sl, nil_sl⟩, fun h1 => absurd h1 h14⟩
theorem fn_lie {vn vb : Value} {ps : List ByteArray} {b : List TS} (h1 : Lie (RN vn ps) s e W) (h2 : Lie (RS vb b) s e W) : Lie (XE (.mk 17 0 ⟨#[]⟩ [] ps b) (.slice none 0 0) vn vb) s e W :=
 ⟨stab_XE _ _ _ _, h1.le, h1.lt, ⟨⟨by decide, by decide, by decide⟩, nil_sl, h1.at', h2.at'⟩, fun h => absurd h (by show (17 : Nat) ≠ 14; decide)⟩
theorem st_lie {kind : Nat} {name : ByteArray} {pos : Int} {vx vb ve : Value} {l : List TE} {b c : List TS} (hk : kind ≤ 8) (h1 : Lie (RE vx l) s e W) (h2 : Lie (RS vb b) s e W) (h3 : Lie (RS ve c) s e W) : Lie (XS (.mk kind name l b c pos) vx vb ve) s e W :=
 ⟨stab_XS _ _ _ _, h1.le, h1.lt, hk, h1.at', h2.at', h3.at'⟩
end
end Go.Proofs.YtenfphbhofibjaaGreatDoor
namespace Go.Proofs.YtenfphbhofibjaaGreatDoor
open Go.RowKit LM TM PM
theorem rcells {w : World} {base : Nat} {e : TypeId} {size g n cap : Nat} {xs : List Value} (h : w.ownsRow base e size (.slice (some ⟨g, 0, none⟩) n cap) n xs) : ∀ (j : Nat) (u : Value), xs[j]? = some u → w.cell? ⟨g, 0 + j, none⟩ = some u := fun j u hj => by
 have := h.cells (g := g) rfl j u hj
 by_cases h0 : j = 0
 ·subst h0; simpa [Addr.add] using this
 ·simpa [Addr.add, h0] using this
def restLen (w : World) (pb : Nat) : Nat := match w.cell? ⟨pb, 0, none⟩ with | some (.slice _ n _) => n | _ => 0
theorem restLen_of {w : World} {pb : Nat} {ts : List Tok} {d : Nat} (h : PAt w pb ts d) : restLen w pb = ts.length := by
 obtain ⟨g, o, cap, b0, b1, b2, b3, h⟩ := h
 have hb := h.blk
 simp [restLen, World.cell?, hb]
theorem own_gr {w w' : World} {bs pb : Nat} {e : TypeId} {size n : Nat} {v : Value} {cs : List Value} (h : w.ownsRow bs e size v n cs) (hg : w.grownBy w' (some pb)) (hp : pb < bs) : w'.ownsRow bs e size v n cs := by
 refine ⟨h.1, ?_⟩
 rcases h.2 with h0 | ⟨k, cap3, cu, hv3, hk, hh, r⟩
 ·exact .inl h0
 ·exact .inr ⟨k, cap3, cu, hv3, hk, (hg.block k (lt_of_block hh) (by simp; omega)).trans hh, r⟩
structure RowG (X : (Nat → Prop) → World → List Value → Prop) (ty : TypeId) (size bs n : Nat) (w : World) (v : Value) (cs : List Value) : Prop where
 own : w.ownsRow bs ty size v n cs
 els : X (fun k => bs ≤ k ∧ k < w.heap.size ∧ v.ownBlock ≠ some k) w cs
def StabX (X : (Nat → Prop) → World → List Value → Prop) : Prop := ∀ (P Q : Nat → Prop) (w w' : World) (cs : List Value), (∀ k, P k → Q k ∧ w'.heap[k]? = w.heap[k]?) → X P w cs → X Q w' cs
theorem RowG.gr {X : (Nat → Prop) → World → List Value → Prop} {ty : TypeId} {size bs n pb : Nat} {w w' : World} {v : Value} {cs : List Value} (h : RowG X ty size bs n w v cs) (hX : StabX X) (hg : w.grownBy w' (some pb)) (hp : pb < bs) : RowG X ty size bs n w' v cs :=
 ⟨own_gr h.own hg hp, hX _ _ _ _ _ (fun k hk => ⟨⟨hk.1, Nat.lt_of_lt_of_le hk.2.1 hg.size, hk.2.2⟩, hg.block k hk.2.1 (by have := hk.1; simp; omega)⟩) h.els⟩
def XSs (acc : List TS) (P : Nat → Prop) (w : World) (cs : List Value) : Prop := SsC P w acc cs
def XEs (acc : List TE) (P : Nat → Prop) (w : World) (cs : List Value) : Prop := EsC P w acc cs
def XNs (acc : List ByteArray) (P : Nat → Prop) (w : World) (cs : List Value) : Prop := cs = acc.map .string
theorem stab_XSs (acc : List TS) : StabX (XSs acc) := fun P Q w w' cs H h => SsC.kept H h
theorem stab_XEs (acc : List TE) : StabX (XEs acc) := fun P Q w w' cs H h => EsC.kept H h
theorem stab_XNs (acc : List ByteArray) : StabX (XNs acc) := fun P Q w w' cs H h => h
theorem RowG.nil_S (bs : Nat) (w : World) : RowG (XSs []) 30 6 bs 0 w (.slice none 0 0) [] := ⟨World.ownsRow_nil _ _ _ _, rfl⟩
theorem RowG.nil_E (bs : Nat) (w : World) : RowG (XEs []) 35 6 bs 0 w (.slice none 0 0) [] := ⟨World.ownsRow_nil _ _ _ _, rfl⟩
theorem RowG.nil_N (bs : Nat) (w : World) : RowG (XNs []) 9 1 bs 0 w (.slice none 0 0) [] := ⟨World.ownsRow_nil _ _ _ _, rfl⟩
theorem RowG.lie_S {bs n : Nat} {w : World} {v : Value} {acc : List TS} {cs : List Value} (h : RowG (XSs acc) 30 6 bs n w v cs) (hn : acc.length = n) (hb : bs ≤ w.heap.size) : Lie (RS v acc) bs w.heap.size w := by
 subst hn
 refine ⟨stab_RS _ _, hb, Nat.le_refl _, ?_⟩
 obtain ⟨ao, cap, rfl, h1, h2⟩ := row_shape h.own
 refine ⟨ao, cap, rfl, h1, h2, fun hn => ?_⟩
 obtain ⟨g, cap2, cur2, hv2, _, _, hbg, hblk⟩ := row_at h.own hn
 cases hv2
 exact ⟨g, 0, rfl, ⟨hbg, lt_of_block hblk⟩, SsC.at (cs := cs) (SsC.kept (fun k hk => ⟨⟨hk.1, hk.2.1⟩, rfl⟩) h.els) (rcells h.own)⟩
theorem RowG.lie_E {bs n : Nat} {w : World} {v : Value} {acc : List TE} {cs : List Value} (h : RowG (XEs acc) 35 6 bs n w v cs) (hn : acc.length = n) (hb : bs ≤ w.heap.size) : Lie (RE v acc) bs w.heap.size w := by
 subst hn
 refine ⟨stab_RE _ _, hb, Nat.le_refl _, ?_⟩
 obtain ⟨ao, cap, rfl, h1, h2⟩ := row_shape h.own
 refine ⟨ao, cap, rfl, h1, h2, fun hn => ?_⟩
 obtain ⟨g, cap2, cur2, hv2, _, _, hbg, hblk⟩ := row_at h.own hn
 cases hv2
 exact ⟨g, 0, rfl, ⟨hbg, lt_of_block hblk⟩, EsC.at (cs := cs) (EsC.kept (fun k hk => ⟨⟨hk.1, hk.2.1⟩, rfl⟩) h.els) (rcells h.own)⟩
theorem pstrAt_of {w : World} {g : Nat} : ∀ {acc : List ByteArray} {cs : List Value} {o : Nat}, cs = acc.map .string → (∀ j u, cs[j]? = some u → w.cell? ⟨g, o + j, none⟩ = some u) → StrAt w g o acc
 | [], cs, o, _, _ => trivial
 | x :: l, cs, o, h, hc => by
  subst h
  refine ⟨hc 0 _ rfl, pstrAt_of (cs := l.map .string) rfl fun j u hj => ?_⟩
  rw [show o + 1 + j = o + (j + 1) from by omega]
  exact hc (j + 1) u (by simpa using hj)
theorem RowG.lie_N {bs n : Nat} {w : World} {v : Value} {acc : List ByteArray} {cs : List Value} (h : RowG (XNs acc) 9 1 bs n w v cs) (hn : acc.length = n) (hb : bs ≤ w.heap.size) : Lie (RN v acc) bs w.heap.size w := by
 subst hn
 refine ⟨stab_RN _ _, hb, Nat.le_refl _, ?_⟩
 obtain ⟨ao, cap, rfl, h1, h2⟩ := row_shape h.own
 refine ⟨ao, cap, rfl, h1, h2, fun hn => ?_⟩
 obtain ⟨g, cap2, cur2, hv2, _, _, hbg, hblk⟩ := row_at h.own hn
 cases hv2
 exact ⟨g, 0, rfl, ⟨hbg, lt_of_block hblk⟩, pstrAt_of h.els (rcells h.own)⟩
theorem RowG.app {X Z : (Nat → Prop) → World → List Value → Prop} {ty : TypeId} {size bs n s pb : Nat} {w W W2 : World} {v v2 : Value} {cs new : List Value} {T : (Nat → Prop) → World → Prop} {o : Obj}
 (h : RowG X ty size bs n W v cs) (hX : StabX X) (hL : Lie T s W.heap.size W) (hbs : bs ≤ s) (hsv : ∀ k, v.ownBlock = some k → k < s) (hpb : pb < bs)
 (hown : W2.ownsRow bs ty size v2 (n + 1) (cs ++ new)) (hg : (W.alloc o).grownBy W2 v.ownBlock) (ho : v2.ownBlock = v.ownBlock ∨ v2.ownBlock = some (W.alloc o).heap.size)
 (hw : w.grownBy W (some pb)) (hwb : w.heap.size ≤ bs) (hj : ∀ (P : Nat → Prop), X P W2 cs → T P W2 → Z P W2 (cs ++ new)) : RowG Z ty size bs (n + 1) W2 v2 (cs ++ new) ∧ w.grownBy W2 (some pb) ∧ Below bs W W2 := by
 have hlt : ∀ k, v.ownBlock = some k → bs ≤ k ∧ k < W.heap.size := fun k hk => h.own.lt k hk
 have hs2 : W.heap.size + 1 ≤ W2.heap.size := by have := hg.size; simpa using this
 have hk2 : ∀ k, k < W.heap.size → v.ownBlock ≠ some k → W2.heap[k]? = W.heap[k]? := fun k hk hn => by
  rw [hg.block k (by simp; omega) (fun e1 => hn e1.symm), Below.heap_alloc _ _ _ hk]
 have hvo : ∀ k, v2.ownBlock = some k → v.ownBlock = some k ∨ W.heap.size ≤ k := fun k hk => by
  rcases ho with h1 | h1
  ·exact .inl (h1.symm.trans hk)
  ·rw [h1] at hk; cases hk; exact .inr (by simp)
 have hbel : Below bs W W2 := ⟨hg.os, hg.tape, hg.output, by omega, fun k hk => hk2 k (by have := hL.le; omega) (fun e1 => by have := (hlt k e1).1; omega)⟩
 refine ⟨⟨hown, hj _ (hX _ _ _ _ _ (fun k hk => ?_) h.els) (hL.st _ _ _ _ (fun k hk => ?_) hL.at')⟩, ⟨hg.os.trans hw.os, hg.tape.trans hw.tape, hg.output.trans hw.output, by have := hw.size; omega, fun k hk hn => ?_⟩, hbel⟩
 ·have h1 := hk.1
  have h2 := hk.2.1
  have h3 := hk.2.2
  refine ⟨⟨h1, by omega, fun e1 => ?_⟩, hk2 k h2 h3⟩
  rcases hvo k e1 with h5 | h5
  ·exact h3 h5
  ·omega
 ·have h1 : s ≤ k := hk.1
  have h2 : k < W.heap.size := hk.2
  refine ⟨⟨by omega, by omega, fun e1 => ?_⟩, hk2 k h2 (fun e1 => by have := hsv k e1; omega)⟩
  rcases hvo k e1 with h5 | h5
  ·have := hsv k h5; omega
  ·omega
 ·rw [hbel.block k (by omega), hw.block k hk hn]
theorem PAt.bel {w w' : World} {pb bs : Nat} {ts : List Tok} {d : Nat} (h : PAt w pb ts d) (hb : Below bs w w') (hp : pb < bs) : PAt w' pb ts d := h.kept fun k hk => hb.block k (by omega)
end Go.Proofs.YtenfphbhofibjaaGreatDoor

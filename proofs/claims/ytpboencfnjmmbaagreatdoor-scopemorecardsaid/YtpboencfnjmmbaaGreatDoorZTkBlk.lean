/-
 The maker's stmt: what it has behind its first switch, what its calls of stmts leave, and what it has at its end.
 Conditions: as each theorem says.
-/
import Derived.Test.YtpboencfnjmmbaaGreatDoorZTj
set_option linter.unusedVariables false
namespace Go.Proofs.YtpboencfnjmmbaaGreatDoor
open Go.RowKit TM
def nameS (kind : Nat) (x : XX) : ByteArray := if kind = 0 ∨ kind = 1 ∨ kind = 7 then nm x.s else ⟨#[]⟩
def manyS (kind : Nat) : Nat := if kind = 2 then 3 else if kind = 7 then 0 else 1
def valG (vp : Value) (mb gs : Nat) (D : Int) : Nat → Option Value
 | 0 => some (.pointer (some ⟨gs, 2, none⟩))
 | 1 => some vp
 | 2 => some (.pointer (some ⟨mb, 0, none⟩))
 | 3 => some (.int .i64 D)
 | 4 => some (.int .i64 (D - 1))
 | 8 => some (.pointer (some ⟨gs, 2, none⟩))
 | _ => none
structure MidS (w wc : World) (mb g4 gx gs kind : Nat) (name : ByteArray) (xd xa xn xs4 : Nat) (X : List XX) (L : Int) : Prop where
 box : wc.heap[gs]? = some (.cells #[.int .i64 (kind : Int), .string name, .slice none 0 0, .slice none 0 0, .slice none 0 0, .int .i64 0] 60 (0, 0))
 xb : wc.heap[gx]? = some (.cells #[.int .u8 (xd : Int), .int .u8 (xa : Int), .int .u16 (xn : Int), .int .u8 (xs4 : Int)] 69 (0, 0))
 mkr : MkAt wc mb X L
 res : wc.heap[g4]? = some (.cells #[.int .i64 0, .string ⟨#[]⟩, .slice none 0 0, .slice none 0 0, .slice none 0 0, .int .i64 0] 60 (0, 0))
 gr : w.grownBy wc (some mb)
theorem MidS.later {w W W2 : World} {mb g4 gx gs kind : Nat} {name : ByteArray} {xd xa xn xs4 : Nat} {X : List XX} {L : Int} (h : MidS w W mb g4 gx gs kind name xd xa xn xs4 X L) (hb : Below W.heap.size W W2) : MidS w W2 mb g4 gx gs kind name xd xa xn xs4 X L :=
 ⟨(hb.block gs (lt_of_block h.box)).trans h.box, (hb.block gx (lt_of_block h.xb)).trans h.xb, h.mkr.below hb, (hb.block g4 (lt_of_block h.res)).trans h.res, grown_below h.gr hb⟩
theorem MidS.set {w W : World} {mb g4 gx gs kind kind2 : Nat} {name name2 : ByteArray} {xd xa xn xs4 : Nat} {X : List XX} {L : Int} {i : Nat} {v : Value} (h : MidS w W mb g4 gx gs kind name xd xa xn xs4 X L) (hm : mb < g4) (h4 : g4 < gx) (hx : gx < gs) (hw : w.heap.size ≤ g4)
 (hv : (#[.int .i64 (kind : Int), .string name, .slice none 0 0, .slice none 0 0, .slice none 0 0, .int .i64 0] : Array Value).setIfInBounds i v = #[.int .i64 (kind2 : Int), .string name2, .slice none 0 0, .slice none 0 0, .slice none 0 0, .int .i64 0]) : MidS w (W.setCell ⟨gs, i, none⟩ v) mb g4 gx gs kind2 name2 xd xa xn xs4 X L := by
 have ho : ∀ k, k ≠ gs → (W.setCell ⟨gs, i, none⟩ v).heap[k]? = W.heap[k]? := fun k hk => Below.heap_setCell _ _ _ _ hk
 have hs : (W.setCell ⟨gs, i, none⟩ v).heap.size = W.heap.size := by simp [World.setCell]
 refine ⟨?_, (ho gx (by omega)).trans h.xb, h.mkr.kept fun k hk => ho k (by omega), (ho g4 (by omega)).trans h.res, ⟨h.gr.os, h.gr.tape, h.gr.output, by rw [hs]; exact h.gr.size, fun k hk hn => (ho k (by omega)).trans (h.gr.block k hk hn)⟩⟩
 rw [setF h.box, hv]
theorem MidS.name {w W : World} {mb g4 gx gs kind : Nat} {name : ByteArray} {xd xa xn xs4 : Nat} {X : List XX} {L : Int} (h : MidS w W mb g4 gx gs kind name xd xa xn xs4 X L) (hm : mb < g4) (h4 : g4 < gx) (hx : gx < gs) (hw : w.heap.size ≤ g4) (t : ByteArray) : MidS w (W.setCell ⟨gs, 1, none⟩ (.string t)) mb g4 gx gs kind t xd xa xn xs4 X L := h.set hm h4 hx hw rfl
def SlS (a : Nat) (W : World) (v : Value) (l : List TS) : Prop := SlAt (Fresh a W.heap.size) v l.length (fun g o => SsAt (Fresh a W.heap.size) W g o l)
theorem SlS.up {a mb : Nat} {W W' : World} {v : Value} {l : List TS} (h : SlS a W v l) (hg : W.grownBy W' (some mb)) (hm : mb < a) : SlS a W' v l := by
 have hk : ∀ k, Fresh a W.heap.size k → Fresh a W'.heap.size k ∧ W'.heap[k]? = W.heap[k]? := fun k hk => ⟨⟨hk.1, Nat.lt_of_lt_of_le hk.2 hg.size⟩, hg.block k hk.2 (fun e => by have h9 : k = mb := Option.some.inj e; have := hk.1; omega)⟩
 exact h.imp (fun k q => (hk k q).1) fun g o hP hA => SsAt.kept hk l hP hA
theorem SlS.on {a : Nat} {W W' : World} {v : Value} {l : List TS} (h : SlS a W v l) (hs : W'.heap.size = W.heap.size) (ho : ∀ k, a ≤ k → W'.heap[k]? = W.heap[k]?) : SlS a W' v l := by
 have hk : ∀ k, Fresh a W.heap.size k → Fresh a W'.heap.size k ∧ W'.heap[k]? = W.heap[k]? := fun k hk => ⟨⟨hk.1, by rw [hs]; exact hk.2⟩, ho k hk.1⟩
 exact h.imp (fun k q => (hk k q).1) fun g o hP hA => SsAt.kept hk l hP hA
theorem SlS.from {a b : Nat} {W : World} {v : Value} {l : List TS} (h : SlS b W v l) (hab : a ≤ b) : SlS a W v l :=
 h.imp (fun k hk => ⟨Nat.le_trans hab hk.1, hk.2⟩) fun g o hP hA => SsAt.kept (P := Fresh b W.heap.size) (fun k hk => ⟨⟨Nat.le_trans hab hk.1, hk.2⟩, rfl⟩) l hP hA
theorem SlS.nil (a : Nat) (W : World) : SlS a W (.slice none 0 0) [] := slNil _ _
structure U1 (wr : World) (mb : Nat) (X : List XX) (L : Int) (B : List TS) (u : Value) (W : World) : Prop where
 mkr : MkAt W mb X L
 gr : wr.grownBy W (some mb)
 bod : SlS wr.heap.size W u B
structure U2 (wr : World) (mb : Nat) (X : List XX) (L : Int) (B E : List TS) (u v : Value) (W : World) : Prop where
 mkr : MkAt W mb X L
 gr : wr.grownBy W (some mb)
 bod : SlS wr.heap.size W u B
 els : SlS wr.heap.size W v E
structure JB (wr : World) (mb gs : Nat) (X2 X3 : List XX) (L2 L3 : Int) (B E : List TS) (c1 c2 s1 s2 t1 t2 : Nat) (l : Nat → Bool) (a : Act) (W : World) : Prop where
 n0 : l c1 = false → W = wr.drew
 n1 : l c1 = true → l c2 = false → U1 wr mb X2 L2 B (a.eval (.tmp t1)) W
 n2 : l c2 = true → l s1 = false → U2 wr mb X3 L3 B E (a.eval (.tmp t1)) (a.eval (.tmp t2)) W
 n3 : l s1 = true → l s2 = false → ∃ u W2, U2 wr mb X3 L3 B E u (a.eval (.tmp t2)) W2 ∧ W = W2.setCell ⟨gs, 3, none⟩ u
 n4 : l s2 = true → ∃ u v W2, U2 wr mb X3 L3 B E u v W2 ∧ W = (W2.setCell ⟨gs, 3, none⟩ u).setCell ⟨gs, 4, none⟩ v
section
variable {wr W W' : World} {mb gs : Nat} {X2 X3 : List XX} {L2 L3 : Int} {B E : List TS} {c1 c2 s1 s2 t1 t2 : Nat} {l : Nat → Bool} {a : Act}
theorem JB.start (a : Act) : JB wr mb gs X2 X3 L2 L3 B E c1 c2 s1 s2 t1 t2 (fun _ => false) a wr.drew :=
 ⟨fun _ => rfl, fun h => by simp at h, fun h => by simp at h, fun h => by simp at h, fun h => by simp at h⟩
theorem JB.pure (h : JB wr mb gs X2 X3 L2 L3 B E c1 c2 s1 s2 t1 t2 l a W) {i d : Nat} {u : Value} (hi : c1 ≠ i ∧ c2 ≠ i ∧ s1 ≠ i ∧ s2 ≠ i) (hd : t1 ≠ d ∧ t2 ≠ d) : JB wr mb gs X2 X3 L2 L3 B E c1 c2 s1 s2 t1 t2 (more l i) (a.put (some d) u) W := by
 refine ⟨?_, ?_, ?_, ?_, ?_⟩
 all_goals simp only [more_ne _ hi.1, more_ne _ hi.2.1, more_ne _ hi.2.2.1, more_ne _ hi.2.2.2, eval_other hd.1, eval_other hd.2]
 ·exact h.n0
 ·exact h.n1
 ·exact h.n2
 ·exact h.n3
 ·exact h.n4
theorem JB.old (h : JB wr mb gs X2 X3 L2 L3 B E c1 c2 s1 s2 t1 t2 l a W) {k : Nat} (hk : k < wr.heap.size) (hm : k ≠ mb) (hg : k ≠ gs) : W.heap[k]? = wr.heap[k]? := by
 have hn : some k ≠ some mb := fun e => hm (Option.some.inj e)
 cases h1 : l c1 with
 | false => rw [h.n0 h1]; rfl
 | true =>
  cases h2 : l c2 with
  | false => exact (h.n1 h1 h2).gr.block k hk hn
  | true =>
   cases h3 : l s1 with
   | false => exact (h.n2 h2 h3).gr.block k hk hn
   | true =>
    cases h4 : l s2 with
    | false =>
     obtain ⟨u, W2, q1, rfl⟩ := h.n3 h3 h4
     rw [Below.heap_setCell _ _ _ _ hg]
     exact q1.gr.block k hk hn
    | true =>
     obtain ⟨u, v, W2, q1, rfl⟩ := h.n4 h4
     rw [Below.heap_setCell _ _ _ _ hg, Below.heap_setCell _ _ _ _ hg]
     exact q1.gr.block k hk hn
theorem JB.call1 (h : JB wr mb gs X2 X3 L2 L3 B E c1 c2 s1 s2 t1 t2 l a W) (h2 : l c2 = false) (h3 : l s1 = false) (h4 : l s2 = false) (hne : c2 ≠ c1 ∧ s1 ≠ c1 ∧ s2 ≠ c1) (hd : t1 < a.tmps.size) {u : Value} (hU : U1 wr mb X2 L2 B u W') : JB wr mb gs X2 X3 L2 L3 B E c1 c2 s1 s2 t1 t2 (more l c1) (a.put (some t1) u) W' := by
 refine ⟨fun q => ?_, fun _ _ => ?_, fun q => ?_, fun q => ?_, fun q => ?_⟩
 ·rw [more_self] at q; cases q
 ·rw [eval_put _ _ _ _ hd, if_pos rfl]; exact hU
 ·rw [more_ne _ hne.1, h2] at q; cases q
 ·rw [more_ne _ hne.2.1, h3] at q; cases q
 ·rw [more_ne _ hne.2.2, h4] at q; cases q
theorem JB.call2 (h : JB wr mb gs X2 X3 L2 L3 B E c1 c2 s1 s2 t1 t2 l a W) (h1 : l c1 = true) (h3 : l s1 = false) (h4 : l s2 = false) (hne : c1 ≠ c2 ∧ s1 ≠ c2 ∧ s2 ≠ c2) (ht : t1 ≠ t2) (hd : t2 < a.tmps.size) {v : Value} (hU : U2 wr mb X3 L3 B E (a.eval (.tmp t1)) v W') : JB wr mb gs X2 X3 L2 L3 B E c1 c2 s1 s2 t1 t2 (more l c2) (a.put (some t2) v) W' := by
 refine ⟨fun q => ?_, fun _ q => ?_, fun _ _ => ?_, fun q => ?_, fun q => ?_⟩
 ·rw [more_ne _ hne.1, h1] at q; cases q
 ·rw [more_self] at q; cases q
 ·rw [eval_other ht, eval_put _ _ _ _ hd, if_pos rfl]; exact hU
 ·rw [more_ne _ hne.2.1, h3] at q; cases q
 ·rw [more_ne _ hne.2.2, h4] at q; cases q
theorem JB.put1 (h1 : l c1 = true) (h2 : l c2 = true) (h4 : l s2 = false) (hne : c1 ≠ s1 ∧ c2 ≠ s1 ∧ s2 ≠ s1) {u : Value} (hU : U2 wr mb X3 L3 B E u (a.eval (.tmp t2)) W) : JB wr mb gs X2 X3 L2 L3 B E c1 c2 s1 s2 t1 t2 (more l s1) a (W.setCell ⟨gs, 3, none⟩ u) := by
 refine ⟨fun q => ?_, fun _ q => ?_, fun _ q => ?_, fun _ _ => ⟨u, W, hU, rfl⟩, fun q => ?_⟩
 ·rw [more_ne _ hne.1, h1] at q; cases q
 ·rw [more_ne _ hne.2.1, h2] at q; cases q
 ·rw [more_self] at q; cases q
 ·rw [more_ne _ hne.2.2, h4] at q; cases q
theorem JB.put2 (h1 : l c1 = true) (h2 : l c2 = true) (h3 : l s1 = true) (hne : c1 ≠ s2 ∧ c2 ≠ s2 ∧ s1 ≠ s2) {u v : Value} {W2 : World} (hU : U2 wr mb X3 L3 B E u v W2) : JB wr mb gs X2 X3 L2 L3 B E c1 c2 s1 s2 t1 t2 (more l s2) a ((W2.setCell ⟨gs, 3, none⟩ u).setCell ⟨gs, 4, none⟩ v) := by
 refine ⟨fun q => ?_, fun _ q => ?_, fun _ q => ?_, fun _ q => ?_, fun _ => ⟨u, v, W2, hU, rfl⟩⟩
 ·rw [more_ne _ hne.1, h1] at q; cases q
 ·rw [more_ne _ hne.2.1, h2] at q; cases q
 ·rw [more_ne _ hne.2.2, h3] at q; cases q
 ·rw [more_self] at q; cases q
end
theorem Kb.of {wr W : World} {mb gs : Nat} (h : wr.grownBy W (some mb)) : Kb mb gs wr W :=
 ⟨h.os, h.tape, h.output, h.size, fun k hk h1 _ => h.block k hk (fun e => h1 (Option.some.inj e))⟩
theorem Kb.set {wr W : World} {mb gs i : Nat} {v : Value} (h : Kb mb gs wr W) : Kb mb gs wr (W.setCell ⟨gs, i, none⟩ v) :=
 ⟨h.os, h.tape, h.output, by simpa [World.setCell] using h.size, fun k hk h1 h2 => (Below.heap_setCell _ _ _ _ h2).trans (h.keep k hk h1 h2)⟩
theorem fin_stmt {w wc wr wz W' : World} {mb g4 gx gs kind n capr : Nat} {name : ByteArray} {xd xa xn xs4 : Nat} {X2 X : List XX} {L2 L : Int} {vb ve : Value} {ao : Option Addr} {cs : List Value} {es : List TE} {B E : List TS}
 (hmid : MidS w wc mb g4 gx gs kind name xd xa xn xs4 X2 L2) (hrow : wr.ownsRow wc.heap.size 65 6 (.slice ao n capr) n cs) (hes : EsC (fun k => wc.heap.size ≤ k ∧ k < wr.heap.size ∧ (Value.slice ao n capr).ownBlock ≠ some k) wr es cs) (hlen : es.length = n) (hkb : Kb mb gs wc wr) (hkz : Kb mb gs wr wz) (hmk : MkAt wz mb X L)
 (hb : SlS wr.heap.size wz vb B) (he : SlS wr.heap.size wz ve E)
 (hW : ∀ k, k ≠ g4 → W'.heap[k]? = wz.heap[k]?) (hs : W'.heap.size = wz.heap.size) (ho : W'.os = wz.os) (ht : W'.tape = wz.tape) (hu : W'.output = wz.output) (hm4 : mb < g4) (hw4 : w.heap.size ≤ g4) (h4x : g4 < gs) (hkd : kind ≤ 8) :
 MkAt W' mb X L ∧ w.grownBy W' (some mb) ∧ SIn (Fresh w.heap.size W'.heap.size) W' (.mk kind name es B E 0) (.slice ao n capr) vb ve := by
 have hgx : gs < wc.heap.size := lt_of_block hmid.box
 have hsz := hkb.size
 have hszz := hkz.size
 have hgw := hmid.gr.size
 have hnew : ∀ k, Fresh wr.heap.size wz.heap.size k → Fresh w.heap.size W'.heap.size k ∧ W'.heap[k]? = wz.heap[k]? := fun k hk => ⟨⟨by have := hk.1; omega, by rw [hs]; exact hk.2⟩, hW k (by have := hk.1; omega)⟩
 refine ⟨hmk.kept fun k hk => hW k (by omega), ⟨ho.trans (hkz.os.trans (hkb.os.trans hmid.gr.os)), ht.trans (hkz.tape.trans (hkb.tape.trans hmid.gr.tape)), hu.trans (hkz.output.trans (hkb.output.trans hmid.gr.output)), by omega, fun k hk hn => ?_⟩, hkd, ?_, ?_, ?_⟩
 ·have hkm : k ≠ mb := fun e => hn (by rw [e])
  rw [hW k (by omega), hkz.keep k (by omega) hkm (by omega), hkb.keep k (by omega) hkm (by omega), hmid.gr.block k hk hn]
 ·obtain ⟨ao', cap', hv, h1, h2⟩ := row_shape hrow
  cases hv
  refine ⟨ao, capr, by rw [hlen], by rw [hlen]; exact h1, h2, fun hn => ?_⟩
  obtain ⟨g, cap2, cur2, hv2, _, _, hbg, hblk⟩ := row_at hrow (by omega)
  cases hv2
  have hgl := lt_of_block hblk
  have hkk : ∀ k, wc.heap.size ≤ k → k < wr.heap.size → W'.heap[k]? = wr.heap[k]? := fun k h1 h2 => (hW k (by omega)).trans (hkz.keep k h2 (by omega) (by omega))
  refine ⟨g, 0, rfl, ⟨by omega, by omega⟩, EsC.at (cs := cs) (EsC.kept (fun k hk => ⟨⟨by have := hk.1; omega, by have := hk.2.1; omega⟩, hkk k hk.1 hk.2.1⟩) hes) fun j u hj => ?_⟩
  rw [cell_kept (hkk g hbg hgl)]
  exact row_cells hrow j u hj
 ·exact hb.imp (fun k hk => (hnew k hk).1) fun g o hg hA => SsAt.kept hnew B hg hA
 ·exact he.imp (fun k hk => (hnew k hk).1) fun g o hg hA => SsAt.kept hnew E hg hA
end Go.Proofs.YtpboencfnjmmbaaGreatDoor

/-
 PaClo, PaKnot, joined.
 Conditions: as each theorem says.
-/
import Derived.Test.YtenfphbhofibjaaGreatDoorZPbI
import Derived.Test.YtenfphbhofibjaaGreatDoorZPbG
import Derived.Test.YtenfphbhofibjaaGreatDoorZPbF
set_option maxRecDepth 100000
set_option maxHeartbeats 4000000
set_option linter.unusedVariables false
set_option linter.unusedSimpArgs false
namespace Go.Proofs.YtenfphbhofibjaaGreatDoor
open Go.RowKit LM TM PM
def sixO (w : World) (g o : Nat) (a b c d e f : Value) : World := (((((w.setCell ⟨g, o, none⟩ a).setCell ⟨g, o + 1, none⟩ b).setCell ⟨g, o + 2, none⟩ c).setCell ⟨g, o + 3, none⟩ d).setCell ⟨g, o + 4, none⟩ e).setCell ⟨g, o + 5, none⟩ f
theorem sixO_block {w : World} {g o : Nat} {a b c d e f : Value} {cs : Array Value} {t : TypeId} (h : w.heap[g]? = some (.cells cs t (0, 0))) : (sixO w g o a b c d e f).heap[g]? = some (.cells ((((((cs.setIfInBounds o a).setIfInBounds (o + 1) b).setIfInBounds (o + 2) c).setIfInBounds (o + 3) d).setIfInBounds (o + 4) e).setIfInBounds (o + 5) f) t (0, 0)) := by
 unfold sixO
 exact blk_set (blk_set (blk_set (blk_set (blk_set (blk_set h)))))
theorem set_six (l : List Value) (z0 z1 z2 z3 z4 z5 a b c d e f : Value) (o : Nat) (ho : l.length = o) : ((((((l ++ [z0, z1, z2, z3, z4, z5]).set o a).set (o + 1) b).set (o + 2) c).set (o + 3) d).set (o + 4) e).set (o + 5) f = l ++ [a, b, c, d, e, f] := by
 subst ho
 simp [List.set_append_right]
theorem row_set6 {w : World} {bs m : Nat} {ty : TypeId} {g cap : Nat} {cs : List Value} {z0 z1 z2 z3 z4 z5 a b c d e f : Value} (h : w.ownsRow bs ty 6 (.slice (some ⟨g, 0, none⟩) (m + 1) cap) (m + 1) (cs ++ [z0, z1, z2, z3, z4, z5])) (hc : cs.length = m * 6) : (sixO w g (m * 6) a b c d e f).ownsRow bs ty 6 (.slice (some ⟨g, 0, none⟩) (m + 1) cap) (m + 1) (cs ++ [a, b, c, d, e, f]) := by
 refine ⟨by simp [hc]; omega, .inr ?_⟩
 rcases h.2 with ⟨h0, _⟩ | ⟨g', cap', cur, he, h1, h2, h3, h4, h5, h6⟩
 ·cases h0
 ·cases he
  refine ⟨g, cap, _, rfl, h1, sixO_block h2, h3, h4, by simp [h5], ?_⟩
  simp only [Array.toList_setIfInBounds, List.take_set, h6]
  exact set_six _ _ _ _ _ _ _ _ _ _ _ _ _ _ hc
structure OnlyB (g : Nat) (w w' : World) : Prop where
 os : w'.os = w.os
 tape : w'.tape = w.tape
 output : w'.output = w.output
 size : w'.heap.size = w.heap.size
 oth : ∀ k, k ≠ g → w'.heap[k]? = w.heap[k]?
theorem onlyB_set (w : World) (g f : Nat) (v : Value) : OnlyB g w (w.setCell ⟨g, f, none⟩ v) := ⟨rfl, rfl, rfl, by simp [World.setCell], fun k hk => Below.heap_setCell _ _ _ _ hk⟩
theorem OnlyB.trans {g : Nat} {w w1 w2 : World} (h : OnlyB g w w1) (k : OnlyB g w1 w2) : OnlyB g w w2 := ⟨k.os.trans h.os, k.tape.trans h.tape, k.output.trans h.output, k.size.trans h.size, fun j hj => (k.oth j hj).trans (h.oth j hj)⟩
theorem onlyB_six (w : World) (g o : Nat) (a b c d e f : Value) : OnlyB g w (sixO w g o a b c d e f) :=
 (((((onlyB_set w g o a).trans (onlyB_set _ g _ b)).trans (onlyB_set _ g _ c)).trans (onlyB_set _ g _ d)).trans (onlyB_set _ g _ e)).trans (onlyB_set _ g _ f)
theorem OnlyB.gr {g : Nat} {w W W' : World} {r : Option Nat} (h : OnlyB g W W') (k : w.grownBy W r) (hg : w.heap.size ≤ g) : w.grownBy W' r :=
 ⟨h.os.trans k.os, h.tape.trans k.tape, h.output.trans k.output, by rw [h.size]; exact k.size, fun j hj hn => (h.oth j (by omega)).trans (k.block j hj hn)⟩
theorem OnlyB.bel {g b : Nat} {w W W' : World} (h : OnlyB g W W') (k : Below b w W) (hg : b ≤ g) : Below b w W' :=
 ⟨h.os.trans k.os, h.tape.trans k.tape, h.output.trans k.output, by rw [h.size]; exact k.size, fun j hj => (h.oth j (by omega)).trans (k.block j hj)⟩
theorem OnlyB.pat {g pb d : Nat} {W W' : World} {ts : List Tok} (h : OnlyB g W W') (k : PAt W pb ts d) (hg : pb < g) : PAt W' pb ts d := k.kept fun j hj => h.oth j (by omega)
theorem OnlyB.own {g bs : Nat} {W W' : World} {ty : TypeId} {size n k cap : Nat} {cs : List Value} (h : OnlyB g W W') (o : W.ownsRow bs ty size (.slice (some ⟨k, 0, none⟩) n cap) n cs) (hk : k ≠ g) : W'.ownsRow bs ty size (.slice (some ⟨k, 0, none⟩) n cap) n cs := by
 refine ⟨o.1, ?_⟩
 rcases o.2 with h0 | ⟨k2, cap3, cu, hv3, h1, hh, r⟩
 ·exact .inl h0
 ·cases hv3
  exact .inr ⟨k, cap, cu, rfl, h1, (h.oth k hk).trans hh, r⟩
def zero6 : List Value := [.int .i64 0, .int .i64 0, .string ⟨#[]⟩, .slice none 0 0, .slice none 0 0, .slice none 0 0]
structure WB (F : PR TE) (xs : List TE) (w0 wr : World) (pb d gl s n bs : Nat) (O : Nat → Option Obj) (cs : List Value) (y : TE) (ts' : List Tok) (va vb vc : Value) (g cap : Nat) (c6 : List Value) (vbox : Value) (W : World) : Prop where
 eq : F = .ok y ts'
 pat : PAt W pb ts' d
 box : W.heap[gl]? = some (.cells #[vbox] 28 (0, 0))
 oth : ∀ k o, O k = some o → W.heap[k]? = some o
 own : W.ownsRow bs 35 6 (.slice (some ⟨g, 0, none⟩) (xs.length + 1) cap) (xs.length + 1) (cs ++ c6)
 ngl : g ≠ gl
 els : EsC (fun k => QW s n gl k ∧ k < W.heap.size ∧ k ≠ g) W xs cs
 new : EIn (fun k => QW s n gl k ∧ k < W.heap.size ∧ k ≠ g) W y va vb vc
 gr : w0.grownBy W (some pb)
 bel : Below pb wr W
section
variable {F : PR TE} {xs : List TE} {w0 wr : World} {pb d gl s n bs : Nat} {O : Nat → Option Obj} {cs : List Value} {y : TE} {ts' : List Tok} {va vb vc : Value} {g cap : Nat} {c6 c6' : List Value} {vbox vbox' : Value} {W W' : World}
theorem WB.row (h : WB F xs w0 wr pb d gl s n bs O cs y ts' va vb vc g cap c6 vbox W) (ho : OnlyB g W W') (hown : W'.ownsRow bs 35 6 (.slice (some ⟨g, 0, none⟩) (xs.length + 1) cap) (xs.length + 1) (cs ++ c6')) (hpb : pb < w0.heap.size) (hbs : w0.heap.size ≤ bs) (hO : ∀ k o, O k = some o → w0.heap.size ≤ k ∧ k < bs ∧ k ≠ gl) : WB F xs w0 wr pb d gl s n bs O cs y ts' va vb vc g cap c6' vbox W' := by
 have hg := (h.own.lt g rfl).1
 have hk : ∀ k, (QW s n gl k ∧ k < W.heap.size ∧ k ≠ g) → (QW s n gl k ∧ k < W'.heap.size ∧ k ≠ g) ∧ W'.heap[k]? = W.heap[k]? := fun k hk => ⟨⟨hk.1, by rw [ho.size]; exact hk.2.1, hk.2.2⟩, ho.oth k hk.2.2⟩
 exact ⟨h.eq, ho.pat h.pat (by omega), (ho.oth gl (fun e => h.ngl e.symm)).trans h.box, fun k o hk => (ho.oth k (by have := (hO k o hk).2.1; omega)).trans (h.oth k o hk), hown, h.ngl, EsC.kept hk h.els, EIn.kept hk _ h.new, ho.gr h.gr (by omega), ho.bel h.bel (by omega)⟩
theorem WB.boxed (h : WB F xs w0 wr pb d gl s n bs O cs y ts' va vb vc g cap c6 vbox W) (ho : OnlyB gl W W') (hbox : W'.heap[gl]? = some (.cells #[vbox'] 28 (0, 0))) (hpb : pb < w0.heap.size) (hgl : w0.heap.size ≤ gl) (hO : ∀ k o, O k = some o → w0.heap.size ≤ k ∧ k < bs ∧ k ≠ gl) : WB F xs w0 wr pb d gl s n bs O cs y ts' va vb vc g cap c6 vbox' W' := by
 have hk : ∀ k, (QW s n gl k ∧ k < W.heap.size ∧ k ≠ g) → (QW s n gl k ∧ k < W'.heap.size ∧ k ≠ g) ∧ W'.heap[k]? = W.heap[k]? := fun k hk => ⟨⟨hk.1, by rw [ho.size]; exact hk.2.1, hk.2.2⟩, ho.oth k hk.1.2.2⟩
 exact ⟨h.eq, ho.pat h.pat (by omega), hbox, fun k o hk => (ho.oth k (hO k o hk).2.2).trans (h.oth k o hk), ho.own h.own h.ngl, h.ngl, EsC.kept hk h.els, EIn.kept hk _ h.new, ho.gr h.gr hgl, ho.bel h.bel (by omega)⟩
theorem WB.done {v : Value} (h : WB F xs w0 wr pb d gl s n bs O cs y ts' va vb vc g cap (sixE y va vb vc) (.slice (some ⟨g, 0, none⟩) (xs.length + 1) cap) W) : WithI (xs ++ [y]) w0 pb gl s n bs O W (.slice (some ⟨g, 0, none⟩) (xs.length + 1) cap) (cs ++ sixE y va vb vc) := by
 have hk : ∀ k, (QW s n gl k ∧ k < W.heap.size ∧ k ≠ g) → (QW s n gl k ∧ k < W.heap.size ∧ (Value.slice (some ⟨g, 0, none⟩) (xs.length + 1) cap).ownBlock ≠ some k) ∧ W.heap[k]? = W.heap[k]? := fun k hk => ⟨⟨hk.1, hk.2.1, by have := hk.2.2; simp [Value.ownBlock]; omega⟩, rfl⟩
 refine ⟨h.box, h.oth, by simpa using h.own, by have := h.ngl; simp [Value.ownBlock]; omega, EsC.snoc (EIn.kept hk _ h.new) (EsC.kept hk h.els), h.gr⟩
end
structure JW (F : PR TE) (xs : List TE) (w0 wr : World) (pb d gl s n bs : Nat) (O : Nat → Option Obj) (tk : List Tok) (v0 : Value) (cs : List Value) (L : Nat → Bool) (a : Act) (W : World) : Prop where
 A : L 5 = false → wr.grownBy W (some pb) ∧ (L 2 = false → PAt W pb tk d) ∧ (L 2 = true → ∃ y ts' va vb vc, F = .ok y ts' ∧ a.eval (.tmp 4) = exV y va vb vc ∧ Lie (XE y va vb vc) wr.heap.size W.heap.size W ∧ PAt W pb ts' d) ∧ (L 4 = true → ∃ z, a.eval (.tmp 6) = .slice (some ⟨z, 0, none⟩) 1 1 ∧ wr.heap.size ≤ z ∧ W.heap[z]? = some (.cells zero6.toArray 35 (0, 0)))
 B : L 5 = true → ∃ y ts' va vb vc g cap, a.eval (.tmp 4) = exV y va vb vc ∧ a.eval (.tmp 7) = .slice (some ⟨g, 0, none⟩) (xs.length + 1) cap ∧ (L 6 = true → a.eval (.tmp 8) = .pointer (some ⟨g, xs.length * 6, none⟩)) ∧ WB F xs w0 wr pb d gl s n bs O cs y ts' va vb vc g cap (if L 7 then sixE y va vb vc else zero6) (if L 8 then .slice (some ⟨g, 0, none⟩) (xs.length + 1) cap else v0) W
section
variable {F : PR TE} {xs : List TE} {w0 wr : World} {pb d gl s n bs : Nat} {O : Nat → Option Obj} {tk : List Tok} {v0 : Value} {cs : List Value} {L : Nat → Bool} {a : Act} {W W' : World}
theorem JW.pure (h : JW F xs w0 wr pb d gl s n bs O tk v0 cs L a W) {i e : Nat} {u : Value} (hi : i = 0 ∨ i = 1 ∨ i = 3) (he : e ≠ 4 ∧ e ≠ 6 ∧ e ≠ 7 ∧ e ≠ 8) : JW F xs w0 wr pb d gl s n bs O tk v0 cs (more L i) (a.put (some e) u) W := by
 have m2 : more L i 2 = L 2 := more_ne _ (by omega)
 have m4 : more L i 4 = L 4 := more_ne _ (by omega)
 have m5 : more L i 5 = L 5 := more_ne _ (by omega)
 have m6 : more L i 6 = L 6 := more_ne _ (by omega)
 have m7 : more L i 7 = L 7 := more_ne _ (by omega)
 have m8 : more L i 8 = L 8 := more_ne _ (by omega)
 have e4 : (a.put (some e) u).eval (.tmp 4) = a.eval (.tmp 4) := eval_other (by omega)
 have e6 : (a.put (some e) u).eval (.tmp 6) = a.eval (.tmp 6) := eval_other (by omega)
 have e7 : (a.put (some e) u).eval (.tmp 7) = a.eval (.tmp 7) := eval_other (by omega)
 have e8 : (a.put (some e) u).eval (.tmp 8) = a.eval (.tmp 8) := eval_other (by omega)
 refine ⟨?_, ?_⟩
 ·rw [m5, m2, m4, e4, e6]
  exact h.A
 ·rw [m5, m6, m7, m8, e4, e7, e8]
  exact h.B
theorem JW.start (hP : PAt wr pb tk d) (a : Act) : JW F xs w0 wr pb d gl s n bs O tk v0 cs (fun _ => false) a wr.drew :=
 ⟨fun _ => ⟨gr_drew (gr_refl _ _), fun _ => hP.drew, (fun h => by cases h), (fun h => by cases h)⟩, (fun h => by cases h)⟩
theorem with_app {y : TE} {ts' : List Tok} {va vb vc : Value} {z : Nat} (hI : WithI xs w0 pb gl s n bs O wr v0 cs) (hg : wr.grownBy W (some pb)) (hF : F = .ok y ts') (hL : Lie (XE y va vb vc) wr.heap.size W.heap.size W) (hp : PAt W pb ts' d) (hz : W.heap[z]? = some (.cells zero6.toArray 35 (0, 0)))
 (hs1 : pb < s) (hs2 : s ≤ w0.heap.size) (hn : n < w0.heap.size) (h1 : pb < w0.heap.size) (hgl : w0.heap.size ≤ gl) (hbs : w0.heap.size ≤ bs) (hbg : bs ≤ gl) (hO : ∀ k o, O k = some o → w0.heap.size ≤ k ∧ k < bs ∧ k ≠ gl) (hx : xs.length ≤ 100001) (ty : TypeId) :
 ∃ g cap W2, (Builtin.append_ #[28, 28] ty #[v0, .slice (some ⟨z, 0, none⟩) 1 1]).run Tryz.prog W = .ok (.slice (some ⟨g, 0, none⟩) (xs.length + 1) cap) W2 ∧ WB F xs w0 wr pb d gl s n bs O cs y ts' va vb vc g cap zero6 v0 W2 := by
 obtain ⟨i0, hi, hz0, hz1, hz2⟩ := info_parts infoExpr
 have hIc := hI.step hg (by omega) hs1 (by omega) (fun k o hk => by have := (hO k o hk).1; omega)
 have hsc : wr.heap.size ≤ W.heap.size := hg.size
 have hglr : gl < wr.heap.size := lt_of_block hI.box
 have hw0 : w0.heap.size ≤ wr.heap.size := hI.gr.size
 obtain ⟨v2, W2, hrun, r1, r2, r3⟩ := run_append_own2 (P := Tryz.prog) W bs 28 ty 35 i0 _ 6 104 Tryz.underlying28 hi hz0 hz1 hz2 rfl (by decide) v0 xs.length cs hIc.own ⟨z, 0, none⟩ 1 1 zero6 rfl (fun q u hq => by
  have hz' : zero6.toArray[q]? = some u := by simpa using hq
  by_cases h0 : q = 0
  ·subst h0; simp only [Addr.add, ↓reduceIte, World.cell?, hz]; exact hz'
  ·simp only [Addr.add, h0, ↓reduceIte, World.cell?, hz, Nat.zero_add]; exact hz') (by intro u hu; simp [zero6] at hu; rcases hu with rfl | rfl | rfl <;> rfl) (by decide) (by unfold maxLen; omega) (by omega) (by omega)
 obtain ⟨g, cap, cur, rfl, hc1, hc2, hbg2, hblk⟩ := row_at r1 (by omega)
 have hk2 : ∀ k, k < W.heap.size → v0.ownBlock ≠ some k → W2.heap[k]? = W.heap[k]? := fun k hk hn => r2.block k hk (fun e1 => hn e1.symm)
 have hvo : g = W.heap.size ∨ v0.ownBlock = some g := by
  rcases r3 with h3 | h3
  ·exact .inr h3.symm
  ·simp [Value.ownBlock] at h3; exact .inl h3
 have hlt : ∀ k, v0.ownBlock = some k → bs ≤ k ∧ k < wr.heap.size := fun k hk => hI.own.lt k hk
 have hbel : Below bs W W2 := ⟨r2.os, r2.tape, r2.output, r2.size, fun k hk => hk2 k (by omega) (fun e1 => by have := (hlt k e1).1; omega)⟩
 have hgg : g ≠ gl := by
  rcases hvo with h3 | h3
  ·omega
  ·intro e; subst e; exact hI.ngl h3
 refine ⟨g, cap, W2, hrun, hF, hp.bel hbel (by omega), (hk2 gl (by omega) hI.ngl).trans hIc.box, fun k o hk => (hbel.block k (hO k o hk).2.1).trans (hIc.oth k o hk), r1, hgg, EsC.kept (fun k hk => ?_) hIc.els, EIn.kept (fun k hk => ?_) _ hL.at'.1, ⟨r2.os.trans hIc.gr.os, r2.tape.trans hIc.gr.tape, r2.output.trans hIc.gr.output, by have := r2.size; have := hIc.gr.size; omega, fun k hk hn => (hbel.block k (by omega)).trans (hIc.gr.block k hk hn)⟩, (grown_to_below hg (by omega)).trans ⟨hbel.os, hbel.tape, hbel.output, hbel.size, fun k hk => hbel.block k (by omega)⟩⟩
 ·refine ⟨⟨hk.1, by have := r2.size; have := hk.2.1; omega, ?_⟩, hk2 k hk.2.1 hk.2.2⟩
  rcases hvo with h3 | h3
  ·have := hk.2.1; omega
  ·intro e; subst e; exact hk.2.2 h3
 ·have h5 : wr.heap.size ≤ k := hk.1
  have h6 : k < W.heap.size := hk.2
  have h7 : v0.ownBlock ≠ some k := fun e => by have := (hlt k e).2; omega
  refine ⟨⟨⟨by omega, by omega, by omega⟩, by have := r2.size; omega, ?_⟩, hk2 k h6 h7⟩
  rcases hvo with h3 | h3
  ·omega
  ·intro e; subst e; exact h7 h3
end
theorem layZ (W : World) : (Instr.buildSlice 28 1 #[(0, .agg #[.int .i64 0, .int .i64 0, .string ⟨#[]⟩, .slice none 0 0, .slice none 0 0, .slice none 0 0])]).run Tryz.prog W = .ok (.slice (some ⟨W.heap.size, 0, none⟩) 1 1) (W.alloc (.cells zero6.toArray 35)) := by
 go_simp
 try rfl
theorem st6O {W : World} {g o : Nat} {x0 x1 x2 x3 x4 x5 : Value} (r0 : W.cell? ⟨g, o, none⟩ = some x0) (r1 : W.cell? ⟨g, o + 1, none⟩ = some x1) (r2 : W.cell? ⟨g, o + 2, none⟩ = some x2) (r3 : W.cell? ⟨g, o + 3, none⟩ = some x3) (r4 : W.cell? ⟨g, o + 4, none⟩ = some x4) (r5 : W.cell? ⟨g, o + 5, none⟩ = some x5) (rf : ∀ i, W.frozen? ⟨g, i, none⟩ = false) (a b : Int) (c : ByteArray) (d e f : Option Addr) (dn dc en ec fn fc : Nat) :
 (Instr.storeAt 35 (.pointer (some ⟨g, o, none⟩)) (.agg #[.int .i64 a, .int .i64 b, .string c, .slice d dn dc, .slice e en ec, .slice f fn fc])).run Tryz.prog W = .ok () (sixO W g o (.int .i64 a) (.int .i64 b) (.string c) (.slice d dn dc) (.slice e en ec) (.slice f fn fc)) := by
 unfold sixO
 go_simp
theorem ixE {W : World} {g cap m : Nat} (hm : 0 < m) (hc : m + 1 ≤ cap) (hx : cap ≤ maxLen) (h2 : m ≤ 100001) : (Instr.indexAt 28 (.slice (some ⟨g, 0, none⟩) (m + 1) cap) (.int .i64 (m : Int))).run Tryz.prog W = .ok (.pointer (some ⟨g, m * 6, none⟩)) W := by
 have h6 : m * 6 ≠ 0 := by omega
 have hd : (⟨g, 0, none⟩ : Addr).add (m * 6) = ⟨g, m * 6, none⟩ := by simp [Addr.add, h6]
 go_simp
 intro h9
 omega
theorem withclo_ok {pb d gl gp bs s n : Nat} {E : List Tok → PR TE} (hOE : OkE pb d E) {w0 wr : World} {O : Nat → Option Obj} {xs : List TE} {v0 : Value} {cs : List Value} {tk : List Tok} (hI : WithI xs w0 pb gl s n bs O wr v0 cs) (hP : PAt wr pb tk d) (hG : GoodT tk) (hs1 : pb < s) (hs2 : s ≤ w0.heap.size) (hn : n < w0.heap.size) (h1 : pb < w0.heap.size) (hgl : w0.heap.size ≤ gl) (hbs : w0.heap.size ≤ bs) (hbg : bs ≤ gl) (hO : ∀ k o, O k = some o → w0.heap.size ≤ k ∧ k < bs ∧ k ≠ gl) (hOp : O gp = some (.cells #[.pointer (some ⟨pb, 0, none⟩)] 138 (0, 0))) (hx0 : 0 < xs.length) (hx : xs.length ≤ 100001) : Calls Tryz.prog 230 #[.pointer (some ⟨gl, 0, none⟩), .pointer (some ⟨gp, 0, none⟩)] wr fun en w' => RetI (E tk) wr pb d (fun y W => ∃ v cs, WithI (xs ++ [y]) w0 pb gl s n bs O W v cs) en w' := by
 obtain ⟨ao0, cap0, hv0, _⟩ := row_shape hI.own
 have hcl0 : cs.length = xs.length * 6 := hI.own.1
 obtain ⟨m, hm⟩ : ∃ m, xs.length = m := ⟨_, rfl⟩
 have hpl : pb < wr.heap.size := by have := hI.gr.size; omega
 have hgp : w0.heap.size ≤ gp := (hO _ _ hOp).1
 subst hv0
 have HI := Lib.hid hI
 have HBX : Hid (wr.heap[gl]? = some (.cells #[.slice ao0 m cap0] 28 (0, 0))) := by rw [← hm]; exact hI.box
 have HPX := Lib.hid (hI.oth _ _ hOp)
 have HP := Lib.hid hP
 have HGD := Lib.hid hG
 have HM := Lib.hid hm
 have HCL := Lib.hid hcl0
 have hm0 : 0 < m := by omega
 have hm1 : m ≤ 100001 := by omega
 clear hI hP hG hm hcl0
 go_enter Tryz.func230, Tryz.ntmps230
 go_wp2_with fail
 refine region_sh (fun | 0 => some (.slice ao0 m cap0) | 1 => some (.pointer (some ⟨pb, 0, none⟩)) | 3 => some (.int .i64 (m : Int)) | _ => none) (JW (E tk) xs w0 wr pb d gl s n bs O tk (.slice ao0 m cap0) cs) (by kernel_rfl) (by kernel_rfl) (by kernel_rfl) (JW.start HP.out _) ?_ ?_
 ·intro hon q hq L a1 W hC hl hBh hS hJ K hK
  have hqn : q < 9 := hq
  clear hq
  rcases (show q = 0 ∨ q = 1 ∨ q = 2 ∨ q = 3 ∨ q = 4 ∨ q = 5 ∨ q = 6 ∨ q = 7 ∨ q = 8 from by omega) with rfl | rfl | rfl | rfl | rfl | rfl | rfl | rfl | rfl
  ·have e0 := (eval_tmp a1 0).symm.trans ((hS.kept 0 (by kernel_rfl)).trans rfl)
   have n5 : L 5 = false := closed_not hC hl (i := 5) (j := 0) rfl (g := .data) (by simp) rfl
   have hbW : W.heap[gl]? = some (.cells #[.slice ao0 m cap0] 28 (0, 0)) := ((hJ.A n5).1.block gl (lt_of_block HBX.out) (by simp; omega)).trans HBX.out
   have hcl : W.cell? ⟨gl, 0, none⟩ = some (.slice ao0 m cap0) := by simp [World.cell?, hbW]
   refine wpOp_step rfl (fun K' hK' => ?_)
   go_simp
   exact hK' _ _ (hK _ _ (hS.put hon (i := 0) rfl rfl (fun u hu => by cases hu; rfl)) (hJ.pure (by decide) (by decide)))
  ·have e1 := (eval_tmp a1 1).symm.trans ((hS.kept 1 (by kernel_rfl)).trans rfl)
   have n2 : L 2 = false := closed_not hC hl (i := 2) (j := 1) rfl (g := .data) (by simp) rfl
   have n5 : L 5 = false := closed_not hC n2 (i := 5) (j := 2) rfl (g := .chain) (by simp) rfl
   have hbW : W.heap[gp]? = some (.cells #[.pointer (some ⟨pb, 0, none⟩)] 138 (0, 0)) := ((hJ.A n5).1.block gp (lt_of_block HPX.out) (by simp; omega)).trans HPX.out
   have hcl : W.cell? ⟨gp, 0, none⟩ = some (.pointer (some ⟨pb, 0, none⟩)) := by simp [World.cell?, hbW]
   refine wpOp_step rfl (fun K' hK' => ?_)
   go_simp
   exact hK' _ _ (hK _ _ (hS.put hon (i := 1) rfl rfl (fun u hu => by cases hu; rfl)) (hJ.pure (by decide) (by decide)))
  ·have e3 := (eval_tmp a1 3).symm.trans (hS.get hBh (i := 2) rfl 1 (by simp) rfl rfl rfl)
   have n5 : L 5 = false := closed_not hC hl (i := 5) (j := 2) rfl (g := .chain) (by simp) rfl
   obtain ⟨ja, jb, jc, jd⟩ := hJ.A n5
   have hWs := ja.size
   refine wpOp_callP (f := 141) (args := #[.pointer (some ⟨pb, 0, none⟩)]) (R := fun en WQ => Ret (E tk) W pb d (VE W) en WQ) rfl rfl (by simp [execOp, resolve, invoke, e3, go_sem]) (hOE _ _ (jb hl) HGD.out) ?_ ?_ (fun WQ => ret_out VE_o)
   ·intro v WQ hR
    obtain ⟨y, ts', va, vb, vc, q1, rfl, q3, q4, q5⟩ := ret_E hR
    refine hK _ _ (hS.put hon (i := 2) rfl rfl (fun u hu => by cases hu)) ⟨fun _ => ⟨gr_trans ja q5, fun h => ?_, fun _ => ⟨y, ts', va, vb, vc, q1, ?_, q3.wider hWs (Nat.le_refl _) (Nat.le_refl _), q4⟩, fun h => ?_⟩, fun h => ?_⟩
    ·rw [more_self] at h; cases h
    ·show (a1.put (some 4) _).eval (.tmp 4) = _
     rw [eval_put _ _ _ _ (by rw [hS.size]; exact (by decide : (4 : Nat) < 9)), if_pos rfl]
    ·obtain ⟨z, z1, z2, z3⟩ := jd (by rwa [more_ne _ (by decide)] at h)
     exact ⟨z, (eval_other (by decide)).trans z1, z2, (q5.block z (lt_of_block z3) (by simp; omega)).trans z3⟩
    ·rw [more_ne _ (by decide), n5] at h; cases h
   ·intro ch WQ hR
    obtain ⟨pa, pe, q1, rfl, q3⟩ := ret_panic VE_p hR
    exact ⟨hS.defers.trans rfl, reti_bad q1 ((grown_to_below ja (Nat.le_of_lt hpl)).trans q3)⟩
  ·have e2 := (eval_tmp a1 2).symm.trans (hS.get hBh (i := 3) rfl 0 (by simp) rfl rfl rfl)
   refine wpOp_step rfl (fun K' hK' => ?_)
   go_simp
   exact hK' _ _ (hK _ _ (hS.put hon (i := 3) rfl rfl (fun u hu => by cases hu; rfl)) (hJ.pure (by decide) (by decide)))
  ·have n5 : L 5 = false := closed_not hC hl (i := 5) (j := 4) rfl (g := .data) (by simp) rfl
   obtain ⟨ja, jb, jc, jd⟩ := hJ.A n5
   have hWs := ja.size
   refine wpOp_run rfl rfl (v := (.slice (some ⟨W.heap.size, 0, none⟩) 1 1)) (w' := W.alloc (.cells zero6.toArray 35)) (by simp [execOp, eval_const, layZ, Result.andThen]) (hK _ _ (hS.put hon (i := 4) rfl rfl (fun u hu => by cases hu)) ⟨fun _ => ⟨gr_alloc ja _, fun h => (jb (by rwa [more_ne _ (by decide)] at h)).alloc _, fun h => ?_, fun _ => ⟨W.heap.size, ?_, hWs, heap_alloc_new _ _⟩⟩, fun h => ?_⟩)
   ·obtain ⟨y, ts', va, vb, vc, q1, q2, q3, q4⟩ := jc (by rwa [more_ne _ (by decide)] at h)
    exact ⟨y, ts', va, vb, vc, q1, (eval_other (by decide)).trans q2, (q3.alloc _).wider (Nat.le_refl _) (by simp) (Nat.le_refl _), q4.alloc _⟩
   ·show (a1.put (some 6) _).eval (.tmp 6) = _
    rw [eval_put _ _ _ _ (by rw [hS.size]; exact (by decide : (6 : Nat) < 9)), if_pos rfl]
   ·rw [more_ne _ (by decide), n5] at h; cases h
  ·have d2 : L 2 = true := hBh _ rfl ⟨2, .chain⟩ (by simp) rfl
   have d4 : L 4 = true := hBh _ rfl ⟨4, .data⟩ (by simp) rfl
   have e2 := (hS.get hBh (i := 5) rfl 0 (by simp) rfl rfl rfl)
   obtain ⟨ja, jb, jc, jd⟩ := hJ.A hl
   obtain ⟨y, ts', va, vb, vc, q1, q2, q3, q4⟩ := jc d2
   obtain ⟨z, z1, z2, z3⟩ := jd d4
   obtain ⟨g, cap, WQ, hrun, hWB⟩ := with_app HI.out ja q1 q3 q4 z3 hs1 hs2 hn h1 hgl hbs hbg hO hx 28
   have n6 : L 6 = false := closed_not hC hl (i := 6) (j := 5) rfl (g := .data) (by simp) rfl
   have n7 : L 7 = false := closed_not hC n6 (i := 7) (j := 6) rfl (g := .data) (by simp) rfl
   have n8 : L 8 = false := closed_not hC hl (i := 8) (j := 5) rfl (g := .data) (by simp) rfl
   rw [HM.out] at hrun
   refine wpOp_run rfl rfl (v := .slice (some ⟨g, 0, none⟩) (m + 1) cap) (w' := WQ) (by simp [execOp, resolve, invoke, builtin, e2, z1, hrun, Result.andThen]) (hK _ _ (hS.put hon (i := 5) rfl rfl (fun u hu => by cases hu)) ⟨fun h => ?_, fun _ => ⟨y, ts', va, vb, vc, g, cap, (eval_other (by decide)).trans q2, ?_, fun h => ?_, ?_⟩⟩)
   ·rw [more_self] at h; cases h
   ·show (a1.put (some 7) _).eval (.tmp 7) = _
    rw [eval_put _ _ _ _ (by rw [hS.size]; exact (by decide : (7 : Nat) < 9)), if_pos rfl, HM.out]
   ·rw [more_ne _ (by decide), n6] at h; cases h
   ·rw [more_ne _ (by decide), more_ne _ (by decide), n7, n8, if_neg (by simp), if_neg (by simp), ← HM.out]
    exact hWB
  ·have d5 : L 5 = true := hBh _ rfl ⟨5, .data⟩ (by simp) rfl
   have e5 := (hS.get hBh (i := 6) rfl 3 (by simp) rfl rfl rfl)
   obtain ⟨y, ts', va, vb, vc, g, cap, q1, q2, q3, q4⟩ := hJ.B d5
   obtain ⟨ao9, cap9, hv9, hc9, hx9⟩ := row_shape q4.own
   cases hv9
   rw [HM.out] at q2 hc9
   refine wpOp_run rfl rfl (v := .pointer (some ⟨g, m * 6, none⟩)) (w' := W) (by simp [execOp, e5, q2, ixE hm0 hc9 hx9 hm1, Result.andThen]) (hK _ _ (hS.put hon (i := 6) rfl rfl (fun u hu => by cases hu)) ⟨fun h => ?_, fun _ => ⟨y, ts', va, vb, vc, g, cap, (eval_other (by decide)).trans q1, (eval_other (by decide)).trans (by rw [q2, HM.out]), fun _ => ?_, ?_⟩⟩)
   ·rw [more_ne _ (by decide), d5] at h; cases h
   ·show (a1.put (some 8) _).eval (.tmp 8) = _
    rw [eval_put _ _ _ _ (by rw [hS.size]; exact (by decide : (8 : Nat) < 9)), if_pos rfl, HM.out]
   ·rw [more_ne _ (by decide), more_ne _ (by decide)]
    exact q4
  ·have d5 : L 5 = true := hBh _ rfl ⟨5, .chain⟩ (by simp) rfl
   have d6 : L 6 = true := hBh _ rfl ⟨6, .data⟩ (by simp) rfl
   obtain ⟨y, ts', va, vb, vc, g, cap, q1, q2, q3, q4⟩ := hJ.B d5
   have q3' := q3 d6
   rw [hl, if_neg (by simp)] at q4
   have hcb : ∀ j u, zero6[j]? = some u → W.cell? ⟨g, xs.length * 6 + j, none⟩ = some u := fun j u hj => by
    have := rcells q4.own (xs.length * 6 + j) u (by rw [List.getElem?_append_right (by rw [HCL.out]; omega), HCL.out, Nat.add_sub_cancel_left]; exact hj)
    rwa [Nat.zero_add] at this
   obtain ⟨g2, cap2, cur2, hv2, _, _, hbg2, hblk⟩ := row_at q4.own (by omega)
   cases hv2
   have hfz : ∀ i, W.frozen? ⟨g, i, none⟩ = false := fun i => by simp [World.frozen?, hblk]
   obtain ⟨op1, num1, text1, ps1, pm1, bd1⟩ := y
   obtain ⟨_, ⟨pa1, pc1, rfl, _⟩, ⟨na1, nc1, rfl, _⟩, ⟨ba1, bc1, rfl, _⟩⟩ := q4.new
   have hown2 := row_set6 (a := .int .i64 (op1 : Int)) (b := .int .i64 num1) (c := .string text1) (d := .slice pa1 ps1.length pc1) (e := .slice na1 pm1.length nc1) (f := .slice ba1 bd1.length bc1) q4.own HCL.out
   have hst := st6O (o := xs.length * 6) (hcb 0 _ rfl) (hcb 1 _ rfl) (hcb 2 _ rfl) (hcb 3 _ rfl) (hcb 4 _ rfl) (hcb 5 _ rfl) hfz (op1 : Int) num1 text1 pa1 na1 ba1 ps1.length pc1 pm1.length nc1 bd1.length bc1
   have q4' := q4.row (onlyB_six W g (xs.length * 6) (.int .i64 (op1 : Int)) (.int .i64 num1) (.string text1) (.slice pa1 ps1.length pc1) (.slice na1 pm1.length nc1) (.slice ba1 bd1.length bc1)) hown2 h1 hbs hO
   refine wpOp_skip rfl rfl rfl (w' := sixO W g (xs.length * 6) (.int .i64 (op1 : Int)) (.int .i64 num1) (.string text1) (.slice pa1 ps1.length pc1) (.slice na1 pm1.length nc1) (.slice ba1 bd1.length bc1)) (by simp [execOp, q3', q1, exV, hst, Result.andThen]) (hK _ _ (hS.none (i := 7) rfl rfl) ⟨fun h => ?_, fun _ => ⟨_, ts', _, _, _, g, cap, q1, q2, fun _ => q3', ?_⟩⟩)
   ·rw [more_ne _ (by decide), d5] at h; cases h
   ·rw [more_self, if_pos rfl, more_ne _ (by decide)]
    exact q4'
  ·have d5 : L 5 = true := hBh _ rfl ⟨5, .data⟩ (by simp) rfl
   have e0 : a1.eval (.tmp 0) = .pointer (some ⟨gl, 0, none⟩) := ((hS.kept 0 (by kernel_rfl)).trans rfl)
   obtain ⟨y, ts', va, vb, vc, g, cap, q1, q2, q3, q4⟩ := hJ.B d5
   rw [hl] at q4
   have hbx := q4.box
   rw [if_neg (by simp)] at hbx
   have hc9 : W.cell? ⟨gl, 0, none⟩ = some (.slice ao0 m cap0) := by simp [World.cell?, hbx]
   have hf9 : W.frozen? ⟨gl, 0, none⟩ = false := by simp [World.frozen?, hbx]
   have q4' := q4.boxed (vbox' := .slice (some ⟨g, 0, none⟩) (xs.length + 1) cap) (onlyB_set W gl 0 (.slice (some ⟨g, 0, none⟩) (xs.length + 1) cap)) (by rw [blk_set q4.box]; rfl) h1 hgl hO
   refine wpOp_skip rfl rfl rfl (w' := W.setCell ⟨gl, 0, none⟩ (.slice (some ⟨g, 0, none⟩) (xs.length + 1) cap)) (by simp [execOp, e0, q2, st1E hc9 hf9, Result.andThen]) (hK _ _ (hS.none (i := 8) rfl rfl) ⟨fun h => ?_, fun _ => ⟨y, ts', va, vb, vc, g, cap, q1, q2, fun h => q3 (by rwa [more_ne _ (by decide)] at h), ?_⟩⟩)
   ·rw [more_ne _ (by decide), d5] at h; cases h
   ·rw [more_self, if_pos rfl, more_ne _ (by decide)]
    exact q4'
 ·intro L a1 wz hl hS hJ
  obtain ⟨y, ts', va, vb, vc, g, cap, q1, q2, q3, q4⟩ := hJ.B (hl 5 (by decide))
  rw [hl 7 (by decide), hl 8 (by decide), if_pos rfl, if_pos rfl] at q4
  have hfr := hS.frame [2, 3, 4, 5, 6, 7, 8] rfl
  obtain ⟨zz, hz⟩ : ∃ z : Nat → Value, z = fun k => a1.eval (.tmp k) := ⟨_, rfl⟩
  rw [← hz] at hfr
  rw [hfr]
  clear hfr hS hJ hl
  simp only [over, List.setIfInBounds_toArray, List.set_cons_zero, List.set_cons_succ]
  go_end0
  exact reti_ok q4.eq q4.pat ⟨_, _, q4.done (v := .slice none 0 0)⟩ q4.bel
def oneO (pb g k : Nat) : Option Obj := if k = g then some (.cells #[.pointer (some ⟨pb, 0, none⟩)] 138 (0, 0)) else none
theorem oneO_1 (pb g : Nat) : oneO pb g g = some (.cells #[.pointer (some ⟨pb, 0, none⟩)] 138 (0, 0)) := by simp [oneO]
theorem oneO_of {pb g k : Nat} {o : Obj} (h : oneO pb g k = some o) : k = g ∧ o = .cells #[.pointer (some ⟨pb, 0, none⟩)] 138 (0, 0) := by
 unfold oneO at h
 split at h
 ·next e => cases h; exact ⟨e, rfl⟩
 ·cases h
theorem four_blk {w : World} {a b c e : Obj} : ((((w.alloc a).alloc b).alloc c).alloc e).heap[w.heap.size]? = some a ∧ ((((w.alloc a).alloc b).alloc c).alloc e).heap[w.heap.size + 1]? = some b ∧ ((((w.alloc a).alloc b).alloc c).alloc e).heap[w.heap.size + 2]? = some c ∧ ((((w.alloc a).alloc b).alloc c).alloc e).heap[w.heap.size + 3]? = some e := by
 have h1 := heap_alloc_new w a
 have h2 := heap_alloc_new (w.alloc a) b
 have h3 := heap_alloc_new ((w.alloc a).alloc b) c
 have h4 := heap_alloc_new (((w.alloc a).alloc b).alloc c) e
 have s1 : (w.alloc a).heap.size = w.heap.size + 1 := by simp
 have s2 : ((w.alloc a).alloc b).heap.size = w.heap.size + 2 := by simp
 have s3 : (((w.alloc a).alloc b).alloc c).heap.size = w.heap.size + 3 := by simp
 rw [s1] at h2
 rw [s2] at h3
 rw [s3] at h4
 refine ⟨?_, ?_, ?_, h4⟩
 ·rw [Below.heap_alloc _ _ _ (by omega), Below.heap_alloc _ _ _ (by omega), Below.heap_alloc _ _ _ (by omega), h1]
 ·rw [Below.heap_alloc _ _ _ (by omega), Below.heap_alloc _ _ _ (by omega), h2]
 ·rw [Below.heap_alloc _ _ _ (by omega), h3]
theorem with_ok {pb d : Nat} {E : List Tok → PR TE} (hOE : OkE pb d E) (hE : Eats E) : OkW pb d E := by
 intro w ts x a b c s n hP hG hs1 hs2 hn hL
 have hpl := hP.lt
 obtain ⟨op0, num0, text0, ps0, pm0, bd0⟩ := x
 obtain ⟨pa0, pc0, na0, nc0, ba0, bc0, rfl, rfl, rfl⟩ := hL.at'.slices
 have HP := Lib.hid hP
 have HGD := Lib.hid hG
 have HL := Lib.hid hL
 clear hP hG hL
 simp only [exV]
 go_enter Tryz.func219, Tryz.ntmps219
 go_wp2_with fail
 obtain ⟨W1, hW1⟩ : ∃ W1, ((((w.alloc (.cells #[.pointer (some ⟨pb, 0, none⟩)] 138)).alloc (.cells #[.int .i64 (op0 : Int), .int .i64 num0, .string text0, .slice pa0 ps0.length pc0, .slice na0 pm0.length nc0, .slice ba0 bd0.length bc0] 35)).alloc (.cells #[.int .i64 (op0 : Int), .int .i64 num0, .string text0, .slice pa0 ps0.length pc0, .slice na0 pm0.length nc0, .slice ba0 bd0.length bc0] 35)).alloc (.cells #[.slice (some ⟨w.heap.size + 1 + 1, 0, none⟩) 1 1] 28)) = W1 := ⟨_, rfl⟩
 rw [hW1]
 have H1 : Hid (PAt W1 pb ts d) := by show PAt _ _ _ _; rw [← hW1]; exact (((HP.out.alloc _).alloc _).alloc _).alloc _
 have G1 : Hid (w.grownBy W1 (some pb)) := by show World.grownBy _ _ _; rw [← hW1]; exact gr_alloc (gr_alloc (gr_alloc (gr_alloc (gr_refl _ _) _) _) _) _
 have hsz : W1.heap.size = w.heap.size + 4 := by rw [← hW1]; simp
 have HI1 : Hid (WithI [(.mk op0 num0 text0 ps0 pm0 bd0)] w pb (w.heap.size + 1 + 1 + 1) s n (w.heap.size + 1 + 1) (oneO pb w.heap.size) W1 (.slice (some ⟨w.heap.size + 1 + 1, 0, none⟩) 1 1) (sixE (.mk op0 num0 text0 ps0 pm0 bd0) (.slice pa0 ps0.length pc0) (.slice na0 pm0.length nc0) (.slice ba0 bd0.length bc0))) := by
  have hk : ∀ k, k < w.heap.size → W1.heap[k]? = w.heap[k]? := fun k hk => by
   rw [← hW1, Below.heap_alloc _ _ _ (by simp; omega), Below.heap_alloc _ _ _ (by simp; omega), Below.heap_alloc _ _ _ (by simp; omega), Below.heap_alloc _ _ _ hk]
  obtain ⟨b1, b2, b3, b4⟩ := four_blk (w := w) (a := .cells #[.pointer (some ⟨pb, 0, none⟩)] 138) (b := .cells #[.int .i64 (op0 : Int), .int .i64 num0, .string text0, .slice pa0 ps0.length pc0, .slice na0 pm0.length nc0, .slice ba0 bd0.length bc0] 35) (c := .cells #[.int .i64 (op0 : Int), .int .i64 num0, .string text0, .slice pa0 ps0.length pc0, .slice na0 pm0.length nc0, .slice ba0 bd0.length bc0] 35) (e := .cells #[.slice (some ⟨w.heap.size + 1 + 1, 0, none⟩) 1 1] 28)
  rw [hW1] at b1 b2 b3 b4
  refine ⟨b4, fun k o hk1 => ?_, ⟨rfl, .inr ⟨w.heap.size + 1 + 1, 1, _, rfl, Nat.le_refl _, b3, Nat.le_refl _, by unfold maxLen; omega, rfl, rfl⟩⟩, by simp [Value.ownBlock], ⟨_, _, _, [], by simp, EIn.kept (fun k hk' => ⟨⟨⟨hk'.1, hk'.2.2, by have := hk'.2.1; omega⟩, by have := hk'.2.1; omega, by have := hk'.2.1; simp [Value.ownBlock]; omega⟩, hk k hk'.2.1⟩) _ HL.out.at'.1, rfl⟩, G1.out⟩
  ·obtain ⟨rfl, rfl⟩ := oneO_of hk1
   exact b1
 clear hW1
 refine (list_with (item := E) hE (pb := pb) (d := d) (c0 := .pointer (some ⟨w.heap.size + 1 + 1 + 1, 0, none⟩)) (c1 := .pointer (some ⟨w.heap.size, 0, none⟩)) (I := fun acc W => ∃ v cs, WithI ((.mk op0 num0 text0 ps0 pm0 bd0) :: acc) w pb (w.heap.size + 1 + 1 + 1) s n (w.heap.size + 1 + 1) (oneO pb w.heap.size) W v cs) sRP ?hst ?hstep H1.out HGD.out ⟨_, _, HI1.out⟩).mono ?_
 case hst =>
  rintro acc W W' ⟨v, cs, hI⟩ hg
  exact ⟨v, cs, hI.step hg (by omega) hs1 (by omega) (fun k o hk => by obtain ⟨rfl, _⟩ := oneO_of hk; omega)⟩
 case hstep =>
  rintro W tk acc hP9 hG9 ⟨v, cs, hI⟩ hn9
  refine (withclo_ok hOE hI hP9 hG9 hs1 hs2 hn hpl (by omega) (by omega) (by omega) (fun k o hk => by obtain ⟨rfl, _⟩ := oneO_of hk; omega) (oneO_1 _ _) (by simp) (by simp; omega)).mono ?_
  rintro en WQ hR
  rcases reti_cases hR with ⟨x, ts', q1, rfl, q2, ⟨v9, cs9, hB9⟩, q4⟩ | ⟨a, e, q1, rfl, q2⟩
  ·exact reti_ok q1 q2 ⟨v9, cs9, hB9⟩ q4
  ·exact reti_bad q1 q2
 rintro en W2 hR
 rcases reti_cases hR with ⟨l9, tsl, q1, rfl, q2, ⟨v9, cs9, hB9⟩, q4⟩ | ⟨a, e, q1, rfl, q2⟩
 ·have HQ1 := Lib.hid q1
  have HP2 := Lib.hid q2
  have HB9 := Lib.hid hB9
  obtain ⟨va, vc, hva, _⟩ := row_shape hB9.own
  subst hva
  have qh := hB9.box
  have q0 : W2.cell? ⟨w.heap.size + 1 + 1 + 1, 0, none⟩ = some (.slice va ((.mk op0 num0 text0 ps0 pm0 bd0) :: l9).length vc) := by simp [World.cell?, qh]
  generalize ((.mk op0 num0 text0 ps0 pm0 bd0) :: l9).length = nl at *
  have LN := Lib.hid (HB9.out.lie (fun k hk => by omega))
  clear hR q1 q2 q4 hB9 qh
  go_wp2_with fail
  go_ret
  exact ret_ok (x := (.mk op0 num0 text0 ps0 pm0 bd0) :: l9) (by rw [pWith, HQ1.out]; rfl) ⟨.slice va nl vc, rfl, LN.out⟩ HP2.out HB9.out.gr
 ·exact ⟨rfl, ret_bad (by rw [pWith, q1]; rfl) ((grown_to_below G1.out (Nat.le_of_lt hpl)).trans q2)⟩
end Go.Proofs.YtenfphbhofibjaaGreatDoor
namespace Go.Proofs.YtenfphbhofibjaaGreatDoor
open Go.RowKit LM TM PM
theorem chain_at {pb d : Nat} {E : List Tok → PR TE} {B : List Tok → PR (List TS)} (hW : OkW pb d E) (hO : OkE pb d E) (hE : Eats E) (hOB : OkB pb d B) (hB : Eats B) : OkC pb d (pChain E B) :=
 chain_ok (thing_ok hO hE hB (function_ok hOB hB) (record_ok hO hE)) (eats_thing hE hB) hO hE hW
theorem knot {pb : Nat} (hW : ∀ (d : Nat) (E : List Tok → PR TE), OkE pb d E → Eats E → OkW pb d E) : ∀ (n : Nat), n ≤ 20 → OkE pb (20 - n) (lev n).E ∧ OkB pb (20 - n) (lev n).B ∧ OkU pb (20 - n) (lev n).U
 | 0, _ => by
  have hE : OkE pb 20 (lev 0).E := expr_deep
  have hB : OkB pb 20 (lev 0).B := block_deep
  obtain ⟨e1, e2, e3⟩ := eats_lev 0
  exact ⟨hE, hB, unary_deep (chain_at (hW _ _ hE e1) hE e1 hB e2) (eats_chain e1 e2)⟩
 | n + 1, hn => by
  obtain ⟨h1, h2, h3⟩ := knot hW n (by omega)
  obtain ⟨e1, e2, e3⟩ := eats_lev n
  obtain ⟨k1, k2, k3⟩ := eats_lev (n + 1)
  have hd : 20 - n = (20 - (n + 1)) + 1 := by omega
  rw [hd] at h1 h2 h3
  have hE : OkE pb (20 - (n + 1)) (lev (n + 1)).E := expr_ok (binary0_ok (binary1_ok (binary2_ok (binary3_ok h3 e3) e3) (eats_bin e3 2)) (eats_bin (eats_bin e3 2) 1)) k1 (by omega)
  have hS : OkS pb (20 - (n + 1) + 1) (pStmt (lev n).E (lev n).B) := stmt_ok h1 e1 h2 e2 (simple_ok h1 e1)
  have hB : OkB pb (20 - (n + 1)) (lev (n + 1)).B := block_ok hS (eats_stmt e1 e2) (by omega)
  exact ⟨hE, hB, unary_ok (chain_at (hW _ _ hE k1) hE k1 hB k2) (eats_chain k1 k2) h3 e3 (by omega)⟩
theorem module_all {pb : Nat} (hW : ∀ (d : Nat) (E : List Tok → PR TE), OkE pb d E → Eats E → OkW pb d E) (w : World) (ts : List Tok) (hP : PAt w pb ts 0) (hG : GoodT ts) : Calls Tryz.prog 63 #[.pointer (some ⟨pb, 0, none⟩)] w fun en w' => Ret (moduleG ts) w pb 0 (VLS w) en w' := by
 obtain ⟨h1, h2, h3⟩ := knot hW 20 (Nat.le_refl _)
 obtain ⟨e1, e2, e3⟩ := eats_lev 20
 exact module_ok (d := 0) (S := stmtG 20) (stmt_ok h1 e1 h2 e2 (simple_ok h1 e1)) (eats_stmtG 20) w ts hP hG
theorem module_free (pb : Nat) (w : World) (ts : List Tok) (hP : PAt w pb ts 0) (hG : GoodT ts) : Calls Tryz.prog 63 #[.pointer (some ⟨pb, 0, none⟩)] w fun en w' => Ret (moduleG ts) w pb 0 (VLS w) en w' := module_all (fun d E h1 h2 => with_ok h1 h2) w ts hP hG
end Go.Proofs.YtenfphbhofibjaaGreatDoor

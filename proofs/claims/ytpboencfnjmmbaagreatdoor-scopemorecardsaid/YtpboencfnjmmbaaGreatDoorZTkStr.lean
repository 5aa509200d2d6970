/-
 A row of texts within a struct (its box), that grows by what the laws' Name answers: the steps of 'x.F = append(x.F, Name(..))', in whatever order they are drawn.
 Conditions: as each theorem says.
-/
import Derived.Test.YtpboencfnjmmbaaGreatDoorZTj
set_option linter.unusedVariables false
namespace Go.Proofs.YtpboencfnjmmbaaGreatDoor
open Go.RowKit TM
theorem infoString : (Tryz.prog.info? 9).map (fun i => (i.zero, i.size, i.bytes)) = some (some (.string ⟨#[]⟩), 1, 16) := by kernel_rfl
def strCs (l : List ByteArray) : List Value := l.map Value.string
structure Tc (wr W : World) (bs : Nat) (vp v : Value) (l : List ByteArray) : Prop where
 size : wr.heap.size ≤ W.heap.size
 os : W.os = wr.os
 tape : W.tape = wr.tape
 output : W.output = wr.output
 keep : ∀ k, k < wr.heap.size → vp.ownBlock ≠ some k → W.heap[k]? = wr.heap[k]?
 row : W.ownsRow bs 9 1 v l.length (strCs l)
structure Td (wr W : World) (bs gx : Nat) (T : TypeId) (bc : Value → Array Value) (vp v : Value) (l : List ByteArray) : Prop where
 size : wr.heap.size ≤ W.heap.size
 os : W.os = wr.os
 tape : W.tape = wr.tape
 output : W.output = wr.output
 keep : ∀ k, k < wr.heap.size → k ≠ gx → vp.ownBlock ≠ some k → W.heap[k]? = wr.heap[k]?
 row : W.ownsRow bs 9 1 v l.length (strCs l)
 box : W.heap[gx]? = some (.cells (bc v) T (0, 0))
theorem str_app {wr W : World} {bs g : Nat} {vp : Value} {l : List ByteArray} {s : ByteArray} (hb : Below wr.heap.size wr W) (hg : W.heap[g]? = some (.cells #[.string s] 9 (0, 0))) (hr : wr.ownsRow bs 9 1 vp l.length (strCs l)) (hbs : bs ≤ wr.heap.size) (hl : l.length ≤ 1000000) (ty : TypeId) :
 ∃ v W', (Builtin.append_ #[63, 63] ty #[vp, .slice (some ⟨g, 0, none⟩) 1 1]).run Tryz.prog W = .ok v W' ∧ Tc wr W' bs vp v (l ++ [s]) := by
 obtain ⟨i0, hi, hz0, hz1, hz2⟩ := info_parts infoString
 have hown : W.ownsRow bs 9 1 vp l.length (strCs l) := by
  refine ⟨hr.1, ?_⟩
  rcases hr.2 with h0 | ⟨k, cap, cu, rfl, hk, hh, r⟩
  ·exact .inl h0
  ·exact .inr ⟨k, cap, cu, rfl, hk, (hb.block k (lt_of_block hh)).trans hh, r⟩
 obtain ⟨v, W', hrun, r1, r2, r3⟩ := run_append_own2 (P := Tryz.prog) W bs 63 ty 9 i0 _ 1 16 Tryz.underlying63 hi hz0 hz1 hz2 rfl (by decide) vp l.length (strCs l) hown ⟨g, 0, none⟩ 1 1 [.string s] rfl (fun q u hq => by
  match q, hq with
  | 0, hq => simp at hq; subst hq; simp [Addr.add, World.cell?, hg]
  | q + 1, hq => simp at hq) (by intro u hu; simp at hu; subst hu; rfl) (by decide) (by unfold maxLen; omega) (by omega) (Nat.le_trans hbs hb.size)
 refine ⟨v, W', hrun, Nat.le_trans hb.size r2.size, r2.os.trans hb.os, r2.tape.trans hb.tape, r2.output.trans hb.output, fun k hk hn => ?_, ?_⟩
 ·rw [r2.block k (Nat.lt_of_lt_of_le hk hb.size) (fun e1 => hn e1.symm), hb.block k hk]
 ·have : strCs (l ++ [s]) = strCs l ++ [.string s] := by simp [strCs]
  rw [this, List.length_append]
  exact r1
theorem Tc.store {wr W : World} {bs gx f : Nat} {T : TypeId} {bc : Value → Array Value} {vp v : Value} {l : List ByteArray} (h : Tc wr W bs vp v l) (hvp : ∀ k, vp.ownBlock = some k → bs ≤ k)
 (hbox : wr.heap[gx]? = some (.cells (bc vp) T (0, 0))) (hx : gx < bs) (hbc : (bc vp).setIfInBounds f v = bc v) : Td wr (W.setCell ⟨gx, f, none⟩ v) bs gx T bc vp v l := by
 have hlt := lt_of_block hbox
 have hb : W.heap[gx]? = some (.cells (bc vp) T (0, 0)) := (h.keep gx hlt (fun e1 => by have := hvp gx e1; omega)).trans hbox
 have hoth : ∀ k, k ≠ gx → (W.setCell ⟨gx, f, none⟩ v).heap[k]? = W.heap[k]? := fun k hk => Below.heap_setCell _ _ _ _ hk
 have hsz : (W.setCell ⟨gx, f, none⟩ v).heap.size = W.heap.size := by simp [World.setCell]
 refine ⟨by rw [hsz]; exact h.size, h.os, h.tape, h.output, fun k h1 h3 h4 => (hoth k h3).trans (h.keep k h1 h4), ⟨h.row.1, ?_⟩, by rw [setF hb, hbc]⟩
 have hvo : ∀ k, v.ownBlock = some k → bs ≤ k := fun k hk => (h.row.lt k hk).1
 rcases h.row.2 with h0 | ⟨g, cap, cu, rfl, hg, hh, r⟩
 ·exact .inl h0
 ·exact .inr ⟨g, cap, cu, rfl, hg, (hoth g (by omega)).trans hh, r⟩
structure JS (wr : World) (bs gx : Nat) (T : TypeId) (bc : Value → Array Value) (vp : Value) (l0 : List ByteArray) (s : ByteArray) (ic ib ip is tc tb tp : Nat) (l : Nat → Bool) (a : Act) (W : World) : Prop where
 n0 : l ic = false → W = wr.drew
 n1 : l ic = true → l ib = false → a.eval (.tmp tc) = .string s ∧ Below wr.heap.size wr W
 n2 : l ib = true → l ip = false → ∃ g, a.eval (.tmp tb) = .slice (some ⟨g, 0, none⟩) 1 1 ∧ W.heap[g]? = some (.cells #[.string s] 9 (0, 0)) ∧ Below wr.heap.size wr W
 n3 : l ip = true → l is = false → Tc wr W bs vp (a.eval (.tmp tp)) (l0 ++ [s])
 n4 : l is = true → ∃ v, Td wr W bs gx T bc vp v (l0 ++ [s])
section
variable {wr : World} {bs gx : Nat} {T : TypeId} {bc : Value → Array Value} {vp : Value} {l0 : List ByteArray} {s : ByteArray} {ic ib ip is tc tb tp : Nat} {l : Nat → Bool} {a : Act} {W : World}
theorem JS.start (a : Act) : JS wr bs gx T bc vp l0 s ic ib ip is tc tb tp (fun _ => false) a wr.drew :=
 ⟨fun _ => rfl, fun h => by simp at h, fun h => by simp at h, fun h => by simp at h, fun h => by simp at h⟩
theorem JS.pure (h : JS wr bs gx T bc vp l0 s ic ib ip is tc tb tp l a W) {i d : Nat} {u : Value} (hi : ic ≠ i ∧ ib ≠ i ∧ ip ≠ i ∧ is ≠ i) (hd : tc ≠ d ∧ tb ≠ d ∧ tp ≠ d) : JS wr bs gx T bc vp l0 s ic ib ip is tc tb tp (more l i) (a.put (some d) u) W := by
 refine ⟨?_, ?_, ?_, ?_, ?_⟩
 all_goals simp only [more_ne _ hi.1, more_ne _ hi.2.1, more_ne _ hi.2.2.1, more_ne _ hi.2.2.2, eval_other hd.1, eval_other hd.2.1, eval_other hd.2.2]
 ·exact h.n0
 ·exact h.n1
 ·exact h.n2
 ·exact h.n3
 ·exact h.n4
theorem JS.old (h : JS wr bs gx T bc vp l0 s ic ib ip is tc tb tp l a W) (hs : l is = false) {k : Nat} (hk : k < wr.heap.size) (hn : vp.ownBlock ≠ some k) : W.heap[k]? = wr.heap[k]? := by
 cases h1 : l ic with
 | false => rw [h.n0 h1]; rfl
 | true =>
  cases h2 : l ib with
  | false => exact (h.n1 h1 h2).2.block k hk
  | true =>
   cases h3 : l ip with
   | false => obtain ⟨g, _, _, hb⟩ := h.n2 h2 h3; exact hb.block k hk
   | true => exact (h.n3 h3 hs).keep k hk hn
theorem JS.call (h : JS wr bs gx T bc vp l0 s ic ib ip is tc tb tp l a W) (hb : l ib = false) (hp : l ip = false) (hs : l is = false) (hne : ib ≠ ic ∧ ip ≠ ic ∧ is ≠ ic) (hd : tc < a.tmps.size) {W' : World} (hB : Below wr.heap.size wr W') : JS wr bs gx T bc vp l0 s ic ib ip is tc tb tp (more l ic) (a.put (some tc) (.string s)) W' := by
 refine ⟨fun q => ?_, fun _ _ => ⟨?_, hB⟩, fun q => ?_, fun q => ?_, fun q => ?_⟩
 ·rw [more_self] at q; cases q
 ·rw [eval_put _ _ _ _ hd, if_pos rfl]
 ·rw [more_ne _ hne.1, hb] at q; cases q
 ·rw [more_ne _ hne.2.1, hp] at q; cases q
 ·rw [more_ne _ hne.2.2, hs] at q; cases q
theorem JS.lay (h : JS wr bs gx T bc vp l0 s ic ib ip is tc tb tp l a W) (hc : l ic = true) (hi : l ib = false) (hp : l ip = false) (hs : l is = false) (hne : ic ≠ ib ∧ ip ≠ ib ∧ is ≠ ib) (hd : tb < a.tmps.size) : JS wr bs gx T bc vp l0 s ic ib ip is tc tb tp (more l ib) (a.put (some tb) (.slice (some ⟨W.heap.size, 0, none⟩) 1 1)) (W.alloc (.cells #[.string s] 9)) := by
 refine ⟨fun q => ?_, fun _ q => ?_, fun _ _ => ⟨W.heap.size, ?_, heap_alloc_new _ _, (h.n1 hc hi).2.alloc (h.n1 hc hi).2.size _⟩, fun q => ?_, fun q => ?_⟩
 ·rw [more_ne _ hne.1, hc] at q; cases q
 ·rw [more_self] at q; cases q
 ·rw [eval_put _ _ _ _ hd, if_pos rfl]
 ·rw [more_ne _ hne.2.1, hp] at q; cases q
 ·rw [more_ne _ hne.2.2, hs] at q; cases q
theorem JS.app (hc : l ic = true) (hb : l ib = true) (hs : l is = false) (hne : ic ≠ ip ∧ ib ≠ ip ∧ is ≠ ip) (hd : tp < a.tmps.size) {v : Value} {W' : World} (hS : Tc wr W' bs vp v (l0 ++ [s])) : JS wr bs gx T bc vp l0 s ic ib ip is tc tb tp (more l ip) (a.put (some tp) v) W' := by
 refine ⟨fun q => ?_, fun _ q => ?_, fun _ q => ?_, fun _ _ => ?_, fun q => ?_⟩
 ·rw [more_ne _ hne.1, hc] at q; cases q
 ·rw [more_ne _ hne.2.1, hb] at q; cases q
 ·rw [more_self] at q; cases q
 ·rw [eval_put _ _ _ _ hd, if_pos rfl]; exact hS
 ·rw [more_ne _ hne.2.2, hs] at q; cases q
theorem JS.put (hc : l ic = true) (hb : l ib = true) (hp : l ip = true) (hne : ic ≠ is ∧ ib ≠ is ∧ ip ≠ is) {v : Value} {W' : World} (hS : Td wr W' bs gx T bc vp v (l0 ++ [s])) : JS wr bs gx T bc vp l0 s ic ib ip is tc tb tp (more l is) a W' := by
 refine ⟨fun q => ?_, fun _ q => ?_, fun _ q => ?_, fun _ q => ?_, fun _ => ⟨v, hS⟩⟩
 ·rw [more_ne _ hne.1, hc] at q; cases q
 ·rw [more_ne _ hne.2.1, hb] at q; cases q
 ·rw [more_ne _ hne.2.2, hp] at q; cases q
 ·rw [more_self] at q; cases q
end
end Go.Proofs.YtpboencfnjmmbaaGreatDoor

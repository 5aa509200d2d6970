/-
  M of ArenaPlays while three of its rows grow by one in an order that is drawn: beside what PlaysReg says, the new rows of one that are to be appended.
  Conditions: as each theorem says.
-/
import Derived.Test.YtbbmcggalffecaaPlaysReg
namespace Go.Proofs.Ytbbmcggalffecaa
open Go.ChangeShapes Go.WideShapes Go.ChangeAt Go.RowKit
set_option linter.unusedVariables false
/-- A row of one that has been made (operation ib, slot t) and not yet been appended (operation ia). -/
def NB (ib ia t : Nat) (e : TypeId) (c : Value) (l : Nat → Bool) (a : Act) (w : World) : Prop := l ib = true → l ia = false → ∃ b, a.eval (.tmp t) = .slice (some ⟨b, 0, none⟩) 1 1 ∧ w.heap[b]? = some (.cells #[c] e (0, 0))
section
variable {ib ia t : Nat} {e : TypeId} {c : Value} {l : Nat → Bool} {a : Act} {w w' : World}
theorem NB.pure (h : NB ib ia t e c l a w) {i d : Nat} {v : Value} (hi : ib ≠ i ∧ ia ≠ i) (hd : t ≠ d) : NB ib ia t e c (more l i) (a.put (some d) v) w := by
  unfold NB
  rw [more_ne _ hi.1, more_ne _ hi.2, eval_other hd]
  exact h
theorem NB.alloc (h : NB ib ia t e c l a w) (o : Obj) : NB ib ia t e c l a (w.alloc o) := fun h1 h2 => by
  obtain ⟨b, e1, e2⟩ := h h1 h2
  exact ⟨b, e1, block_alloc e2 o⟩
theorem NB.made (hsz : t < a.tmps.size) (hi : ia ≠ ib) : NB ib ia t e c (more l ib) (a.put (some t) (.slice (some ⟨w.heap.size, 0, none⟩) 1 1)) (w.alloc (.cells #[c] e)) := fun _ _ =>
  ⟨w.heap.size, by rw [eval_put _ _ _ _ hsz, if_pos rfl], heap_alloc_new w _⟩
theorem NB.used {v : Value} {d : Option Nat} : NB ib ia t e c (more l ia) (a.put d v) w' := fun _ h => by rw [more_self] at h; cases h
theorem NB.grown (h : NB ib ia t e c l a w) {base e2 size n : Nat} {v : Value} {xs : List Value} (hg : w.grownBy w' v.ownBlock) (ho : w.ownsRow base e2 size v n xs) (hne : e2 ≠ e) : NB ib ia t e c l a w' := fun h1 h2 => by
  obtain ⟨b, e1, e3⟩ := h h1 h2
  exact ⟨b, e1, block_grown hg e3 (own_ne ho e3 hne)⟩
theorem NB.set (h : NB ib ia t e c l a w) {i mb j : Nat} {u : Value} {cs : Array Value} (hi : ib ≠ i ∧ ia ≠ i) (hm : w.heap[mb]? = some (.cells cs 31 (0, 0))) (hne : e ≠ 31) : NB ib ia t e c (more l i) a (w.setCell ⟨mb, j, none⟩ u) := fun h1 h2 => by
  rw [more_ne _ hi.1] at h1
  rw [more_ne _ hi.2] at h2
  obtain ⟨b, e1, e3⟩ := h h1 h2
  exact ⟨b, e1, block_set e3 (ne_of_types e3 hm hne) u⟩
end
/-- All of it, at the operations of the region. -/
structure NI (base mb : Nat) (qs gs : List Int) (vq vg vr vo vm : Value) (z1 z2 z3 : List Int) (R i x : Int) (w0 : World) (l : Nat → Bool) (a : Act) (w : World) : Prop where
  wi : WI 9 16 25 180 187 196 28 31 34 base mb qs gs vq vg vr vo vm z1 z2 z3 (z1 ++ [R]) (z2 ++ [i]) (z3 ++ [x]) w0 l a w
  n1 : NB 8 9 179 51 (.int .u64 R) l a w
  n2 : NB 15 16 186 3 (.int .i64 i) l a w
  n3 : NB 24 25 195 2 (.int .i64 x) l a w
section
variable {base mb : Nat} {qs gs : List Int} {vq vg vr vo vm : Value} {z1 z2 z3 : List Int} {R i x : Int} {w0 : World} {l : Nat → Bool} {a : Act} {w w' : World}
theorem NI.pure (h : NI base mb qs gs vq vg vr vo vm z1 z2 z3 R i x w0 l a w) {k d : Nat} {v : Value} (hk : (9 ≠ k ∧ 16 ≠ k ∧ 25 ≠ k ∧ 28 ≠ k ∧ 31 ≠ k ∧ 34 ≠ k) ∧ 8 ≠ k ∧ 15 ≠ k ∧ 24 ≠ k) (hd : (180 ≠ d ∧ 187 ≠ d ∧ 196 ≠ d) ∧ 179 ≠ d ∧ 186 ≠ d ∧ 195 ≠ d) : NI base mb qs gs vq vg vr vo vm z1 z2 z3 R i x w0 (more l k) (a.put (some d) v) w :=
  ⟨h.wi.pure hk.1 hd.1, h.n1.pure ⟨hk.2.1, hk.1.1⟩ hd.2.1, h.n2.pure ⟨hk.2.2.1, hk.1.2.1⟩ hd.2.2.1, h.n3.pure ⟨hk.2.2.2, hk.1.2.2.1⟩ hd.2.2.2⟩
theorem NI.made1 (h : NI base mb qs gs vq vg vr vo vm z1 z2 z3 R i x w0 l a w) (hsz : 179 < a.tmps.size) : NI base mb qs gs vq vg vr vo vm z1 z2 z3 R i x w0 (more l 8) (a.put (some 179) (.slice (some ⟨w.heap.size, 0, none⟩) 1 1)) (w.alloc (.cells #[.int .u64 R] 51)) :=
  ⟨(h.wi.pure (by decide) (by decide)).allocs _, NB.made hsz (by decide), (h.n2.pure (by decide) (by decide)).alloc _, (h.n3.pure (by decide) (by decide)).alloc _⟩
theorem NI.made2 (h : NI base mb qs gs vq vg vr vo vm z1 z2 z3 R i x w0 l a w) (hsz : 186 < a.tmps.size) : NI base mb qs gs vq vg vr vo vm z1 z2 z3 R i x w0 (more l 15) (a.put (some 186) (.slice (some ⟨w.heap.size, 0, none⟩) 1 1)) (w.alloc (.cells #[.int .i64 i] 3)) :=
  ⟨(h.wi.pure (by decide) (by decide)).allocs _, (h.n1.pure (by decide) (by decide)).alloc _, NB.made hsz (by decide), (h.n3.pure (by decide) (by decide)).alloc _⟩
theorem NI.made3 (h : NI base mb qs gs vq vg vr vo vm z1 z2 z3 R i x w0 l a w) (hsz : 195 < a.tmps.size) : NI base mb qs gs vq vg vr vo vm z1 z2 z3 R i x w0 (more l 24) (a.put (some 195) (.slice (some ⟨w.heap.size, 0, none⟩) 1 1)) (w.alloc (.cells #[.int .i64 x] 2)) :=
  ⟨(h.wi.pure (by decide) (by decide)).allocs _, (h.n1.pure (by decide) (by decide)).alloc _, (h.n2.pure (by decide) (by decide)).alloc _, NB.made hsz (by decide)⟩
theorem NI.call1 (h : NI base mb qs gs vq vg vr vo vm z1 z2 z3 R i x w0 l a w) (hsz : 180 < a.tmps.size) (hl : l 9 = false) (hp : l 28 = false) {v' : Value} (hg : w.grownBy w' vr.ownBlock) (ho : w'.ownsRow base 51 1 v' (z1 ++ [R]).length ((z1 ++ [R]).map (Value.int .u64))) (hb : v'.ownBlock = vr.ownBlock ∨ v'.ownBlock = some w.heap.size) : NI base mb qs gs vq vg vr vo vm z1 z2 z3 R i x w0 (more l 9) (a.put (some 180) v') w' :=
  ⟨h.wi.call1 hsz hl hp (by decide) (by decide) hg ho hb, NB.used, (h.n2.pure (by decide) (by decide)).grown hg (h.wi.rows.1 hl) (by decide), (h.n3.pure (by decide) (by decide)).grown hg (h.wi.rows.1 hl) (by decide)⟩
theorem NI.call2 (h : NI base mb qs gs vq vg vr vo vm z1 z2 z3 R i x w0 l a w) (hsz : 187 < a.tmps.size) (hl : l 16 = false) (hp : l 31 = false) {v' : Value} (hg : w.grownBy w' vo.ownBlock) (ho : w'.ownsRow base 3 1 v' (z2 ++ [i]).length ((z2 ++ [i]).map (Value.int .i64))) (hb : v'.ownBlock = vo.ownBlock ∨ v'.ownBlock = some w.heap.size) : NI base mb qs gs vq vg vr vo vm z1 z2 z3 R i x w0 (more l 16) (a.put (some 187) v') w' :=
  ⟨h.wi.call2 hsz hl hp (by decide) (by decide) hg ho hb, (h.n1.pure (by decide) (by decide)).grown hg (h.wi.rows.2.1 hl) (by decide), NB.used, (h.n3.pure (by decide) (by decide)).grown hg (h.wi.rows.2.1 hl) (by decide)⟩
theorem NI.call3 (h : NI base mb qs gs vq vg vr vo vm z1 z2 z3 R i x w0 l a w) (hsz : 196 < a.tmps.size) (hl : l 25 = false) (hp : l 34 = false) {v' : Value} (hg : w.grownBy w' vm.ownBlock) (ho : w'.ownsRow base 2 1 v' (z3 ++ [x]).length ((z3 ++ [x]).map (Value.int .i64))) : NI base mb qs gs vq vg vr vo vm z1 z2 z3 R i x w0 (more l 25) (a.put (some 196) v') w' :=
  ⟨h.wi.call3 hsz hl hp (by decide) (by decide) hg ho, (h.n1.pure (by decide) (by decide)).grown hg (h.wi.rows.2.2 hl) (by decide), (h.n2.pure (by decide) (by decide)).grown hg (h.wi.rows.2.2 hl) (by decide), NB.used⟩
theorem NI.store1 (h : NI base mb qs gs vq vg vr vo vm z1 z2 z3 R i x w0 l a w) : NI base mb qs gs vq vg vr vo vm z1 z2 z3 R i x w0 (more l 28) a (w.setCell ⟨mb, 1, none⟩ (a.eval (.tmp 180))) :=
  ⟨h.wi.store1 (by decide), h.n1.set (by decide) (WR.cell h.wi) (by decide), h.n2.set (by decide) (WR.cell h.wi) (by decide), h.n3.set (by decide) (WR.cell h.wi) (by decide)⟩
theorem NI.store2 (h : NI base mb qs gs vq vg vr vo vm z1 z2 z3 R i x w0 l a w) : NI base mb qs gs vq vg vr vo vm z1 z2 z3 R i x w0 (more l 31) a (w.setCell ⟨mb, 2, none⟩ (a.eval (.tmp 187))) :=
  ⟨h.wi.store2 (by decide), h.n1.set (by decide) (WR.cell h.wi) (by decide), h.n2.set (by decide) (WR.cell h.wi) (by decide), h.n3.set (by decide) (WR.cell h.wi) (by decide)⟩
theorem NI.store3 (h : NI base mb qs gs vq vg vr vo vm z1 z2 z3 R i x w0 l a w) : NI base mb qs gs vq vg vr vo vm z1 z2 z3 R i x w0 (more l 34) a (w.setCell ⟨mb, 3, none⟩ (a.eval (.tmp 196))) :=
  ⟨h.wi.store3 (by decide), h.n1.set (by decide) (WR.cell h.wi) (by decide), h.n2.set (by decide) (WR.cell h.wi) (by decide), h.n3.set (by decide) (WR.cell h.wi) (by decide)⟩
theorem NI.start (h : WR base mb qs gs vq vg vr vo vm vr vo vm z1 z2 z3 w0 w) : NI base mb qs gs vq vg vr vo vm z1 z2 z3 R i x w0 (fun _ => false) a w :=
  ⟨WI.start h, by simp [NB], by simp [NB], by simp [NB]⟩
end
end Go.Proofs.Ytbbmcggalffecaa

/-
  The laws' Make of layer 4: what a store into an object, or into an object's fields, makes of the arena; a map's update as one step of a region.
  Conditions: as each theorem says.
-/
import Derived.Test.YtpgbfkdknggceaaGreatDoorMakeP
namespace Go.Proofs.YtpgbfkdknggceaaGreatDoor
open Go.ChangeShapes Go.WideShapes Go.ChangeAt Go.RowKit Go.Maps Go.Sort Go.Lib
set_option linter.unusedVariables false
theorem slotCells_same {l : List Sl} {n u b : Nat} {o o' : Ob} (h : l[n]? = some ⟨u, some (b, o)⟩) : slotCells (l.set n ⟨u, some (b, o')⟩) = slotCells l := by
  induction l generalizing n with
  | nil => simp at h
  | cons q l ih =>
    cases n with
    | zero => simp at h; subst h; simp [slotCells, ptrOf]
    | succ n => simp only [List.set_cons_succ, slotCells]; rw [ih (by simpa using h)]
/-- A cell of an object is written. -/
theorem Arn.mark {base ab n u b j : Nat} {w : World} {s : St} {o o' : Ob} {v : Value} (h : Arn base ab w s) (hd : ∀ (i : Nat) (sl : Sl) (b' : Nat) (q : Ob), i ≠ n → s.slots[i]? = some sl → sl.obj = some (b', q) → b' ≠ b) (hb : s.slots[n]? = some ⟨u, some (b, o)⟩) (ho : o.cells.setIfInBounds j v = o'.cells) :
    Arn base ab (w.setCell ⟨b, j, none⟩ v) ⟨s.accs, s.slots.set n ⟨u, some (b, o')⟩, s.unused⟩ ∧ Fr (only 114) base w (w.setCell ⟨b, j, none⟩ v) := by
  have hbb := h.objs n _ b o hb rfl
  have F : Fr (only 114) base w (w.setCell ⟨b, j, none⟩ v) := (Fr.refl _ _ _).setCell ⟨hbb.1, _, _, _, hbb.2, rfl⟩ _
  have hn : n < s.slots.length := by obtain ⟨hh, _⟩ := List.getElem?_eq_some_iff.1 hb; exact hh
  obtain ⟨vo, vs, vu, h0, h1, h2, h3⟩ := h.rows
  refine ⟨⟨h.hb, ⟨vo, vs, vu, F.block h0 rfl, F.row h1 rfl, ?_, F.row h3 rfl⟩, fun i sl b' q e1 e2 => ?_⟩, F⟩
  · simp only [List.length_set, slotCells_same hb]
    exact F.row h2 rfl
  · by_cases e : i = n
    · subst e
      simp only at e1
      rw [List.getElem?_set_self hn] at e1
      simp at e1
      subst e1
      simp at e2
      obtain ⟨rfl, rfl⟩ := e2
      refine ⟨hbb.1, ?_⟩
      rw [← ho]
      exact heap_setCell_same _ _ _ _ _ _ hbb.2
    · simp only at e1
      rw [List.getElem?_set_ne (fun x => e x.symm)] at e1
      have := h.objs i sl b' q e1 e2
      exact ⟨this.1, block_set this.2 (hd i sl b' q e e1 e2) _⟩
/-- One more name has been gone through. -/
def moreN (done : Nat → List Int) (i : Nat) (b : Int) (j : Nat) : List Int := if j = i then done i ++ [b] else done j
section
variable {w0 w w' : World} {ab : Nat} {L : List OO} {done : Nat → List Int} {B M : Nat → Nat} {s : St} {i : Nat} {oo : OO} {b : Int}
theorem Mk.tgt (h : Mk w0 w ab L done B M s L.length) (hi : L[i]? = some oo) (hp : oo.proxy = true) :
    (∃ s', Mk w0 (w.setCell ⟨B i, 12, none⟩ (.int .u64 (refI (atN L.length b)))) ab L (moreN done i b) B M s' L.length) ∧ Fr (only 114) w0.heap.size w (w.setCell ⟨B i, 12, none⟩ (.int .u64 (refI (atN L.length b)))) := by
  have hil : i < L.length := by obtain ⟨hh, _⟩ := List.getElem?_eq_some_iff.1 hi; exact hh
  have hs := h.slot i oo hil hi
  have hcells : (obOf oo L.length (done i) (M i)).cells.setIfInBounds 12 (.int .u64 (refI (atN L.length b))) = (obOf oo L.length (done i ++ [b]) (M i)).cells := by
    simp [obOf, hp, Ob.cells, tgt_snoc]
  obtain ⟨A, F⟩ := h.arn.mark (fun j sl b' q hj e1 e2 e => by
    have hjl : j < L.length := by obtain ⟨hh, _⟩ := List.getElem?_eq_some_iff.1 e1; rw [h.len] at hh; exact hh
    obtain ⟨oj, hoj⟩ : ∃ oj, L[j]? = some oj := ⟨_, List.getElem?_eq_getElem hjl⟩
    rw [h.slot j oj hjl hoj] at e1
    simp at e1
    subst e1
    simp at e2
    rw [← e2.1] at e
    exact hj (h.inj j i hjl hil e)) hs hcells
  refine ⟨⟨_, A, h.accs, by simp [h.len], fun j oj hj hL => ?_, h.un, h.inj, Nat.le_trans h.big F.size, fun j oj hj hL hpj => ?_, h.injM, h.below.trans (F.below h.below.size)⟩, F⟩
  · by_cases e : j = i
    · subst e
      rw [hi] at hL
      cases hL
      rw [List.getElem?_set_self (by rw [h.len]; exact hil)]
      simp [moreN]
    · rw [List.getElem?_set_ne (fun x => e x.symm), h.slot j oj hj hL]
      simp [moreN, e]
  · have e : j ≠ i := by rintro rfl; rw [hi] at hL; cases hL; rw [hp] at hpj; cases hpj
    obtain ⟨h1, h2⟩ := h.maps j oj hj hL hpj
    obtain ⟨es, clock, hb⟩ := h1.block
    rw [show moreN done i b j = done j from by simp [moreN, e]]
    exact ⟨h1.kept ((F.map hb).trans hb.symm), h2⟩
theorem Mk.fld (h : Mk w0 w ab L done B M s L.length) (hi : L[i]? = some oo) (hp : oo.proxy = false) (hF : Flds w' (M i) (fldsOf L.length (done i ++ [b]))) (hg : w.grownBy w' (some (M i))) : Mk w0 w' ab L (moreN done i b) B M s L.length := by
  have hil : i < L.length := by obtain ⟨hh, _⟩ := List.getElem?_eq_some_iff.1 hi; exact hh
  obtain ⟨m1, m2⟩ := h.maps i oo hil hi hp
  obtain ⟨es, clock, hb⟩ := m1.block
  refine ⟨h.arn.kept fun k cs t hk ht => hg.block k (lt_of_block hk) (fun e => ?_), h.accs, h.len, fun j oj hj hL => ?_, h.un, h.inj, Nat.le_trans h.big hg.size, fun j oj hj hL hpj => ?_, h.injM, h.below.grown hg h.below.size (fun k e => by cases e; omega)⟩
  · cases e
    rw [hb] at hk; cases hk
  · rw [h.slot j oj hj hL]
    by_cases e : j = i
    · subst e
      rw [hi] at hL
      cases hL
      simp [obOf, hp]
    · simp [moreN, e]
  · by_cases e : j = i
    · subst e
      simp only [moreN, if_true]
      exact ⟨hF, m2⟩
    · obtain ⟨h1, h2⟩ := h.maps j oj hj hL hpj
      rw [show moreN done i b j = done j from by simp [moreN, e]]
      exact ⟨h1.kept (hg.block _ h1.lt (fun x => e (h.injM j i oj oo hj hil hL hi hpj hp (by simpa using x)))), h2⟩
end
/-- A map's update as one step of a region. -/
theorem step_mapUpdate {H : Type} {P : Program} {ops : Array Oper} {o : Oper} {a : Act} {w : World} {K : Act → World → Prop} {Q : Exit → Act → World → Prop} {E : Prop}
    (hg : o.guard = none) (m x v : Operand) (t : TypeId) (hop : o.op = Op.mapUpdate t m x v) (k e : TypeId) (Ky : Keyed P k) (ht : P.underlying t = some (.map k e)) (R : Value → Option (DataW H × List MemPlace)) (b n : Nat) (D : DataW H)
    (hm : a.eval m = .map (some b)) (hown : w.ownsMap P k R b n D) (hn : n < maxLen) (key val : Value) (kl : Lit) (hx : a.eval x = key) (hv : a.eval v = val) (hkey : keyOf P k key = some kl) (d : DataW H) (ps : List MemPlace) (hval : R val = some (d, ps))
    (hK : ∀ w', w'.ownsMap P k R b (n + 1) (D.put kl d) → w.grownBy w' (some b) → K (a.put o.dst undef) w') :
    if Region.wanted o (yielded ops a.tmps) = true then Oper.wp P o a w K Q else E := by
  have hw : Region.wanted o (yielded ops a.tmps) = true := by simp [Region.wanted, hg]
  rw [if_pos hw]
  obtain ⟨w', hrun, r1, r2⟩ := hown.update Ky ht hn hkey hval
  unfold Oper.wp
  simp [execOp, hop, hm, hx, hv, hrun, Result.andThen]
  exact hK w' r1 r2
end Go.Proofs.YtpgbfkdknggceaaGreatDoor

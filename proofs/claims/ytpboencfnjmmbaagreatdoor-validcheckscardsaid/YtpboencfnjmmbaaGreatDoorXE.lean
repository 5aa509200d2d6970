/-
  What the operations do, by names of blocks: arithmetic, places, slices, structs built.
  Conditions: as each theorem says. (No program is named here.)
-/
import Derived.Test.YtpboencfnjmmbaaGreatDoorXD
namespace Go.Ex
set_option linter.unusedVariables false
open Go.RowKit
section
variable {C : Cx} {α β : Type} {p : Rn} {A : Rn → α → α → Prop} {B : Rn → β → β → Prop}

theorem Sim.mapL {γ δ : Type} {f f' : γ → Sem δ} : ∀ (l : List γ), (∀ q, Le p q → ∀ x ∈ l, Sim C q EqA (f x) (f' x)) → Sim C p EqA (l.mapM f) (l.mapM f') := by
  intro l
  induction l generalizing p with
  | nil => intro _; exact .pure fun _ _ => rfl
  | cons x l ih =>
    intro h
    rw [List.mapM_cons, List.mapM_cons]
    refine (h p (Le.refl _) x (by simp)).bind fun q lq v v' e => ?_
    cases e
    refine (ih fun q1 l1 y hy => h q1 (lq.trans l1) y (by simp [hy])).bind fun q1 l1 v v' e => ?_
    cases e
    exact .pure fun _ _ => rfl
theorem Sim.mapA {γ δ : Type} {f f' : γ → Sem δ} (l : Array γ) (h : ∀ q, Le p q → ∀ x ∈ l, Sim C q EqA (f x) (f' x)) : Sim C p EqA (l.mapM f) (l.mapM f') := by
  rw [Array.mapM_eq_mapM_toList, Array.mapM_eq_mapM_toList, ← bind_pure_comp, ← bind_pure_comp]
  exact (Sim.mapL _ fun q l x hx => h q l x (by simpa using hx)).bind fun q l v v' e => by cases e; exact .pure fun _ _ => rfl

def PL (p : Rn) (l l' : List (Nat × Value)) : Prop := l.length = l'.length ∧ ∀ (i : Nat) (u v : Nat × Value), l[i]? = some u → l'[i]? = some v → u.1 = v.1 ∧ VR p u.2 v.2
theorem PL.le {q : Rn} {l l' : List (Nat × Value)} (h : PL p l l') (k : Le p q) : PL q l l' := ⟨h.1, fun i u v a b => ⟨(h.2 i u v a b).1, (h.2 i u v a b).2.le k⟩⟩

theorem fold_rel (off : Nat) : ∀ (l l' : List Value) (k : Nat) (c c' : Array Value), Arr (VR p) l.toArray l'.toArray → Arr (VR p) c c' →
    Arr (VR p) ((l.zipIdx k).foldl (fun cs (x : Value × Nat) => cs.setIfInBounds (off + x.2) x.1) c) ((l'.zipIdx k).foldl (fun cs (x : Value × Nat) => cs.setIfInBounds (off + x.2) x.1) c') := by
  intro l
  induction l with
  | nil =>
    intro l' k c c' h hc
    have : l' = [] := List.eq_nil_of_length_eq_zero (by simpa using h.1.symm)
    subst this
    exact hc
  | cons x l ih =>
    intro l' k c c' h hc
    cases l' with
    | nil => simp [Arr] at h
    | cons y l' =>
      simp only [List.zipIdx_cons, List.foldl_cons]
      refine ih l' (k + 1) _ _ ⟨by simpa using h.1, fun j u v e f => h.2 (j + 1) u v (by simpa using e) (by simpa using f)⟩ (hc.set (h.2 0 x y (by simp) (by simp)) _)

theorem fill_rel {place : Nat → Option (Nat × Nat)} : ∀ (l l' : List (Nat × Value)) (c c' : Array Value), PL p l l' → Arr (VR p) c c' →
    (∃ r r', Instr.fill place c l = some r ∧ Instr.fill place c' l' = some r' ∧ Arr (VR p) r r') ∨ Instr.fill place c l = none := by
  intro l
  induction l with
  | nil =>
    intro l' c c' h hc
    have : l' = [] := List.eq_nil_of_length_eq_zero h.1.symm
    subst this
    exact .inl ⟨c, c', rfl, rfl, hc⟩
  | cons x l ih =>
    intro l' c c' h hc
    cases l' with
    | nil => simp [PL] at h
    | cons y l' =>
      obtain ⟨i, v⟩ := x
      obtain ⟨j, u⟩ := y
      obtain ⟨h1, h2⟩ := h.2 0 (i, v) (j, u) rfl rfl
      simp only at h1 h2
      subst h1
      unfold Instr.fill
      cases hp : place i with
      | none => exact .inr rfl
      | some os =>
        obtain ⟨off, size⟩ := os
        dsimp only
        have hcl := h2.cells
        rw [← hcl.1, ← hc.1]
        split
        · exact .inr rfl
        · refine ih l' _ _ ⟨by simpa using h.1, fun j u v e f => h.2 (j + 1) u v (by simpa using e) (by simpa using f)⟩ ?_
          have := fold_rel (p := p) off v.cells.toList u.cells.toList 0 c c' (by simpa using hcl) hc
          rw [← Array.foldl_toList, ← Array.foldl_toList, Array.toList_zipIdx, Array.toList_zipIdx]
          exact this

theorem Sim.build (hz : Zok C.P) (t : TypeId) {l l' : Array (Nat × Value)} (h : PL p l.toList l'.toList) : Sim C p VR (Instr.build t l) (Instr.build t l') := by
  unfold Instr.build
  refine (Sim.zero hz t).bind fun q lq z z' hzz => ?_
  refine (Sim.underE t).bindE fun q1 l1 d => ?_
  have hc := (hzz.le l1).cells
  have hl := (h.le lq).le l1
  split
  · refine (Sim.mapA _ fun q2 l2 x _ => ?_).bindE fun q2 l2 places => ?_
    · exact (Sim.sizeOf _).bindE fun _ _ n => .pure fun _ _ => rfl
    · rcases fill_rel (place := (places[·]?)) l.toList l'.toList _ _ (hl.le l2) (hc.le l2) with ⟨r, r', e1, e2, e3⟩ | e1
      · simp only [e1, e2]
        exact .pure fun q3 l3 => (VR.cl _).agg _ _ (e3.le l3)
      · simp only [e1]
        exact .stuck
  · refine (Sim.sizeOf _).bindE fun q2 l2 size => ?_
    rcases fill_rel (place := fun i => some (i * size, size)) l.toList l'.toList _ _ (hl.le l2) (hc.le l2) with ⟨r, r', e1, e2, e3⟩ | e1
    · simp only [e1, e2]
      exact .pure fun q3 l3 => (VR.cl _).agg _ _ (e3.le l3)
    · simp only [e1]
      exact .stuck
  · exact .stuck

theorem VR.default (p : Rn) : VR p default default := VR.of_flat (by decide)
theorem zeroMap_rel {z z' : Array Value} (h : Arr (VR p) z z') (n : Nat) : Arr (VR p) ((Array.range n).map (z[· % z.size]!)) ((Array.range n).map (z'[· % z'.size]!)) := by
  refine Arr.map fun i _ => ?_
  rw [h.1]
  simp only [getElem!_def]
  cases e : z[i % z'.size]? with
  | none => rw [h.none e]; exact VR.default p
  | some v => obtain ⟨u, e2, hv⟩ := h.get e; rw [e2]; exact hv

theorem VR.sl {a b : Addr} (h : AR p a b) (n c : Nat) (hc : c < unk) : VR p (.slice (some a) n c) (.slice (some b) n c) := (VR.cl p).sl a b n c hc h

theorem Sim.zeroCells (hz : Zok C.P) (t : TypeId) (n : Nat) : Sim C p ArrA (if n = 0 then Pure.pure #[] else do Pure.pure (← zeroValue t).cells) (if n = 0 then Pure.pure #[] else do Pure.pure (← zeroValue t).cells) := by
  refine .ite (fun _ => .pure fun _ _ => .nil) fun _ => ?_
  exact (Sim.zero hz t).bind fun q l z z' h => .pure fun q1 l1 => h.cells.le l1

theorem Sim.buildSlice (hz : Zok C.P) (t : TypeId) (len : Nat) (hlen : len < unk) {l l' : Array (Nat × Value)} (h : PL p l.toList l'.toList) : Sim C p VR (Instr.buildSlice t len l) (Instr.buildSlice t len l') := by
  unfold Instr.buildSlice
  refine (Sim.underE t).bindE fun q lq d => ?_
  split
  · rename_i elem
    refine (Sim.sizeOf _).bindE fun q1 l1 size => ?_
    dsimp only
    split
    · exact .no fun s => rfl
    · split
      · rename_i hs
        have hh : Sim C q1 ArrA (Pure.pure #[]) (Pure.pure #[]) := .pure fun _ _ => .nil
        refine hh.bind fun q2 l2 z z' hzz => ?_
        rcases fill_rel (place := fun i => some (i * size, size)) l.toList l'.toList _ _ (((h.le lq).le l1).le l2) (zeroMap_rel hzz (len * size)) with ⟨r, r', e1, e2, e3⟩ | e1
        · simp only [e1, e2]
          exact (Sim.newRow e3 _).bind fun q3 l3 a b hab => .pure fun q4 l4 => VR.sl (hab.le l4) _ _ hlen
        · simp only [e1]
          exact .stuck
      · refine (Sim.zero hz elem).bind fun q0 l0 z z' hz0 => ?_
        have hh : Sim C q0 ArrA (Pure.pure z.cells) (Pure.pure z'.cells) := .pure fun _ l => hz0.cells.le l
        refine hh.bind fun q2 l2 z z' hzz => ?_
        replace l2 := l0.trans l2
        rcases fill_rel (place := fun i => some (i * size, size)) l.toList l'.toList _ _ (((h.le lq).le l1).le l2) (zeroMap_rel hzz (len * size)) with ⟨r, r', e1, e2, e3⟩ | e1
        · simp only [e1, e2]
          exact (Sim.newRow e3 _).bind fun q3 l3 a b hab => .pure fun q4 l4 => VR.sl (hab.le l4) _ _ hlen
        · simp only [e1]
          exact .stuck
  · exact .stuck

theorem Sim.field {x x' : Value} (h : VR p x x') (t : TypeId) (f : Nat) : Sim C p VR (Instr.field t x f) (Instr.field t x' f) := by
  unfold Instr.field
  refine (Sim.underE t).bindE fun q lq d => ?_
  split
  · split
    · exact (Sim.asAgg (h.le lq)).bind fun q1 l1 a b hab => Sim.part hab _ _
    · exact .stuck
  · exact .stuck

theorem Sim.index {x x' i i' : Value} (h : VR p x x') (hi : VR p i i') (t : TypeId) : Sim C p VR (Instr.index t x i) (Instr.index t x' i') := by
  unfold Instr.index
  refine (Sim.asIntOf hi).bind fun q lq k k' e => ?_
  cases e
  obtain ⟨k, n⟩ := k
  refine (Sim.underE t).bindE fun q1 l1 d => ?_
  have h := (h.le lq).le l1
  have ix := h.inv
  split
  · obtain ⟨y, rfl, hy⟩ := ix
    refine .ite (fun _ => ?_) fun _ => Sim.boundsPanic _ _ _ _
    exact (Sim.sizeOf _).bindE fun q2 l2 m => Sim.part (hy.le l2) _ _
  · obtain rfl := ix
    dsimp only
    split
    · exact .pure fun q l => VR.int _ _ _
    · exact Sim.boundsPanic _ _ _ _
  · exact .stuck

theorem Sim.sliceBound {x x' : Value} (h : VR p x x') (y : Nat) (c : BoundsCode) : Sim C p (fun _ a b => a = b ∧ a ≤ y) (Instr.sliceBound x y c) (Instr.sliceBound x' y c) := by
  unfold Instr.sliceBound
  refine (Sim.asIntOf h).bind fun q lq k k' e => ?_
  cases e
  obtain ⟨k, n⟩ := k
  exact .ite (fun h => .pure fun _ _ => ⟨rfl, by omega⟩) fun _ => Sim.boundsPanic _ _ _ _
theorem Sim.bindB {x x' : Value} (h : VR p x x') (y : Nat) (c : BoundsCode) {f f' : Nat → Sem β} (k : ∀ q, Le p q → ∀ v, v ≤ y → Sim C q B (f v) (f' v)) : Sim C p B (Instr.sliceBound x y c >>= f) (Instr.sliceBound x' y c >>= f') :=
  (Sim.sliceBound h y c).bind fun q l a b h => by obtain ⟨rfl, h⟩ := h; exact k q l a h

theorem Sim.pureB (y : Nat) {f f' : Nat → Sem β} (k : ∀ q, Le p q → ∀ v, v ≤ y → Sim C q B (f v) (f' v)) : Sim C p B (Pure.pure y >>= f) (Pure.pure y >>= f') := k p (Le.refl _) y (Nat.le_refl _)

def OV (p : Rn) : Option Value → Option Value → Prop
  | none, none => True
  | some v, some u => VR p v u
  | _, _ => False
theorem OV.le {q : Rn} {x y : Option Value} (h : OV p x y) (l : Le p q) : OV q x y := by
  cases x <;> cases y <;> first | exact h | exact VR.le h l

theorem Sim.sliceBounds {lo lo' hi hi' mx mx' : Option Value} (h1 : OV p lo lo') (h2 : OV p hi hi') (h3 : OV p mx mx') (b : Bool) (n c : Nat) :
    Sim C p (fun _ x y => x = y ∧ x.2.2 ≤ c) (Instr.sliceBounds b n c lo hi mx) (Instr.sliceBounds b n c lo' hi' mx') := by
  unfold Instr.sliceBounds
  cases mx <;> cases mx' <;> (try exact h3.elim) <;> cases hi <;> cases hi' <;> (try exact h2.elim) <;> cases lo <;> cases lo' <;> (try exact h1.elim)
  all_goals first
    | refine Sim.bindB h3 _ _ fun q lq m hm => ?_
    | refine Sim.pureB c fun q lq m hm => ?_
  all_goals first
    | exact .no fun s => rfl
    | refine Sim.bindB (VR.le h2 lq) _ _ fun q1 l1 h _ => ?_
    | refine Sim.bindX (e := Pure.pure _) (e' := Pure.pure _) (.pure fun _ _ => rfl) fun q1 l1 m => ?_
  all_goals first
    | exact Sim.bindB (VR.le h1 (lq.trans l1)) _ _ fun q2 l2 h _ => .pure fun _ _ => ⟨rfl, by assumption⟩
    | exact .pure fun _ _ => ⟨rfl, by assumption⟩
theorem Sim.bindS {lo lo' hi hi' mx mx' : Option Value} (h1 : OV p lo lo') (h2 : OV p hi hi') (h3 : OV p mx mx') (b : Bool) (n c : Nat) {f f' : Nat × Nat × Nat → Sem β} (k : ∀ q, Le p q → ∀ v : Nat × Nat × Nat, v.2.2 ≤ c → Sim C q B (f v) (f' v)) :
    Sim C p B (Instr.sliceBounds b n c lo hi mx >>= f) (Instr.sliceBounds b n c lo' hi' mx' >>= f') :=
  (Sim.sliceBounds h1 h2 h3 b n c).bind fun q l a b h => by obtain ⟨rfl, h⟩ := h; exact k q l a h

/-- A slice whose capacity is known. -/
def known : Value → Bool
  | .slice (some _) _ c => c != unk
  | _ => true

theorem Sim.slice {x x' : Value} {lo lo' hi hi' mx mx' : Option Value} (hk : known x = true) {t : TypeId} (hnp : ∀ e, C.P.underlying t ≠ some (.pointer e)) (h : VR p x x') (h1 : OV p lo lo') (h2 : OV p hi hi') (h3 : OV p mx mx') :
    Sim C p VR (Instr.slice t x lo hi mx) (Instr.slice t x' lo' hi' mx') := by
  unfold Instr.slice
  refine (Sim.under t).bind fun q lq d d' hd => ?_
  obtain ⟨rfl, hd⟩ := hd
  have h := h.le lq
  have ix := h.inv
  replace h1 := h1.le lq
  replace h2 := h2.le lq
  replace h3 := h3.le lq
  split
  · obtain rfl := ix
    have : mx.isSome = mx'.isSome := by cases mx <;> cases mx' <;> first | rfl | exact h3.elim
    rw [this]
    dsimp only
    split
    · exact .no fun s => rfl
    · refine Sim.bindS h1 h2 (show OV q none none from trivial) _ _ _ fun q1 l1 r _ => ?_
      exact .pure fun _ _ => VR.str _ _
  · rename_i elem a len cap _
    cases a with
    | none =>
      obtain rfl := ix
      refine Sim.bindS h1 h2 h3 _ _ _ fun q1 l1 r _ => ?_
      refine (Sim.sizeOf _).bindE fun q2 l2 n => .pure fun q l => ?_
      refine VR.of_leaf ?_
      split <;> rfl
    | some a =>
      obtain ⟨b, c', rfl, hab, hc⟩ := ix
      have hc : c' = cap ∧ cap < unk := by
        rcases hc with h | ⟨h, _⟩
        · exact h
        · subst h; simp [known] at hk
      obtain ⟨rfl, hcu⟩ := hc
      refine Sim.bindS h1 h2 h3 _ _ _ fun q1 l1 r hr => ?_
      refine (Sim.sizeOf _).bindE fun q2 l2 n => .pure fun q3 l3 => ?_
      have hab := ((hab.le l1).le l2).le l3
      obtain ⟨l, h, m⟩ := r
      (try dsimp only)
      simp only at hr
      split
      · exact VR.sl hab _ _ (by omega)
      · exact VR.sl (hab.add _) _ _ (by omega)
  · exact (hnp _ hd).elim
  · exact .stuck

theorem Sim.noView {a b : Addr} (h : AR p a b) : Sim C p (fun _ _ _ => True) (Go.noView a) (Go.noView b) := by
  unfold Go.noView Go.viewAt
  obtain ⟨⟨k, hk⟩, _⟩ := h
  refine Sim.bind (A := fun _ x y => x = none ∧ y = none) ?_ fun q l x y h => ?_
  · refine (Sim.shape hk).bindX fun q l v => ?_
    (try dsimp only)
    split
    · exact .pure fun _ _ => ⟨rfl, rfl⟩
    · refine (Sim.getObj (l _ _ hk)).bind fun q1 l1 o o' h => ?_
      obtain ⟨h1, h2⟩ := h
      cases o with
      | map es cl => obtain ⟨es', rfl, _⟩ := h1; exact .pure fun _ _ => ⟨rfl, rfl⟩
      | mapIter m x y z => cases m with
        | none => obtain rfl := h1; exact .pure fun _ _ => ⟨rfl, rfl⟩
        | some r => obtain ⟨r', k', rfl, _⟩ := h1; exact .pure fun _ _ => ⟨rfl, rfl⟩
      | stringIter s n => obtain rfl := h1; exact .pure fun _ _ => ⟨rfl, rfl⟩
      | _ => cases h2
  · obtain ⟨rfl, rfl⟩ := h
    exact .pure fun _ _ => trivial
theorem Sim.byteOf {a b : Addr} (h : AR p a b) : Sim C p EqA (Go.byteOf a) (Go.byteOf b) := by
  unfold Go.byteOf
  rw [h.2.2]
  split
  · exact .pure fun _ _ => rfl
  · refine Sim.askProgram.bind fun q2 l2 P1 P2 hP => ?_
    obtain ⟨rfl, rfl⟩ := hP
    refine (Sim.noView (h.le l2)).bind fun q3 l3 _ _ _ => ?_
    obtain ⟨⟨k, hk⟩, h2, _⟩ := (h.le l2).le l3
    refine (Sim.shape hk).bindX fun q l v => ?_
    split
    · rw [h2]
      (try dsimp only)
      split
      · exact .pure fun _ _ => rfl
      · split
        · exact .pure fun _ _ => rfl
        · exact .stuck
    · exact .stuck
theorem Sim.partAt {a b : Addr} (h : AR p a b) (m n : Nat) : Sim C p (fun q a b => AR q a b) (Go.partAt a m n) (Go.partAt b m n) := by
  unfold Go.partAt
  refine (Sim.byteOf h).bindX fun q l x => ?_
  have hp : AR q { block := a.block, off := a.off + m } { block := b.block, off := b.off + m } := ⟨(h.le l).1, by simp [h.2.1], rfl⟩
  refine (Sim.byteOf hp).bindX fun q1 l1 y => ?_
  refine .pure fun q2 l2 => ?_
  split
  · exact (hp.le l1).le l2
  · have := (hp.le l1).le l2
    exact ⟨this.1, this.2.1, rfl⟩
theorem Sim.fieldAt {x x' : Value} (h : VR p x x') (t : TypeId) (f : Nat) : Sim C p VR (Instr.fieldAt t x f) (Instr.fieldAt t x' f) := by
  unfold Instr.fieldAt
  refine (Sim.underE t).bindE fun q lq d => ?_
  split
  · split
    · refine (Sim.sureAddr (h.le lq)).bind fun q1 l1 a b hab => ?_
      unfold fieldPlace
      refine Sim.bind (A := fun q a b => AR q a b) ?_ fun q2 l2 a b h => .pure fun q3 l3 => VR.ptr (h.le l3)
      refine (Sim.sizeOf _).bindE fun q3 l3 n => ?_
      exact .ite (fun _ => Sim.partAt (hab.le l3) _ _) fun _ => .pure fun q l => (hab.add _).le (l3.trans l)
    · exact .stuck
  · exact .stuck

theorem Sim.indexAt {x x' i i' : Value} (h : VR p x x') (hi : VR p i i') (t : TypeId) : Sim C p VR (Instr.indexAt t x i) (Instr.indexAt t x' i') := by
  unfold Instr.indexAt
  refine (Sim.asIntOf hi).bindX fun q lq k => ?_
  obtain ⟨k, n⟩ := k
  refine (Sim.underE t).bindE fun q1 l1 d => ?_
  have h := (h.le lq).le l1
  have ix := h.inv
  split
  · refine (Sim.sureAddr h).bind fun q2 l2 a b hab => ?_
    refine (Sim.underE t).bindE fun q3 l3 d => ?_
    dsimp only
    refine .ite (fun _ => ?_) fun _ => .ite (fun _ => .unsupported) fun _ => Sim.boundsPanic _ _ _ _
    exact (Sim.sizeOf _).bindE fun q4 l4 n => .pure fun q l => VR.ptr ((((hab.le l3).le l4).le l).add _)
  · rename_i elem a len cap _
    cases a with
    | none =>
      obtain rfl := ix
      refine (Sim.underE t).bindE fun q3 l3 d => ?_
      exact Sim.boundsPanic _ _ _ _
    | some a =>
      obtain ⟨b, c', rfl, hab, _⟩ := ix
      refine (Sim.underE t).bindE fun q3 l3 d => ?_
      dsimp only
      refine .ite (fun _ => ?_) fun _ => .ite (fun _ => .unsupported) fun _ => Sim.boundsPanic _ _ _ _
      exact (Sim.sizeOf _).bindE fun q4 l4 n => .pure fun q l => VR.ptr ((((hab.le l3).le l4).le l).add _)
  · exact .no fun s => rfl

theorem Sim.sliceAt {x x' : Value} {lo lo' hi hi' mx mx' : Option Value} (hk : known x = true) {t : TypeId} (hnp : ∀ e, C.P.underlying t ≠ some (.pointer e)) (hna : ∀ n e, C.P.underlying t = some (.array n e) → n < unk) (h : VR p x x') (h1 : OV p lo lo') (h2 : OV p hi hi') (h3 : OV p mx mx') :
    Sim C p VR (Instr.sliceAt t x lo hi mx) (Instr.sliceAt t x' lo' hi' mx') := by
  unfold Instr.sliceAt
  refine (Sim.under t).bind fun q lq d d' hd => ?_
  obtain ⟨rfl, hd⟩ := hd
  split
  · have hn := hna _ _ hd
    refine (Sim.sureAddr (h.le lq)).bind fun q1 l1 a b hab => ?_
    refine Sim.bindS ((h1.le lq).le l1) ((h2.le lq).le l1) ((h3.le lq).le l1) _ _ _ fun q3 l3 r hr => ?_
    obtain ⟨l, h, m⟩ := r
    refine (Sim.sizeOf _).bindE fun q4 l4 n => .pure fun q5 l5 => ?_
    have hab := ((hab.le l3).le l4).le l5
    (try dsimp only)
    simp only at hr
    split
    · exact VR.sl hab _ _ (by omega)
    · exact VR.sl (hab.add _) _ _ (by omega)
  · exact Sim.slice hk hnp (h.le lq) (h1.le lq) (h2.le lq) (h3.le lq)

theorem Sim.askRoom (n : Nat) : Sim C p (fun _ _ _ => True) (Go.askRoom n) (Go.askRoom n) := by
  unfold Go.askRoom
  exact .ite (fun _ => Sim.mark) fun _ => .pure fun _ _ => trivial

theorem wrap_unk (n : Int) : (IntKind.i64.wrap n).toNat < unk := by
  have : IntKind.i64.wrap n < 9223372036854775808 := by
    simp [IntKind.wrap, IntKind.bits, IntKind.signed]
    split <;> omega
  simp only [unk]; omega
theorem Sim.makeSlice (hz : Zok C.P) {x x' y y' : Value} (h : VR p x x') (k : VR p y y') (t : TypeId) : Sim C p VR (Instr.makeSlice t x y) (Instr.makeSlice t x' y') := by
  unfold Instr.makeSlice
  refine (Sim.underE t).bindE fun q lq d => ?_
  split
  · rename_i elem
    refine (Sim.asInt (h.le lq)).bindX fun q1 l1 len => ?_
    refine (Sim.asInt ((k.le lq).le l1)).bindX fun q2 l2 cap => ?_
    refine (Sim.infoE _).bindE fun q3 l3 i => ?_
    dsimp only
    have pt : ∀ {γ : Type} (e : RuntimeError) (f f' : γ → Sem Value), Sim C q3 VR (Go.runtimePanic e >>= f) (Go.runtimePanic e >>= f') := fun e f f' => (Sim.runtimePanic (A := fun _ _ _ => False) e).bind fun _ _ _ _ h => h.elim
    split
    · refine .ite (fun _ => pt _ _ _) fun _ => .ite (fun _ => pt _ _ _) fun _ => ?_
      exact (Sim.choose _).bindX fun q4 l4 v => (pt _ _ _).le l4
    · refine (Sim.askRoom _).bind fun q4 l4 _ _ _ => ?_
      refine (Sim.sizeOf _).bindE fun q5 l5 size => ?_
      split
      · have hh : Sim C q5 ArrA (Pure.pure #[]) (Pure.pure #[]) := .pure fun _ _ => .nil
        refine hh.bind fun q2 l2 z z' hzz => ?_
        exact (Sim.newRow (zeroMap_rel hzz _) _).bind fun q3 l3 a b hab => .pure fun q4 l4 => VR.sl (hab.le l4) _ _ (wrap_unk _)
      · refine (Sim.zero hz elem).bind fun q0 l0 z z' hz0 => ?_
        have hh : Sim C q0 ArrA (Pure.pure z.cells) (Pure.pure z'.cells) := .pure fun _ l => hz0.cells.le l
        refine hh.bind fun q2 l2 z z' hzz => ?_
        exact (Sim.newRow (zeroMap_rel hzz _) _).bind fun q3 l3 a b hab => .pure fun q4 l4 => VR.sl (hab.le l4) _ _ (wrap_unk _)
  · exact .stuck

end
end Go.Ex

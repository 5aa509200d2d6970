/-
  What the operations do, by names of blocks: maps, and walks over them.
  Conditions: as each theorem says. (No program is named here.)
-/
import Derived.Test.YtpboencfnjmmbaaGreatDoorXE
namespace Go.Ex
set_option linter.unusedVariables false
open Go.RowKit
section
variable {C : Cx} {α β : Type} {p : Rn} {A : Rn → α → α → Prop} {B : Rn → β → β → Prop}

theorem Sim.checkKey (b : Bool) : ∀ (d : Nat) (t : TypeId) {x : Value}, flat1 x = true → Sim C p EqA (Instr.checkKey b d t x) (Instr.checkKey b d t x) := by
  intro d
  induction d generalizing p with
  | zero => intros; exact .unsupported
  | succ d ih =>
    intro t x hx
    unfold Instr.checkKey
    refine (Sim.underE t).bindE fun q l d => ?_
    split
    · rename_i t2 u
      refine (Sim.infoE _).bindE fun q1 l1 i => ?_
      have hx' : leaf u = true := hx
      have hu : flat1 u = true := by simp only [flat1, hx', Bool.true_or]
      have pt : ∀ {q : Rn} (e : RuntimeError) (f f' : Unit → Sem Unit), Sim C q EqA (Go.runtimePanic e >>= f) (Go.runtimePanic e >>= f') := fun e f f' => (Sim.runtimePanic (A := fun _ _ _ => False) e).bind fun _ _ _ _ h => h.elim
      dsimp only
      split
      · split
        · exact pt _ _ _
        · exact (Sim.typeStr _).bindE fun q2 l2 s => pt _ _ _
      · exact ih _ hu
    · rename_i len elem xs
      have hfl : xs.toList.all leaf = true := by simpa only [flat1, leaf, Bool.false_or] using hx
      rw [Std.Legacy.Range.forIn_eq_forIn_range']
      refine Sim.bindE ?_ fun q l _ => .pure fun _ _ => rfl
      refine Sim.loopE _ _ fun q3 l3 f _ b => ?_
      refine (Sim.sizeOf _).bindE fun q4 l4 n => ?_
      refine (Sim.partE hfl _ _).bind fun q5 l5 a a' h => ?_
      obtain ⟨rfl, ha⟩ := h
      exact (ih _ ha).bindE fun q l r => .pure fun _ _ => rfl
    · rename_i fields xs
      have hfl : xs.toList.all leaf = true := by simpa only [flat1, leaf, Bool.false_or] using hx
      rw [← Array.forIn_toList]
      refine Sim.bindE ?_ fun q l _ => .pure fun _ _ => rfl
      refine Sim.loopE _ _ fun q3 l3 f _ b => ?_
      refine .ite (fun _ => ?_) fun _ => .pure fun _ _ => rfl
      refine (Sim.partE hfl _ _).bind fun q5 l5 a a' h => ?_
      obtain ⟨rfl, ha⟩ := h
      exact (ih _ ha).bindE fun q l r => .pure fun _ _ => rfl
    · exact .pure fun _ _ => rfl
    · exact .stuck
    · exact .stuck
    · exact .stuck
    · exact .pure fun _ _ => rfl

def EL (p : Rn) (l l' : List MapEntry) : Prop := l.length = l'.length ∧ ∀ (i : Nat) (u v : MapEntry), l[i]? = some u → l'[i]? = some v → v.key = u.key ∧ flat1 u.key = true ∧ VR p u.val v.val ∧ v.born = u.born
theorem EL.le {q : Rn} {l l' : List MapEntry} (h : EL p l l') (k : Le p q) : EL q l l' := ⟨h.1, fun i u v a b => let ⟨x, y, z, t⟩ := h.2 i u v a b; ⟨x, y, z.le k, t⟩⟩
theorem EL.of {x y : Array MapEntry} (h : ER p x y) (k : x.toList.all (fun e => flat1 e.key) = true) : EL p x.toList y.toList := by
  refine ⟨by simpa using h.1, fun i u v a b => ?_⟩
  have h1 := h.2 i u v (by simpa using a) (by simpa using b)
  have hf : flat1 u.key = true := List.all_eq_true.1 k u (List.mem_of_getElem? a)
  exact ⟨flat_eq hf h1.1, hf, h1.2.1, h1.2.2⟩
theorem EL.tail {u v : MapEntry} {l l' : List MapEntry} (h : EL p (u :: l) (v :: l')) : EL p l l' := ⟨by simpa using h.1, fun i x y a b => h.2 (i + 1) x y (by simpa using a) (by simpa using b)⟩

def FV (p : Rn) : Option (Nat × Value) → Option (Nat × Value) → Prop
  | none, none => True
  | some x, some y => x.1 = y.1 ∧ VR p x.2 y.2
  | _, _ => False
theorem FV.le {q : Rn} {x y : Option (Nat × Value)} (h : FV p x y) (k : Le p q) : FV q x y := by
  cases x <;> cases y <;> first | exact h | exact ⟨h.1, VR.le h.2 k⟩

theorem Sim.findAsking (t : TypeId) {k : Value} (hk : flat1 k = true) : ∀ (l l' : List MapEntry) (i : Nat), EL p l l' → Sim C p FV (Instr.findAsking t k l i) (Instr.findAsking t k l' i) := by
  intro l
  induction l generalizing p with
  | nil =>
    intro l' i h
    have : l' = [] := List.eq_nil_of_length_eq_zero h.1.symm
    subst this
    exact .pure fun _ _ => trivial
  | cons u l ih =>
    intro l' i h
    cases l' with
    | nil => simp [EL] at h
    | cons v l' =>
      obtain ⟨h1, h2, h3, h4⟩ := h.2 0 u v rfl rfl
      unfold Instr.findAsking
      rw [h1]
      refine (Sim.equal (.inl ⟨hk, h2⟩) (VR.of_flat hk) (VR.of_flat h2)).bindX fun q l1 b => ?_
      exact .ite (fun _ => .pure fun q1 l2 => ⟨rfl, (h3.le l1).le l2⟩) fun _ => ih _ _ (h.tail.le l1)

theorem findNow_rel (d : TypeDesc) (k : Value) : ∀ (l l' : List MapEntry) (i : Nat), EL p l l' → (∃ r r', Instr.findNow d k l i = some r ∧ Instr.findNow d k l' i = some r' ∧ FV p r r') ∨ Instr.findNow d k l i = none ∧ Instr.findNow d k l' i = none := by
  intro l
  induction l with
  | nil =>
    intro l' i h
    have : l' = [] := List.eq_nil_of_length_eq_zero h.1.symm
    subst this
    exact .inl ⟨none, none, rfl, rfl, trivial⟩
  | cons u l ih =>
    intro l' i h
    cases l' with
    | nil => simp [EL] at h
    | cons v l' =>
      obtain ⟨h1, h2, h3, h4⟩ := h.2 0 u v rfl rfl
      unfold Instr.findNow
      rw [h1]
      split
      · exact .inl ⟨_, _, rfl, rfl, rfl, h3⟩
      · exact ih _ _ h.tail
      · exact .inr ⟨rfl, rfl⟩

theorem Sim.findKey (t : TypeId) {k : Value} (hk : flat1 k = true) {l l' : List MapEntry} (h : EL p l l') : Sim C p FV (Instr.findKey t k l) (Instr.findKey t k l') := by
  unfold Instr.findKey
  refine (Sim.underE t).bindE fun q l1 d => ?_
  rcases findNow_rel d k l l' 0 (h.le l1) with ⟨r, r', e1, e2, e3⟩ | ⟨e1, e2⟩
  · rw [e1, e2]; exact .pure fun _ l => e3.le l
  · rw [e1, e2]; exact Sim.findAsking t hk _ _ _ (h.le l1)

/-- What a map's entries are read as. -/
theorem Sim.entries {r r' k : Nat} {γ : Type} {D : Rn → γ → γ → Prop} {f f' : Array MapEntry → Nat → Sem γ} {g g' : Sem γ} (h : p r = some (r', k)) (why : ∀ s, arun C.P C.G g s = none)
    (hf : ∀ q, Le p q → ∀ es es' cl, ER q es es' → es.toList.all (fun e => flat1 e.key) = true → Sim C q D (f es cl) (f' es' cl)) :
    Sim C p D (Go.getObj r >>= fun o => match o with | .map es cl => f es cl | _ => g) (Go.getObj r' >>= fun o => match o with | .map es cl => f' es cl | _ => g') := by
  refine (Sim.getObj h).bind fun q l o o' ho => ?_
  obtain ⟨h1, h2⟩ := ho
  cases o with
  | map es cl => obtain ⟨es', rfl, he⟩ := h1; exact hf q l es es' cl he h2
  | _ => exact .no why

theorem Sim.lookup (hz : Zok C.P) {x x' i i' : Value} (h : VR p x x') (hi : VR p i i') (hf : flat1 i = true) (t : TypeId) (ok : Bool) : Sim C p VR (Instr.lookup t x i ok) (Instr.lookup t x' i' ok) := by
  obtain rfl := flat_eq hf hi
  unfold Instr.lookup
  refine (Sim.underE t).bindE fun q lq d => ?_
  have h := h.le lq
  have ix := h.inv
  split
  · rename_i key elem
    have tup : ∀ (q : Rn) (v v' : Value) (b : Bool), VR q v v' → VR q (if ok = true then Value.tuple #[v, Value.bool b] else v) (if ok = true then Value.tuple #[v', Value.bool b] else v') := by
      intro q v v' b hv
      split
      · refine (VR.cl _).tup _ _ ?_
        exact Arr.append (x := #[v]) (x' := #[v']) (y := #[.bool b]) (y' := #[.bool b]) (.one hv) (.one (VR.bool _ _))
      · exact hv
    have fin : ∀ (q1 : Rn), Le q q1 → ∀ es es' : Array MapEntry, EL q1 es.toList es'.toList → Sim C q1 VR (do
        Instr.checkKey es.isEmpty 10000 key i'
        let r ← Instr.findKey key i' es.toList
        match r with
        | some (_, v) => Pure.pure (if ok = true then Value.tuple #[v, Value.bool true] else v)
        | none => do
          let z ← zeroValue elem
          Pure.pure (if ok = true then Value.tuple #[z, Value.bool false] else z)) (do
        Instr.checkKey es'.isEmpty 10000 key i'
        let r ← Instr.findKey key i' es'.toList
        match r with
        | some (_, v) => Pure.pure (if ok = true then Value.tuple #[v, Value.bool true] else v)
        | none => do
          let z ← zeroValue elem
          Pure.pure (if ok = true then Value.tuple #[z, Value.bool false] else z)) := by
      intro q1 l1 es es' he
      have e0 : es'.isEmpty = es.isEmpty := by
        have := he.1
        simp only [Array.isEmpty]
        simp only [Array.length_toList] at this
        rw [this]
      rw [e0]
      refine (Sim.checkKey _ _ _ hf).bindE fun q2 l2 _ => ?_
      refine (Sim.findKey _ hf (he.le l2)).bind fun q3 l3 r r' hr => ?_
      cases r <;> cases r' <;> first | exact hr.elim | skip
      · exact (Sim.zero hz _).bind fun q4 l4 z z' hzz => .pure fun q5 l5 => tup _ _ _ _ (hzz.le l5)
      · exact .pure fun q4 l4 => tup _ _ _ _ (VR.le hr.2 l4)
    cases x with
    | map r =>
      cases r with
      | none =>
        obtain rfl := ix
        exact fin q (Le.refl _) #[] #[] ⟨rfl, by simp⟩
      | some r =>
        obtain ⟨r', k, rfl, hr⟩ := ix
        refine (Sim.getObj hr).bind fun q1 l1 o o' ho => ?_
        obtain ⟨h1, h2⟩ := ho
        cases o with
        | map es cl => obtain ⟨es', rfl, he⟩ := h1; exact fin q1 l1 es es' (EL.of he h2)
        | _ => exact .no fun s => rfl
    | _ => exact .no fun s => rfl
  · exact .stuck

theorem Sim.keyThatStays {k : Value} (hk : flat1 k = true) (k' : Value) (hk' : flat1 k' = true) : Sim C p (fun _ a b => a = b ∧ flat1 a = true) (Instr.keyThatStays k k') (Instr.keyThatStays k k') := by
  unfold Instr.keyThatStays
  refine .ite (fun _ => .pure fun _ _ => ⟨rfl, hk'⟩) fun _ => ?_
  refine (Sim.choose _).bindX fun q l n => .pure fun _ _ => ?_
  split
  · exact ⟨rfl, hk'⟩
  · exact ⟨rfl, hk⟩

theorem ER.modify {x y : Array MapEntry} (h : ER p x y) (i : Nat) {f g : MapEntry → MapEntry} (k : ∀ u v : MapEntry, VR p u.key v.key → VR p u.val v.val → v.born = u.born → VR p (f u).key (g v).key ∧ VR p (f u).val (g v).val ∧ (g v).born = (f u).born) : ER p (x.modify i f) (y.modify i g) := by
  refine ⟨by simpa using h.1, fun j u v a b => ?_⟩
  rw [Array.getElem?_modify] at a b
  split at a
  · rename_i hj
    rw [if_pos hj] at b
    simp only [Option.map_eq_some_iff] at a b
    obtain ⟨u0, hu, rfl⟩ := a
    obtain ⟨v0, hv, rfl⟩ := b
    obtain ⟨h1, h2, h3⟩ := h.2 j u0 v0 hu hv
    exact k u0 v0 h1 h2 h3
  · rename_i hj
    rw [if_neg hj] at b
    exact h.2 j u v a b
theorem ER.push {x y : Array MapEntry} (h : ER p x y) {u v : MapEntry} (k : VR p u.key v.key ∧ VR p u.val v.val ∧ v.born = u.born) : ER p (x.push u) (y.push v) := by
  refine ⟨by simpa using h.1, fun j a b e f => ?_⟩
  rw [Array.getElem?_push] at e f
  rw [← h.1] at f
  split at e
  · rename_i hj; rw [if_pos hj] at f; cases e; cases f; exact k
  · rename_i hj; rw [if_neg hj] at f; exact h.2 j a b e f
theorem ER.erase {x y : Array MapEntry} (h : ER p x y) (i : Nat) : ER p (x.eraseIdxIfInBounds i) (y.eraseIdxIfInBounds i) := by
  have hs := h.1
  by_cases hi : i < x.size
  · have hi' : i < y.size := by omega
    rw [Array.eraseIdxIfInBounds, Array.eraseIdxIfInBounds, dif_pos hi, dif_pos hi']
    refine ⟨by simp [hs], fun j a b e f => ?_⟩
    rw [Array.getElem?_eraseIdx] at e f
    split at e
    · rename_i hj; rw [if_pos hj] at f; exact h.2 j a b e f
    · rename_i hj; rw [if_neg hj] at f; exact h.2 _ a b e f
  · have hi' : ¬ i < y.size := by omega
    rw [Array.eraseIdxIfInBounds, Array.eraseIdxIfInBounds, dif_neg hi, dif_neg hi']
    exact h

theorem Sim.mapUpdate {m m' k k' v v' : Value} (h : VR p m m') (hk : VR p k k') (hf : flat1 k = true) (hv : VR p v v') (t : TypeId) : Sim C p (fun _ _ _ => True) (Instr.mapUpdate t m k v) (Instr.mapUpdate t m' k' v') := by
  obtain rfl := flat_eq hf hk
  unfold Instr.mapUpdate
  refine (Sim.underE t).bindE fun q lq d => ?_
  have h := h.le lq
  have ix := h.inv
  split
  · rename_i key elem
    split
    · obtain rfl := ix
      exact Sim.runtimePanic _
    · obtain ⟨r', kk, rfl, hr⟩ := ix
      refine (Sim.getObj hr).bind fun q1 l1 o o' ho => ?_
      obtain ⟨h1, h2⟩ := ho
      cases o with
      | map es cl =>
        obtain ⟨es', rfl, he⟩ := h1
        dsimp only
        refine (Sim.checkKey _ _ _ hf).bindE fun q2 l2 _ => ?_
        refine (Sim.findKey _ hf ((EL.of he h2).le l2)).bind fun q3 l3 r r' hr3 => ?_
        have hrr := l3 _ _ (l2 _ _ (l1 _ _ hr))
        have he3 := (he.le l2).le l3
        have hv3 := (((hv.le lq).le l1).le l2).le l3
        cases r <;> cases r' <;> first | exact hr3.elim | skip
        · exact Sim.setObj hrr fun q l => ⟨_, rfl, (he3.le l).push ⟨VR.of_flat hf, hv3.le l, rfl⟩⟩
        · rename_i a b
          obtain ⟨i, u⟩ := a
          obtain ⟨j, u'⟩ := b
          obtain ⟨e1, e2⟩ := hr3
          simp only at e1
          subst e1
          dsimp only
          have hkk : ((es'[i]?).map (·.key)).getD k' = ((es[i]?).map (·.key)).getD k' ∧ flat1 (((es[i]?).map (·.key)).getD k') = true := by
            cases e : es[i]? with
            | none => rw [show es'[i]? = none by rw [Array.getElem?_eq_none_iff] at *; have := he.1; omega]; exact ⟨rfl, hf⟩
            | some x =>
              have hi : i < es'.size := by have := (Array.getElem?_eq_some_iff.1 e).1; have := he.1; omega
              have e' : es'[i]? = some es'[i] := by simp
              rw [e']
              obtain ⟨g1, g2, _⟩ := (EL.of he h2).2 i x es'[i] (by simpa using e) (by simp)
              exact ⟨g1, g2⟩
          rw [hkk.1]
          refine (Sim.keyThatStays hkk.2 k' hf).bind fun q4 l4 a b hab => ?_
          obtain ⟨rfl, ha⟩ := hab
          refine Sim.setObj (l4 _ _ hrr) fun q l => ⟨_, rfl, (((he3.le l4).le l).modify _ fun u v h1 h2 h3 => ⟨VR.of_flat ha, (hv3.le l4).le l, h3⟩)⟩
      | _ => exact .stuck
    · exact .stuck
  · exact .stuck

theorem Sim.setMap {r r' k cl : Nat} {es es' : Array MapEntry} (h : p r = some (r', k)) (ho : ∀ q, Le p q → ER q es es') : Sim C p (fun _ _ _ => True) (Go.setObj r (.map es cl)) (Go.setObj r' (.map es' cl)) :=
  Sim.setObj h fun q l => ⟨es', rfl, ho q l⟩

theorem Sim.mapEntry (hz : Zok C.P) {m m' k k' : Value} (h : VR p m m') (hk : VR p k k') (hf : flat1 k = true) (t : TypeId) : Sim C p VR (Instr.mapEntry t m k) (Instr.mapEntry t m' k') := by
  obtain rfl := flat_eq hf hk
  unfold Instr.mapEntry
  refine (Sim.underE t).bindE fun q lq d => ?_
  have h := h.le lq
  have ix := h.inv
  have tup : ∀ (q : Rn) (v v' : Value) (n : Int), VR q v v' → VR q (Value.tuple #[v, goInt n]) (Value.tuple #[v', goInt n]) := by
    intro q v v' n hv
    refine (VR.cl _).tup _ _ ?_
    exact Arr.append (x := #[v]) (x' := #[v']) (y := #[goInt n]) (y' := #[goInt n]) (.one hv) (.one (VR.int _ _ _))
  split
  · rename_i key elem
    split
    · obtain rfl := ix
      exact Sim.runtimePanic _
    · obtain ⟨r', kk, rfl, hr⟩ := ix
      refine (Sim.getObj hr).bind fun q1 l1 o o' ho => ?_
      obtain ⟨h1, h2⟩ := ho
      cases o with
      | map es cl =>
        obtain ⟨es', rfl, he⟩ := h1
        dsimp only
        refine (Sim.checkKey _ _ _ hf).bindE fun q2 l2 _ => ?_
        refine (Sim.findKey _ hf ((EL.of he h2).le l2)).bind fun q3 l3 r r' hr3 => ?_
        have hrr := l3 _ _ (l2 _ _ (l1 _ _ hr))
        have he3 := (he.le l2).le l3
        cases r <;> cases r' <;> first | exact hr3.elim | skip
        · refine (Sim.zero hz _).bind fun q4 l4 z z' hzz => ?_
          refine (Sim.setMap (es := es.push ⟨k', z, cl⟩) (es' := es'.push ⟨k', z', cl⟩) (l4 _ _ hrr) fun q l => ((he3.le l4).le l).push ⟨VR.of_flat hf, hzz.le l, rfl⟩).bind fun q5 l5 _ _ _ => ?_
          exact .pure fun q6 l6 => tup _ _ _ _ ((hzz.le l5).le l6)
        · rename_i a b
          obtain ⟨i, u⟩ := a
          obtain ⟨j, u'⟩ := b
          obtain ⟨e1, e2⟩ := hr3
          simp only at e1
          subst e1
          dsimp only
          have hkk : ((es'[i]?).map (·.key)).getD k' = ((es[i]?).map (·.key)).getD k' ∧ flat1 (((es[i]?).map (·.key)).getD k') = true ∧ ((es'[i]?).map (fun x => (x.born : Int))).getD 0 = ((es[i]?).map (fun x => (x.born : Int))).getD 0 := by
            cases e : es[i]? with
            | none => rw [show es'[i]? = none by rw [Array.getElem?_eq_none_iff] at *; have := he.1; omega]; exact ⟨rfl, hf, rfl⟩
            | some x =>
              have hi : i < es'.size := by have := (Array.getElem?_eq_some_iff.1 e).1; have := he.1; omega
              have e' : es'[i]? = some es'[i] := by simp
              rw [e']
              obtain ⟨g1, g2, _, g4⟩ := (EL.of he h2).2 i x es'[i] (by simpa using e) (by simp)
              exact ⟨g1, g2, by simp [g4]⟩
          rw [hkk.1, hkk.2.2]
          refine (Sim.keyThatStays hkk.2.1 k' hf).bind fun q4 l4 a b hab => ?_
          obtain ⟨rfl, ha⟩ := hab
          refine (Sim.setMap (es := es.modify i fun e => { e with key := a }) (es' := es'.modify i fun e => { e with key := a }) (l4 _ _ hrr) fun q l => (((he3.le l4).le l).modify _ fun u v h1 h2 h3 => ⟨VR.of_flat ha, h2, h3⟩)).bind fun q5 l5 _ _ _ => ?_
          exact .pure fun q6 l6 => tup _ _ _ _ (((VR.le e2 l4).le l5).le l6)
      | _ => exact .stuck
    · exact .stuck
  · exact .stuck

theorem ER.findIdx {x y : Array MapEntry} (h : ER p x y) (b : Int) : y.findIdx? (fun e => (e.born : Int) == b) = x.findIdx? (fun e => (e.born : Int) == b) := by
  obtain ⟨x⟩ := x
  obtain ⟨y⟩ := y
  simp only [List.findIdx?_toArray]
  obtain ⟨h1, h2⟩ := h
  simp only [List.size_toArray, List.getElem?_toArray] at h1 h2
  induction x generalizing y with
  | nil => obtain rfl := List.eq_nil_of_length_eq_zero (l := y) (by simpa using h1.symm); rfl
  | cons u x ih =>
    cases y with
    | nil => simp at h1
    | cons v y =>
      rw [List.findIdx?_cons, List.findIdx?_cons, (h2 0 u v rfl rfl).2.2, ih y (by simpa using h1) fun i a b e f => h2 (i + 1) a b (by simpa using e) (by simpa using f)]

theorem Sim.entryStore {m m' k k' v v' : Value} (h : VR p m m') (hk : VR p k k') (hv : VR p v v') (t : TypeId) : Sim C p (fun _ _ _ => True) (Instr.entryStore t m k v) (Instr.entryStore t m' k' v') := by
  unfold Instr.entryStore
  have ix := h.inv
  split
  · obtain ⟨r', kk, rfl, hr⟩ := ix
    refine (Sim.getObj hr).bind fun q1 l1 o o' ho => ?_
    obtain ⟨h1, h2⟩ := ho
    cases o with
    | map es cl =>
      obtain ⟨es', rfl, he⟩ := h1
      dsimp only
      refine (Sim.asInt (hk.le l1)).bindX fun q2 l2 b => ?_
      rw [he.findIdx]
      split
      · exact Sim.setObj (l2 _ _ (l1 _ _ hr)) fun q l => ⟨_, rfl, ((he.le l2).le l).modify _ fun u v a b c => ⟨a, ((hv.le l1).le l2).le l, c⟩⟩
      · exact .unsupported
    | _ => exact .stuck
  · exact .stuck

theorem VR.tup0 : VR p (.tuple #[]) (.tuple #[]) := VR.undef p
theorem Sim.delete {args args' : Array Value} (h : Arr (VR p) args args') (hf : ∀ k, args[1]? = some k → flat1 k = true) (ts : Array TypeId) (t : TypeId) : Sim C p VR (Builtin.delete_ ts t args) (Builtin.delete_ ts t args') := by
  unfold Builtin.delete_
  cases e0 : args[0]? with
  | none => exact .no fun s => by cases ts[0]? <;> rfl
  | some m =>
    cases e1 : args[1]? with
    | none => exact .no fun s => by cases ts[0]? <;> rfl
    | some k =>
      obtain ⟨m', e0', hm⟩ := h.get e0
      obtain ⟨k', e1', hk⟩ := h.get e1
      have hf := hf k e1
      obtain rfl := flat_eq hf hk
      rw [e0', e1']
      cases ts[0]? with
      | none => exact .stuck
      | some mt =>
        dsimp only
        refine (Sim.underE _).bindE fun q lq d => ?_
        have hm := hm.le lq
        have ix := hm.inv
        split
        · rename_i key elem
          split
          · obtain rfl := ix
            exact (Sim.checkKey _ _ _ hf).bindE fun q2 l2 _ => .pure fun _ _ => VR.tup0
          · obtain ⟨r', kk, rfl, hr⟩ := ix
            refine (Sim.getObj hr).bind fun q1 l1 o o' ho => ?_
            obtain ⟨h1, h2⟩ := ho
            cases o with
            | map es cl =>
              obtain ⟨es', rfl, he⟩ := h1
              dsimp only
              have e0 : es'.isEmpty = es.isEmpty := by simp only [Array.isEmpty, he.1]
              rw [e0]
              refine (Sim.checkKey _ _ _ hf).bindE fun q2 l2 _ => ?_
              refine (Sim.findKey _ hf ((EL.of he h2).le l2)).bind fun q3 l3 r r' hr3 => ?_
              have hrr := l3 _ _ (l2 _ _ (l1 _ _ hr))
              have he3 := (he.le l2).le l3
              cases r <;> cases r' <;> first | exact hr3.elim | skip
              · exact (Sim.setMap hrr fun q l => he3.le l).bind fun q5 l5 _ _ _ => .pure fun _ _ => VR.tup0
              · rename_i a b
                obtain ⟨i, u⟩ := a
                obtain ⟨j, u'⟩ := b
                obtain ⟨e1, e2⟩ := hr3
                simp only at e1
                subst e1
                exact (Sim.setMap hrr fun q l => (he3.le l).erase i).bind fun q5 l5 _ _ _ => .pure fun _ _ => VR.tup0
            | _ => exact .no fun s => rfl
          · exact .no fun s => rfl
        · exact .stuck

theorem VR.map {r r' k : Nat} (h : p r = some (r', k)) : VR p (.map (some r)) (.map (some r')) := (VR.cl p).mp r r' k h
theorem Sim.makeMap (t : TypeId) {x x' : Option Value} (h : OV p x x') : Sim C p VR (Instr.makeMap t x) (Instr.makeMap t x') := by
  unfold Instr.makeMap
  have fin : ∀ q, Sim C q VR (do Pure.pure (Value.map (some (← newObj (.map #[] 0))))) (do Pure.pure (Value.map (some (← newObj (.map #[] 0))))) := fun q =>
    (Sim.new (o := .map #[] 0) (o' := .map #[] 0) fun q l => ⟨#[], rfl, rfl, by simp⟩).bind fun q l a b e => .pure fun q1 l1 => VR.map (l1 _ _ e)
  cases x with
  | none => cases x' with
    | none => exact fin _
    | some _ => exact h.elim
  | some v => cases x' with
    | none => exact h.elim
    | some v' =>
      refine (Sim.underE t).bindE fun q lq d => ?_
      split
      · exact (Sim.asInt (VR.le h lq)).bindX fun q1 l1 _ => fin _
      · exact .no fun s => rfl

theorem Sim.range {x x' : Value} (h : VR p x x') (t : TypeId) : Sim C p VR (Instr.range t x) (Instr.range t x') := by
  unfold Instr.range
  refine (Sim.underE t).bindE fun q lq d => ?_
  have h := h.le lq
  have ix := h.inv
  have fin : ∀ (q1 : Rn) (o o' : Obj), (∀ q2, Le q1 q2 → OR q2 0 o o') → Sim C q1 VR (do Pure.pure (Value.pointer (some ⟨← newObj o, 0, none⟩))) (do Pure.pure (Value.pointer (some ⟨← newObj o', 0, none⟩))) := fun q1 o o' h =>
    (Sim.new h).bind fun q l a b e => .pure fun q1 l1 => VR.ptr ⟨⟨0, l1 _ _ e⟩, rfl, rfl⟩
  split
  · obtain rfl := ix
    exact fin _ _ _ fun _ _ => rfl
  · obtain rfl := ix
    exact fin _ _ _ fun _ _ => rfl
  · obtain ⟨r', kk, rfl, hr⟩ := ix
    refine (Sim.getObj hr).bind fun q1 l1 o o' ho => ?_
    obtain ⟨h1, h2⟩ := ho
    cases o with
    | map es cl =>
      obtain ⟨es', rfl, he⟩ := h1
      exact fin _ _ _ fun q l => ⟨r', kk, rfl, l _ _ (l1 _ _ hr)⟩
    | _ => exact .stuck
  · exact .stuck

theorem ER.filter {x y : Array MapEntry} (h : ER p x y) (f : Nat → Bool) : ER p (x.filter fun e => f e.born) (y.filter fun e => f e.born) := by
  obtain ⟨x⟩ := x
  obtain ⟨y⟩ := y
  obtain ⟨h1, h2⟩ := h
  simp only [List.size_toArray, List.getElem?_toArray] at h1 h2
  simp only [ER, List.filter_toArray', List.size_toArray, List.getElem?_toArray]
  induction x generalizing y with
  | nil => obtain rfl := List.eq_nil_of_length_eq_zero (l := y) (by simpa using h1.symm); simp
  | cons u x ih =>
    cases y with
    | nil => simp at h1
    | cons v y =>
      have hb := (h2 0 u v rfl rfl)
      have := ih y (by simpa using h1) fun i a b e f => h2 (i + 1) a b (by simpa using e) (by simpa using f)
      rw [List.filter_cons, List.filter_cons, hb.2.2]
      split
      · refine ⟨by simp [this.1], fun i a b e f => ?_⟩
        cases i with
        | zero => simp at e f; subst e; subst f; exact hb
        | succ i => exact this.2 i a b (by simpa using e) (by simpa using f)
      · exact this
theorem ER.all {x y : Array MapEntry} (h : ER p x y) (f : Nat → Bool) : (y.all fun e => f e.born) = (x.all fun e => f e.born) := by
  obtain ⟨x⟩ := x
  obtain ⟨y⟩ := y
  obtain ⟨h1, h2⟩ := h
  simp only [List.size_toArray, List.getElem?_toArray] at h1 h2
  simp only [List.all_toArray']
  induction x generalizing y with
  | nil => obtain rfl := List.eq_nil_of_length_eq_zero (l := y) (by simpa using h1.symm); rfl
  | cons u x ih =>
    cases y with
    | nil => simp at h1
    | cons v y => simp only [List.all_cons, (h2 0 u v rfl rfl).2.2, ih y (by simpa using h1) fun i a b e f => h2 (i + 1) a b (by simpa using e) (by simpa using f)]
theorem ER.append {x y x' y' : Array MapEntry} (h : ER p x x') (k : ER p y y') : ER p (x ++ y) (x' ++ y') := by
  refine ⟨by simp [h.1, k.1], fun i u v a b => ?_⟩
  rw [Array.getElem?_append] at a b
  rw [← h.1] at b
  split at a
  · rename_i hi; rw [if_pos hi] at b; exact h.2 i u v a b
  · rename_i hi; rw [if_neg hi] at b; exact k.2 _ u v a b


theorem ER.find {x y : Array MapEntry} (h : ER p x y) (n : Nat) : (x.find? (fun e => e.born == n) = none ∧ y.find? (fun e => e.born == n) = none) ∨ ∃ e e', x.find? (fun e => e.born == n) = some e ∧ y.find? (fun e => e.born == n) = some e' ∧ VR p e.key e'.key ∧ VR p e.val e'.val := by
  obtain ⟨x⟩ := x
  obtain ⟨y⟩ := y
  obtain ⟨h1, h2⟩ := h
  simp only [List.size_toArray, List.getElem?_toArray] at h1 h2
  simp only [List.find?_toArray]
  induction x generalizing y with
  | nil => obtain rfl := List.eq_nil_of_length_eq_zero (l := y) (by simpa using h1.symm); exact .inl ⟨rfl, rfl⟩
  | cons u x ih =>
    cases y with
    | nil => simp at h1
    | cons v y =>
      have hb := h2 0 u v rfl rfl
      rw [List.find?_cons, List.find?_cons, hb.2.2]
      cases e : (u.born == n)
      · exact ih y (by simpa using h1) fun i a b e f => h2 (i + 1) a b (by simpa using e) (by simpa using f)
      · exact .inr ⟨u, v, rfl, rfl, hb.1, hb.2.1⟩
theorem VR.tupOf {l l' : List Value} (h : Arr (VR p) l.toArray l'.toArray) : VR p (.tuple l.toArray) (.tuple l'.toArray) := (VR.cl p).tup _ _ h
theorem Arr.three {b : Bool} {k k' v v' : Value} (h : VR p k k') (hv : VR p v v') : Arr (VR p) #[.bool b, k, v] #[.bool b, k', v'] :=
  (Arr.append (x := #[.bool b]) (x' := #[.bool b]) (y := #[k]) (y' := #[k']) (.one (VR.bool _ _)) (.one h)).append (y := #[v]) (y' := #[v']) (.one hv)
theorem Arr.two {k k' v v' : Value} (h : VR p k k') (hv : VR p v v') : Arr (VR p) #[k, v] #[k', v'] :=
  (Arr.append (x := #[k]) (x' := #[k']) (y := #[v]) (y' := #[v']) (.one h) (.one hv))

theorem Sim.next {x x' : Value} (h : VR p x x') (b : Bool) (t : TypeId) : Sim C p VR (Instr.next x b t) (Instr.next x' b t) := by
  unfold Instr.next
  have ix := h.inv
  have over : ∀ q, Sim C q VR (Pure.pure (Value.tuple #[Value.bool false])) (Pure.pure (Value.tuple #[Value.bool false])) := fun q => .pure fun q l => VR.of_flat (by decide)
  dsimp only
  split
  · rename_i r sp
    obtain ⟨b', rfl, ⟨kk, hr⟩, h2, h3⟩ := ix
    obtain ⟨r', o', s'⟩ := b'
    simp only at hr h2 h3
    subst h2 h3
    (try dsimp only)
    refine (Sim.getObj hr).bind fun q1 l1 o o' ho => ?_
    obtain ⟨h1, h2⟩ := ho
    cases o with
    | stringIter s n =>
      obtain rfl := h1
      cases b
      · exact .stuck
      · dsimp only
        split
        · refine (Sim.setObj (o := .stringIter s _) (l1 _ _ hr) fun q l => rfl).bind fun q2 l2 _ _ _ => ?_
          refine .pure fun q l => VR.of_flat ?_
          rfl
        · exact over _
    | mapIter m since seen last =>
      cases m with
      | none => obtain rfl := h1; cases b <;> first | exact over _ | exact .stuck
      | some m =>
        obtain ⟨m', km, rfl, hm⟩ := h1
        cases b
        · dsimp only
          refine (Sim.getObj hm).bind fun q2 l2 o o' ho => ?_
          obtain ⟨h1, h2⟩ := ho
          cases o with
          | map es cl =>
            obtain ⟨es', rfl, he⟩ := h1
            dsimp only
            have e0 : es'.isEmpty = es.isEmpty := by simp only [Array.isEmpty, he.1]
            have e1 : (es'.all fun e => decide (e.born ≥ last)) = (es.all fun e => decide (e.born ≥ last)) := he.all fun n => decide (n ≥ last)
            have he1 := he.filter fun n => !seen.contains n
            have he2 := he1.filter fun n => decide (n < since)
            have he3 := he1.filter fun n => decide (n ≥ since)
            have e2 := he2.1
            have he4 := he2.append he3
            rw [e0, e1]
            split
            · exact .no fun s => rfl
            · generalize Array.filter (fun e => decide (e.born < since)) (Array.filter (fun e => !seen.contains e.born) es) = old at *
              generalize Array.filter (fun e => decide (e.born < since)) (Array.filter (fun e => !seen.contains e.born) es') = old' at *
              generalize Array.filter (fun e => decide (e.born ≥ since)) (Array.filter (fun e => !seen.contains e.born) es) = new at *
              generalize Array.filter (fun e => decide (e.born ≥ since)) (Array.filter (fun e => !seen.contains e.born) es') = new' at *
              have e3 : old'.isEmpty = old.isEmpty := by simp only [Array.isEmpty, e2]
              rw [e3]
              have fin : ∀ (q3 : Rn), Le q2 q3 → ∀ o o' : Option MapEntry, (o = none ∧ o' = none ∨ ∃ (e e' : MapEntry), o = some e ∧ o' = some e' ∧ VR q3 e.key e'.key ∧ VR q3 e.val e'.val ∧ e'.born = e.born) →
                  Sim C q3 VR (match some o with
                    | some (some e) => do Go.setObj r (.mapIter (some m) since (seen.push e.born) cl); Pure.pure (Value.tuple #[.bool true, e.key, e.val])
                    | some none => Pure.pure (Value.tuple #[.bool false])
                    | none => Go.stuck "Next: no such candidate") (match some o' with
                    | some (some e) => do Go.setObj r' (.mapIter (some m') since (seen.push e.born) cl); Pure.pure (Value.tuple #[.bool true, e.key, e.val])
                    | some none => Pure.pure (Value.tuple #[.bool false])
                    | none => Go.stuck "Next: no such candidate") := by
                intro q3 l3 o o' h
                rcases h with ⟨rfl, rfl⟩ | ⟨e, e', rfl, rfl, g1, g2, g3⟩
                · exact over _
                · dsimp only
                  rw [g3]
                  refine (Sim.setObj (o := .mapIter (some m) since (seen.push e.born) cl) (o' := .mapIter (some m') since (seen.push e.born) cl) (l3 _ _ (l2 _ _ (l1 _ _ hr))) fun q l => ⟨m', km, rfl, l _ _ (l3 _ _ (l2 _ _ hm))⟩).bind fun q4 l4 _ _ _ => ?_
                  exact .pure fun q5 l5 => (VR.cl _).tup _ _ (.three ((g1.le l4).le l5) ((g2.le l4).le l5))
              have hsz : (((if old.isEmpty = true then #[none] else #[]) ++ Array.map some (old' ++ new')).size : Nat) = ((if old.isEmpty = true then #[none] else #[]) ++ Array.map some (old ++ new)).size := by
                have := he4.1
                simp only [Array.size_append, Array.size_map] at *
                omega
              rw [hsz]
              refine (Sim.choose _).bindX fun q3 l3 n => ?_
              have hent : ∀ i : Nat, (((old ++ new)[i]? = none ∧ (old' ++ new')[i]? = none) ∨ ∃ (e e' : MapEntry), (old ++ new)[i]? = some e ∧ (old' ++ new')[i]? = some e' ∧ VR q3 e.key e'.key ∧ VR q3 e.val e'.val ∧ e'.born = e.born) := by
                intro i
                cases e : (old ++ new)[i]? with
                | none => exact .inl ⟨rfl, by rw [Array.getElem?_eq_none_iff] at *; have := he4.1; omega⟩
                | some u =>
                  have hi : i < (old' ++ new').size := by have := (Array.getElem?_eq_some_iff.1 e).1; have := he4.1; omega
                  have e' : (old' ++ new')[i]? = some (old' ++ new')[i] := by simp
                  obtain ⟨g1, g2, g3⟩ := he4.2 i u _ e e'
                  exact .inr ⟨u, _, rfl, e', g1.le l3, g2.le l3, g3⟩
              by_cases hob : old.isEmpty = true
              · simp only [hob, if_true]
                rw [Array.getElem?_append, Array.getElem?_append, Array.getElem?_map, Array.getElem?_map]
                by_cases hn : n < (#[none] : Array (Option MapEntry)).size
                · rw [if_pos hn, if_pos hn]
                  have hn : n = 0 := by simpa using hn
                  subst hn
                  exact fin q3 l3 none none (.inl ⟨rfl, rfl⟩)
                · rw [if_neg hn, if_neg hn]
                  rcases hent (n - (#[none] : Array (Option MapEntry)).size) with ⟨f1, f2⟩ | ⟨e, e', f1, f2, f3⟩
                  · rw [f1, f2]; exact .stuck
                  · rw [f1, f2]; exact fin q3 l3 (some e) (some e') (.inr ⟨e, e', rfl, rfl, f3⟩)
              · simp only [hob, Bool.false_eq_true, if_false]
                rw [Array.getElem?_append, Array.getElem?_append, Array.getElem?_map, Array.getElem?_map]
                by_cases hn : n < (#[] : Array (Option MapEntry)).size
                · simp at hn
                · rw [if_neg hn, if_neg hn]
                  rcases hent (n - (#[] : Array (Option MapEntry)).size) with ⟨f1, f2⟩ | ⟨e, e', f1, f2, f3⟩
                  · rw [f1, f2]; exact .stuck
                  · rw [f1, f2]; exact fin q3 l3 (some e) (some e') (.inr ⟨e, e', rfl, rfl, f3⟩)
          | _ => exact .stuck
        · exact .stuck
    | _ => first | (cases h2; done) | (cases b <;> exact .stuck)
  · exact .stuck

theorem Sim.entry {x x' : Value} (h : VR p x x') : Sim C p VR (Instr.entry x) (Instr.entry x') := by
  unfold Instr.entry
  have ix := h.inv
  split
  · rename_i r sp
    obtain ⟨b', rfl, ⟨kk, hr⟩, h2, h3⟩ := ix
    obtain ⟨r', o', s'⟩ := b'
    simp only at hr h2 h3
    subst h2 h3
    dsimp only
    refine (Sim.getObj hr).bind fun q1 l1 o o' ho => ?_
    obtain ⟨h1, h2⟩ := ho
    cases o with
    | mapIter m since seen last =>
      cases m with
      | none => obtain rfl := h1; exact .stuck
      | some m =>
        obtain ⟨m', km, rfl, hm⟩ := h1
        dsimp only
        split
        · refine (Sim.getObj hm).bind fun q2 l2 o o' ho => ?_
          obtain ⟨h1, h2⟩ := ho
          cases o with
          | map es cl =>
            obtain ⟨es', rfl, he⟩ := h1
            dsimp only
            split
            · exact .no fun s => rfl
            · rename_i stamp _ _
              rcases he.find stamp with ⟨f1, f2⟩ | ⟨e, e', f1, f2, f3, f4⟩
              · rw [f1, f2]; exact .unsupported
              · rw [f1, f2]; exact .pure fun q l => (VR.cl _).tup _ _ (.two (f3.le l) (f4.le l))
          | _ => exact .stuck
        · exact .stuck
    | _ => exact .stuck
  · exact .stuck

end
end Go.Ex

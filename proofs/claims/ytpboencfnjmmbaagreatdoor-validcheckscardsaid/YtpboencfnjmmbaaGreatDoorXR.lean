/-
  A program's tables are flat; the library's functions without a body; where a plain run begins.
  Conditions: as each theorem says. (No program is named here.)
-/
import Derived.Test.YtpboencfnjmmbaaGreatDoorXQ
namespace Go.Ex
set_option linter.unusedVariables false
open Go.RowKit

/-- An array of values that name no block. -/
def AL (c : Array Value) : Prop := ∀ (p : Rn), ∀ x ∈ c.toList, VR p x x
theorem AL.arr {c : Array Value} (h : AL c) (p : Rn) : Arr (VR p) c c := by
  refine ⟨rfl, fun i u v a b => ?_⟩
  rw [a] at b
  cases b
  exact h p u (List.mem_of_getElem? (l := c.toList) (i := i) (by simpa using a))
theorem VR.al {v : Value} (h : ∀ p, VR p v v) : AL v.cells := by
  intro p x hx
  obtain ⟨i, hi⟩ := List.mem_iff_getElem?.1 hx
  have hi : v.cells[i]? = some x := by simpa using hi
  exact (h p).cells.2 i x x hi hi
/-- What a type's variables begin with names no block. -/
def ZL (i : TypeInfo) : Prop := ∀ v, i.zero = some v → ∀ p, VR p v v
theorem zl_word {d : TypeDesc} {s : String} {z : Value} {b : Bool} {n : Nat} (h : leaf z = true) : ZL (Made.word d s z b n) := by
  intro v e p
  cases e
  exact VR.of_leaf h

theorem opt_bind {α β : Type} {x : Option α} {f : α → Option β} {b : β} (h : (x >>= f) = some b) : ∃ a, x = some a ∧ f a = some b := by
  cases x with
  | none => cases h
  | some a => exact ⟨a, rfl, h⟩

theorem forIn_inv {α β : Type} (I : β → Prop) {f : α → β → Option (ForInStep β)} (hf : ∀ a b r, I b → f a b = some r → I r.value) : ∀ (l : List α) (b b' : β), I b → (forIn l b f : Option β) = some b' → I b' := by
  intro l
  induction l with
  | nil => intro b b' hb h; cases h; exact hb
  | cons a l ih =>
    intro b b' hb h
    rw [List.forIn_cons] at h
    obtain ⟨r, h1, h2⟩ := opt_bind h
    have := hf a b r hb h1
    cases r with
    | done c => cases h2; exact this
    | yield c => exact ih c b' this h2

theorem AL.append {x y : Array Value} (h : AL x) (k : AL y) : AL (x ++ y) := by
  intro p z hz
  rw [Array.toList_append, List.mem_append] at hz
  exact hz.elim (h p z) (k p z)
abbrev SS := Array Field × Nat × Nat × Nat × Nat × Bool × Bool × Option (Array Value) × String
def SI (s : SS) : Prop := ∀ z, s.2.2.2.2.2.2.2.1 = some z → AL z
theorem zl_struct {info : TypeId → Option TypeInfo} (hi : ∀ t i, info t = some i → ZL i) {fs : Array Field} {i : TypeInfo} (h : Made.reckonStruct info fs = some i) : ZL i := by
  unfold Made.reckonStruct at h
  dsimp only at h
  obtain ⟨st, h1, h2⟩ := opt_bind h
  have hst : SI st := by
    rw [← Array.forIn_toList] at h1
    refine forIn_inv SI ?_ _ _ _ ?_ h1
    · intro f b r hb hr
      obtain ⟨j, g1, g2⟩ := opt_bind hr
      have fin : ∀ z, (if b.2.1 + j.size > Made.mostCells then none else do
          let a ← b.2.2.2.2.2.2.2.1
          let c ← j.zero
          pure (a ++ c.cells)) = some z → AL z := by
        intro z hz
        split at hz
        · cases hz
        · obtain ⟨x, k1, k2⟩ := opt_bind hz
          obtain ⟨y, k3, k4⟩ := opt_bind k2
          cases k4
          exact (hb x k1).append (VR.al (hi _ _ g1 y k3))
      split at g2
      · cases g2
      split at g2
      · cases g2
      split at g2
      · split at g2
        · cases g2; exact fin
        · cases g2; exact fin
      · obtain ⟨t, g3, g4⟩ := opt_bind g2
        split at g4
        · cases g4; exact fin
        · cases g4; exact fin
    · intro z hz; cases hz; intro p x hx; cases hx
  have fin : ∀ v, Option.map Value.agg st.2.2.2.2.2.2.2.1 = some v → ∀ p, VR p v v := by
    intro v hv p
    obtain ⟨z, k1, k2⟩ := Option.map_eq_some_iff.1 hv
    subst k2
    exact (VR.cl p).agg _ _ ((hst z k1).arr p)
  split at h2 <;> (cases h2; exact fin)

theorem AL.rep {c : Array Value} (h : AL c) (n : Nat) : AL ((Array.replicate n c).flatten) := by
  intro p x hx
  rw [Array.toList_flatten, List.mem_flatten] at hx
  obtain ⟨l, h1, h2⟩ := hx
  simp only [Array.toList_replicate, List.map_replicate, List.mem_replicate] at h1
  obtain ⟨_, rfl⟩ := h1
  exact h p x h2

theorem zl_reckon {info : TypeId → Option TypeInfo} (hi : ∀ t i, info t = some i → ZL i) {d : TypeDesc} {i : TypeInfo} (h : Made.reckon info d = some i) : ZL i := by
  unfold Made.reckon at h
  split at h
  · obtain ⟨j, h1, h2⟩ := opt_bind h
    split at h2
    · cases h2
    · split at h2
      · cases h2
      · obtain ⟨s, h3, h4⟩ := opt_bind h2
        cases h4; exact zl_word rfl
    · obtain ⟨s, h3, h4⟩ := opt_bind h2
      cases h4; exact zl_word rfl
  · obtain ⟨j, h1, h2⟩ := opt_bind h
    obtain ⟨s, h3, h4⟩ := opt_bind h2
    cases h4; exact zl_word rfl
  · obtain ⟨j, h1, h2⟩ := opt_bind h
    obtain ⟨s, h3, h4⟩ := opt_bind h2
    obtain ⟨s2, h5, h6⟩ := opt_bind h4
    obtain ⟨s3, h7, h8⟩ := opt_bind h6
    cases h8; exact zl_word rfl
  · obtain ⟨j, h1, h2⟩ := opt_bind h
    obtain ⟨s, h3, h4⟩ := opt_bind h2
    cases h4; exact zl_word rfl
  · obtain ⟨s, h3, h4⟩ := opt_bind h
    cases h4; exact zl_word rfl
  · obtain ⟨j, h1, h2⟩ := opt_bind h
    obtain ⟨s, h3, h4⟩ := opt_bind h2
    cases h4
    intro v hv p
    dsimp only at hv
    split at hv
    · cases hv
    · split at hv
      · cases hv; exact VR.of_flat rfl
      · obtain ⟨z, k1, k2⟩ := Option.map_eq_some_iff.1 hv
        subst k2
        exact (VR.cl p).agg _ _ (((VR.al (hi _ _ h1 z k1)).rep _).arr p)
  · exact zl_struct hi h
  · cases h

/-- The types that a program lists begin with leaves. -/
def zlB (i : TypeInfo) : Bool := match i.zero with
  | some (.tuple cs) => cs.toList.all flat1
  | some v => flat1 v
  | none => true
theorem zl_of {i : TypeInfo} (h : zlB i = true) : ZL i := by
  intro v e p
  unfold zlB at h
  rw [e] at h
  cases v <;> first | exact VR.of_flat h | skip
  rename_i cs
  have h : cs.toList.all flat1 = true := h
  exact (VR.cl p).tup _ _ (AL.arr (fun p x hx => VR.of_flat (List.all_eq_true.1 h x hx)) p)
theorem zl_at {T : Tables} (h : T.types.toList.all zlB = true) : ∀ (n : Nat) (t : TypeId) (i : TypeInfo), Made.infoAt T n t = some i → ZL i := by
  intro n
  induction n with
  | zero => intro t i e; cases e
  | succ n ih =>
    intro t i e
    unfold Made.infoAt at e
    split at e
    · exact zl_of (List.all_eq_true.1 h i (List.mem_of_getElem? (l := T.types.toList) (i := t) (by simpa using e)))
    · obtain ⟨d, e1, e2⟩ := Option.bind_eq_some_iff.1 e
      exact zl_reckon (fun t i e => ih t i e) e2
theorem zok_of {P : Program} (h : P.types.toList.all zlB = true) : Zok P := by
  intro t i v e
  unfold Tables.info? at e
  split at e
  · exact fun hv => zl_of (List.all_eq_true.1 h i (List.mem_of_getElem? (l := P.types.toList) (i := t) (by simpa using e))) v hv
  · exact fun hv => zl_at h _ _ _ e v hv

section
variable {C : Cx} {p : Rn}
theorem Sim.loadBs : ∀ (n : Nat) {a b : Addr} (acc : ByteArray), AR p a b → Sim C p EqA (Extern.Bytes.loadBytes a n acc) (Extern.Bytes.loadBytes b n acc) := by
  intro n
  induction n generalizing p with
  | zero => intro a b acc h; exact .pure fun _ _ => rfl
  | succ n ih =>
    intro a b acc h
    unfold Extern.Bytes.loadBytes
    refine (Sim.load h).bind fun q l v v' hv => ?_
    have i := hv.inv
    cases v <;> first | exact .no fun _ => rfl | skip
    rename_i k z
    obtain rfl := i
    cases k <;> first | exact .no fun _ => rfl | skip
    exact ih _ ((h.le l).add 1)
theorem Sim.bytesOf {v v' : Value} (h : VR p v v') : Sim C p EqA (Extern.Bytes.bytesOf v) (Extern.Bytes.bytesOf v') := by
  have i := h.inv
  cases v <;> first | exact .no fun _ => rfl | skip
  · obtain rfl := i; exact .pure fun _ _ => rfl
  · rename_i a l c
    cases a with
    | none => obtain rfl := i; exact .pure fun _ _ => rfl
    | some a => obtain ⟨b, c', rfl, hab⟩ := i; exact Sim.loadBs _ _ hab.1
theorem Sim.asByte {v v' : Value} (h : VR p v v') : Sim C p EqA (Extern.Bytes.asByte v) (Extern.Bytes.asByte v') := by
  have i := h.inv
  cases v <;> first | exact .no fun _ => rfl | skip
  rename_i k z
  obtain rfl := i
  cases k <;> first | exact .no fun _ => rfl | exact .pure fun _ _ => rfl
theorem arr_two {R : Value → Value → Prop} {x y : Value} {l' : Array Value} (h : Arr R #[x, y] l') : ∃ x' y', l' = #[x', y'] ∧ R x x' ∧ R y y' := by
  obtain ⟨u, h1, h2⟩ := h.get (i := 0) rfl
  obtain ⟨v, h3, h4⟩ := h.get (i := 1) rfl
  refine ⟨u, v, ?_, h2, h4⟩
  have := h.1
  match l', this, h1, h3 with
  | ⟨[a, b]⟩, _, h1, h3 => cases h1; cases h3; rfl
theorem arr_one {R : Value → Value → Prop} {x : Value} {l' : Array Value} (h : Arr R #[x] l') : ∃ x', l' = #[x'] ∧ R x x' := by
  obtain ⟨u, h1, h2⟩ := h.get (i := 0) rfl
  refine ⟨u, ?_, h2⟩
  have := h.1
  match l', this, h1 with
  | ⟨[a]⟩, _, h1 => cases h1; rfl
theorem Sim.indexByte {args args' : Array Value} (h : Arr (VR p) args args') : Sim C p VR (Extern.BytealgIndexByte.indexByte args) (Extern.BytealgIndexByte.indexByte args') := by
  match args with
  | ⟨[]⟩ => exact .no fun _ => rfl
  | ⟨[_]⟩ => exact .no fun _ => rfl
  | ⟨_ :: _ :: _ :: _⟩ => exact .no fun _ => rfl
  | ⟨[b, c]⟩ =>
    obtain ⟨b', c', rfl, hb, hc⟩ := arr_two h
    show Sim C p VR (Extern.Bytes.bytesOf b >>= _) (Extern.Bytes.bytesOf b' >>= _)
    refine (Sim.bytesOf hb).bind fun q l x x' e => ?_
    cases e
    refine (Sim.asByte (hc.le l)).bind fun q l y y' e => ?_
    cases e
    split <;> exact .pure fun _ _ => VR.of_leaf rfl
theorem Sim.cloneMap {args args' : Array Value} (h : Arr (VR p) args args') : Sim C p VR (Extern.MapsClone.clone args) (Extern.MapsClone.clone args') := by
  match args with
  | ⟨[]⟩ => exact .no fun _ => rfl
  | ⟨_ :: _ :: _⟩ => exact .no fun _ => rfl
  | ⟨[b]⟩ =>
    obtain ⟨b', rfl, hb⟩ := arr_one h
    have i := hb.inv
    cases b <;> first | exact .no fun _ => rfl | skip
    rename_i t u
    obtain ⟨u', rfl, hu⟩ := i
    have i := hu.inv
    cases u <;> first | exact .no fun _ => rfl | skip
    rename_i r
    cases r with
    | none => exact .no fun _ => rfl
    | some r =>
      obtain ⟨r', k, rfl, hr⟩ := i
      refine Sim.entries (f := fun es cl => do Pure.pure (Value.iface t (.map (some (← newObj (.map es cl)))))) (f' := fun es cl => do Pure.pure (Value.iface t (.map (some (← newObj (.map es cl)))))) (g := Go.stuck "maps.clone: a map expected") (g' := Go.stuck "maps.clone: a map expected") hr (fun _ => rfl) fun q l es es' cl he _ => ?_
      refine (Sim.new (o := .map es cl) (o' := .map es' cl) fun q1 l1 => ⟨es', rfl, he.le l1⟩).bind fun q1 l1 a b e => .pure fun q2 l2 => (VR.cl q2).ifc _ _ _ ((VR.cl q2).mp _ _ _ (l2 _ _ e))
end
end Go.Ex

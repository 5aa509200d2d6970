/-
  The laws' Make of layer 4, as plain data: the objects that it makes, and what its arena is in memory behind each step.
  Conditions: as each theorem says.
-/
import Derived.Test.YtpgbfkdknggceaaGreatDoorReach
namespace Go.Proofs.YtpgbfkdknggceaaGreatDoor
open Go.ChangeShapes Go.WideShapes Go.ChangeAt Go.RowKit Go.Maps Go.Sort Go.Lib
set_option linter.unusedVariables false
/-- An object of the laws: what it names, by numbers; is it a proxy; its membrane. -/
structure OO where
  names : List Int
  proxy : Bool
  mem : Int
/-- The Ref of the i-th object. -/
def refI (i : Nat) : Int := 4294967296 + (i : Int)
/-- The number of the object that a byte names. -/
def atN (n : Nat) (b : Int) : Nat := (b % (n : Int)).toNat
/-- What a proxy stands for, when it has gone through these names. -/
def tgt (n : Nat) (ns : List Int) : Int := match ns.getLast? with | none => 0 | some b => refI (atN n b)
/-- A record's fields, likewise. -/
def fldsOf (n : Nat) (ns : List Int) : List (Vl × Vl) := ns.mapIdx fun k b => (⟨2, (k : Int), ⟨#[]⟩⟩, ⟨5, refI (atN n b), ⟨#[]⟩⟩)
def obOf (oo : OO) (n : Nat) (ns : List Int) (m : Nat) : Ob := if oo.proxy then { k := 6, me := oo.mem % 4, ta := tgt n ns } else { fm := some m }
/-- As it is handed to Put. -/
def obStart (oo : OO) (m : Nat) : Ob := if oo.proxy then { k := 6, me := oo.mem % 4 } else { fm := some m }
theorem tgt_snoc (n : Nat) (ns : List Int) (b : Int) : tgt n (ns ++ [b]) = refI (atN n b) := by simp [tgt]
theorem fldsOf_snoc (n : Nat) (ns : List Int) (b : Int) : fldsOf n (ns ++ [b]) = fldsOf n ns ++ [(⟨2, (ns.length : Int), ⟨#[]⟩⟩, ⟨5, refI (atN n b), ⟨#[]⟩⟩)] := by simp [fldsOf, List.mapIdx_append]
theorem fldsOf_keys (n : Nat) (ns : List Int) : (fldsOf n ns).map Prod.fst = (List.range ns.length).map fun k => ⟨2, (k : Int), ⟨#[]⟩⟩ := by
  apply List.ext_getElem?
  intro i
  by_cases h : i < ns.length
  · simp [fldsOf, h]
  · simp [fldsOf, h]
theorem fldsOf_upd (n : Nat) (ns : List Int) (b : Int) : upd (fldsOf n ns) ⟨2, (ns.length : Int), ⟨#[]⟩⟩ ⟨5, refI (atN n b), ⟨#[]⟩⟩ = fldsOf n (ns ++ [b]) := by
  unfold upd
  rw [if_neg, fldsOf_snoc]
  rw [fldsOf_keys]
  simp
  intro x hx
  omega
/-- How an object of the laws lies in memory at p: three cells, and its names. -/
def OAt (w : World) (b off : Nat) (oo : OO) : Prop :=
  b < w.heap.size ∧ ∃ na cap, w.cell? ⟨b, off, none⟩ = some (.slice na oo.names.length cap) ∧ w.cell? ⟨b, off + 1, none⟩ = some (.bool oo.proxy) ∧ w.cell? ⟨b, off + 2, none⟩ = some (.int .u8 oo.mem) ∧ 0 ≤ oo.mem ∧ oo.mem ≤ 255 ∧ oo.names.length ≤ cap ∧ cap ≤ maxLen ∧
    (∀ x ∈ oo.names, 0 ≤ x ∧ x ≤ 255) ∧ (oo.names ≠ [] → ∃ g o2, na = some ⟨g, o2, none⟩ ∧ g < w.heap.size ∧ ∀ j x, oo.names[j]? = some x → w.cell? ⟨g, o2 + j, none⟩ = some (.int .u8 x))
def ORow (w : World) (v : Value) (L : List OO) : Prop :=
  ∃ b off cap, v = .slice (some ⟨b, off, none⟩) L.length cap ∧ L.length ≤ cap ∧ cap ≤ maxLen ∧ ∀ i oo, L[i]? = some oo → OAt w b (off + i * 3) oo ∧ oo.names.length ≤ 1000
theorem OAt.below {w w' : World} {b off : Nat} {oo : OO} (h : OAt w b off oo) (hb : Below w.heap.size w w') : OAt w' b off oo := by
  obtain ⟨h0, na, cap, h1, h2, h3, h4, h5, h6, h7, h8, h9⟩ := h
  refine ⟨Nat.lt_of_lt_of_le h0 hb.size, na, cap, (hb.cell (p := ⟨b, off, none⟩) h0).trans h1, (hb.cell (p := ⟨b, off + 1, none⟩) h0).trans h2, (hb.cell (p := ⟨b, off + 2, none⟩) h0).trans h3, h4, h5, h6, h7, h8, fun hne => ?_⟩
  obtain ⟨g, o2, e1, e2, e3⟩ := h9 hne
  exact ⟨g, o2, e1, Nat.lt_of_lt_of_le e2 hb.size, fun j x hj => (hb.cell (p := ⟨g, o2 + j, none⟩) e2).trans (e3 j x hj)⟩
/-- The arena while it is made: k objects are there; done j: the names that the j-th has gone through. -/
structure Mk (w0 w : World) (ab : Nat) (L : List OO) (done : Nat → List Int) (B M : Nat → Nat) (s : St) (k : Nat) : Prop where
  arn : Arn w0.heap.size ab w s
  accs : s.accs = [((k : Int), (L.length : Int))]
  len : s.slots.length = k
  slot : ∀ j oo, j < k → L[j]? = some oo → s.slots[j]? = some ⟨1, some (B j, obOf oo L.length (done j) (M j))⟩
  un : s.unused = []
  inj : ∀ i j, i < k → j < k → B i = B j → i = j
  big : w0.heap.size + 2 ≤ w.heap.size
  maps : ∀ j oo, j < k → L[j]? = some oo → oo.proxy = false → Flds w (M j) (fldsOf L.length (done j)) ∧ w0.heap.size + 2 ≤ M j
  injM : ∀ i j oi oj, i < k → j < k → L[i]? = some oi → L[j]? = some oj → oi.proxy = false → oj.proxy = false → M i = M j → i = j
  below : Below w0.heap.size w0 w
theorem Mk.later {w0 w w' : World} {ab : Nat} {L : List OO} {done : Nat → List Int} {B M : Nat → Nat} {s : St} {k : Nat} (h : Mk w0 w ab L done B M s k) (hb : Below w.heap.size w w') : Mk w0 w' ab L done B M s k :=
  ⟨h.arn.below hb, h.accs, h.len, h.slot, h.un, h.inj, Nat.le_trans h.big hb.size, fun j oo h1 h2 h3 => ⟨(h.maps j oo h1 h2 h3).1.kept (hb.block _ (h.maps j oo h1 h2 h3).1.lt), (h.maps j oo h1 h2 h3).2⟩, h.injM, h.below.trans (hb.mono h.below.size)⟩
/-- One object more. -/
theorem Mk.put {w0 w w' : World} {ab : Nat} {L : List OO} {B M : Nat → Nat} {s : St} {k : Nat} {oo : OO} {r' : Option Nat} {mb : Nat} (h : Mk w0 w ab L (fun _ => []) B M s k) (hk : L[k]? = some oo) (hm : oo.proxy = false → Flds w mb [])
    (hc : Cloned w (obStart oo mb).fm w' r') (hA : Arn w0.heap.size ab w' ⟨s.accs.set 0 ((k : Int) + 1, (L.length : Int)), (s.slots ++ [(⟨0, none⟩ : Sl)]).set k ⟨0 + 1, some (w.heap.size, { obStart oo mb with fm := r' })⟩, []⟩) (hF : Fr isA w0.heap.size w w') :
    ∃ B' M' s', Mk w0 w' ab L (fun _ => []) B' M' s' (k + 1) := by
  obtain ⟨m, hm1, hm2, hm3⟩ : ∃ m, (oo.proxy = true → r' = none) ∧ (oo.proxy = false → r' = some m) ∧ (oo.proxy = false → Flds w' m [] ∧ w.heap.size ≤ m) := by
    cases hp : oo.proxy with
    | true =>
      simp only [obStart, hp, if_true] at hc
      rcases hc with ⟨_, rfl⟩ | ⟨b, es, clock, m, h1, _⟩
      · exact ⟨0, fun _ => rfl, by simp, by simp⟩
      · simp at h1
    | false =>
      simp only [obStart, hp] at hc
      rcases hc with ⟨h1, _⟩ | ⟨b, es, clock, m, h1, h2, h3, h4, h5⟩
      · simp at h1
      · simp at h1
        subst h1
        exact ⟨m, by simp, fun _ => h3, fun _ => ⟨(hm hp).copy h2 h5, h4⟩⟩
  have hlen := h.len
  refine ⟨fun j => if j = k then w.heap.size else B j, fun j => if j = k then m else M j, _, hA, ?_, ?_, fun j o' hj hL => ?_, rfl, fun i j hi hj e => ?_, Nat.le_trans h.big hF.size, fun j o' hj hL hp => ?_, fun i j oi oj hi hj hLi hLj hpi hpj e => ?_, h.below.trans (hF.below h.below.size)⟩
  · simp [h.accs]
  · simp [hlen]
  · by_cases e : j = k
    · subst e
      rw [hk] at hL
      cases hL
      simp only [if_true]
      rw [List.getElem?_set_self (by simp [hlen])]
      cases hp : oo.proxy with
      | true => rw [hm1 hp]; simp [obOf, obStart, hp, tgt]
      | false => rw [hm2 hp]; simp [obOf, obStart, hp]
    · simp only [if_neg e]
      rw [List.getElem?_set_ne (by omega), List.getElem?_append_left (by omega)]
      exact h.slot j o' (by omega) hL
  · have old : ∀ i, i < k → B i < w.heap.size := fun i hi => by
      obtain ⟨o', ho'⟩ : ∃ o', L[i]? = some o' := ⟨_, List.getElem?_eq_getElem (by have := (List.getElem?_eq_some_iff.1 hk).1; omega)⟩
      exact lt_of_block (h.arn.objs i _ _ _ (h.slot i o' hi ho') rfl).2
    by_cases e1 : i = k <;> by_cases e2 : j = k <;> simp only [e1, e2, if_true, if_false] at e
    · omega
    · have := old j (by omega); omega
    · have := old i (by omega); omega
    · exact h.inj i j (by omega) (by omega) e
  · by_cases e : j = k
    · subst e
      rw [hk] at hL
      cases hL
      simp only [if_true]
      exact ⟨by simpa [fldsOf] using (hm3 hp).1, by have := (hm3 hp).2; have := h.big; omega⟩
    · simp only [if_neg e]
      obtain ⟨h1, h2⟩ := h.maps j o' (by omega) hL hp
      obtain ⟨es, clock, hb⟩ := h1.block
      exact ⟨h1.kept ((hF.map hb).trans hb.symm), h2⟩
  · have old : ∀ i oi, i < k → L[i]? = some oi → oi.proxy = false → M i < w.heap.size := fun i oi hi hL hp => (h.maps i oi hi hL hp).1.lt
    by_cases e1 : i = k <;> by_cases e2 : j = k <;> simp only [e1, e2, if_true, if_false] at e
    · omega
    · subst e1; rw [hk] at hLi; cases hLi; have := old j oj (by omega) hLj hpj; have := (hm3 hpi).2; omega
    · subst e2; rw [hk] at hLj; cases hLj; have := old i oi (by omega) hLi hpi; have := (hm3 hpj).2; omega
    · exact h.injM i j oi oj (by omega) (by omega) hLi hLj hpi hpj e
end Go.Proofs.YtpgbfkdknggceaaGreatDoor

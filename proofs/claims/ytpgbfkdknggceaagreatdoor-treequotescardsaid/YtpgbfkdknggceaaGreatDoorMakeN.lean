/-
  What the objects of the laws' Make name, as plain lists; what its arena offers to Reach and Collect.
  Conditions: as each theorem says.
-/
import Derived.Test.YtpgbfkdknggceaaGreatDoorMakeL
import Derived.Test.YtpgbfkdknggceaaGreatDoorReachW
namespace Go.Proofs.YtpgbfkdknggceaaGreatDoor
open Go.ChangeShapes Go.WideShapes Go.ChangeAt Go.RowKit Go.Maps Go.Sort Go.Lib
set_option linter.unusedVariables false
theorem leV_nat (i j : Nat) (h : i ≤ j) : leV ⟨2, (i : Int), ⟨#[]⟩⟩ ⟨2, (j : Int), ⟨#[]⟩⟩ = true := by
  unfold leV
  rw [ltV]
  have h1 : ordT (trip ⟨2, (j : Int), ⟨#[]⟩⟩) (trip ⟨2, (i : Int), ⟨#[]⟩⟩) ≥ 0 := by
    have e : ordT (trip ⟨2, (j : Int), ⟨#[]⟩⟩) (trip ⟨2, (i : Int), ⟨#[]⟩⟩) = if cmpI (j : Int) (i : Int) != 0 then cmpI (j : Int) (i : Int) else 0 := by
      unfold ordT lexC trip
      simp only [cmpI_is.refl]
      simp [cmpL_is.refl]
    rw [e]
    rcases cmpI_three (j : Int) (i : Int) with ⟨_, h2⟩ | ⟨_, h2⟩ | ⟨_, h2⟩
    · omega
    · rw [h2]; simp
    · rw [h2]; simp
  simp; omega
theorem sortK_nat (m : Nat) : sortK ((List.range m).map fun (k : Nat) => (⟨2, (k : Int), ⟨#[]⟩⟩ : Vl)) = (List.range m).map fun (k : Nat) => (⟨2, (k : Int), ⟨#[]⟩⟩ : Vl) := by
  unfold sortK
  apply List.mergeSort_of_pairwise
  rw [List.pairwise_map]
  exact List.Pairwise.imp (fun {a b} h => leV_nat a b (Nat.le_of_lt h)) (List.pairwise_lt_range (n := m))
theorem atN_lt (n : Nat) (b : Int) (hn : 0 < n) : atN n b < n := by
  unfold atN
  have := Int.emod_lt_of_pos b (show (0 : Int) < n from by omega)
  have := Int.emod_nonneg b (show (n : Int) ≠ 0 from by omega)
  omega
theorem fldsOf_nodup (n : Nat) (ns : List Int) : ((fldsOf n ns).map Prod.fst).Nodup := by
  rw [fldsOf_keys, List.nodup_iff_pairwise_ne, List.pairwise_map]
  refine List.Pairwise.imp (fun {a b} h e => ?_) List.pairwise_lt_range
  simp at e
  omega
theorem look_flds (n : Nat) (ns : List Int) (k : Nat) (b : Int) (h : ns[k]? = some b) : lookV (fldsOf n ns) ⟨2, (k : Int), ⟨#[]⟩⟩ = ⟨5, refI (atN n b), ⟨#[]⟩⟩ := by
  refine lookV_of_mem (p := (⟨2, (k : Int), ⟨#[]⟩⟩, ⟨5, refI (atN n b), ⟨#[]⟩⟩)) (fldsOf_nodup n ns) ?_
  rw [List.mem_iff_getElem?]
  exact ⟨k, by simp [fldsOf, h]⟩
theorem refOf_refI (i : Nat) (hi : i ≤ 1000) : refOf ⟨5, refI i, ⟨#[]⟩⟩ = refI i := by
  unfold refOf refI
  simp
  omega
/-- A record names what its names name. -/
theorem names_rec (n : Nat) (ns : List Int) (hn : 0 < n) (hl : n ≤ 1000) : (namesOf (fldsOf n ns) [] 0 ⟨0, 0, ⟨#[]⟩⟩ 0).filter (fun x => !(x == 0)) = ns.map fun b => refI (atN n b) := by
  have h1 : (sortK ((fldsOf n ns).map Prod.fst)).map (fun k => refOf (lookV (fldsOf n ns) k)) = ns.map fun b => refI (atN n b) := by
    rw [fldsOf_keys, sortK_nat, List.map_map]
    apply List.ext_getElem?
    intro i
    by_cases h : i < ns.length
    · have hb : ns[i]? = some ns[i] := List.getElem?_eq_getElem h
      simp only [List.getElem?_map, List.getElem?_range h, Option.map_some, hb, Function.comp]
      rw [look_flds n ns i _ hb, refOf_refI _ (by have := atN_lt n ns[i] hn; omega)]
    · simp [h]
  unfold namesOf
  rw [h1]
  have h2 : (ns.map fun b => refI (atN n b)).filter (fun x => !(x == 0)) = ns.map fun b => refI (atN n b) := by
    rw [List.filter_eq_self]
    intro x hx
    obtain ⟨b, _, rfl⟩ := List.mem_map.1 hx
    simp [refI]
    omega
  rw [List.filter_append, List.filter_append, h2]
  simp [refOf]
/-- A proxy names the last. -/
theorem names_proxy (n : Nat) (ns : List Int) (hn : 0 < n) : (namesOf [] [] 0 ⟨0, 0, ⟨#[]⟩⟩ (tgt n ns)).filter (fun x => !(x == 0)) = match ns.getLast? with | none => [] | some b => [refI (atN n b)] := by
  unfold namesOf tgt
  cases h : ns.getLast? with
  | none => simp [refOf, sortK]
  | some b =>
    have : refI (atN n b) ≠ 0 := by unfold refI; omega
    simp [refOf, sortK, this]
/-- What the i-th object names, by numbers. -/
def nmL (L : List OO) (dd : Int → Bool) (i : Nat) : List Nat :=
  match L[i]? with
  | none => []
  | some oo => if oo.proxy then (if dd (oo.mem % 4) then [] else match oo.names.getLast? with | none => [] | some b => [atN L.length b]) else oo.names.map (atN L.length)
def flM (L : List OO) (done : Nat → List Int) (j : Nat) : List (Vl × Vl) := match L[j]? with | none => [] | some oo => if oo.proxy then [] else fldsOf L.length (done j)
section
variable {w0 w : World} {ab : Nat} {L : List OO} {done : Nat → List Int} {B M : Nat → Nat} {s : St}
theorem Mk.row (h : Mk w0 w ab L done B M s L.length) {i : Nat} {sl : Sl} (hs : s.slots[i]? = some sl) : ∃ oo, i < L.length ∧ L[i]? = some oo ∧ sl = ⟨1, some (B i, obOf oo L.length (done i) (M i))⟩ := by
  have hi : i < L.length := by obtain ⟨hh, _⟩ := List.getElem?_eq_some_iff.1 hs; rw [h.len] at hh; exact hh
  obtain ⟨oo, hoo⟩ : ∃ oo, L[i]? = some oo := ⟨_, List.getElem?_eq_getElem hi⟩
  rw [h.slot i oo hi hoo] at hs
  cases hs
  exact ⟨oo, hi, hoo, rfl⟩
theorem Mk.objs (h : Mk w0 w ab L done B M s L.length) (hd : ∀ (j : Nat) (oo : OO), L[j]? = some oo → done j = oo.names) (hl : L.length ≤ 1000) (hn : ∀ (j : Nat) (oo : OO), L[j]? = some oo → oo.names.length ≤ 1000 ∧ 0 ≤ oo.mem) : Objs w s (flM L done) := by
  intro i sl b o hs ho
  obtain ⟨oo, hi, hoo, rfl⟩ := h.row hs
  simp at ho
  obtain ⟨rfl, rfl⟩ := ho
  have htr := tgt_range L.length (done i) (by omega) hl
  have hnn := hn i oo hoo
  cases hp : oo.proxy with
  | true =>
    rw [show obOf oo L.length (done i) (M i) = { k := 6, me := oo.mem % 4, ta := Go.Proofs.YtpgbfkdknggceaaGreatDoor.tgt L.length (done i) } from by simp [obOf, hp], show flM L done i = [] from by simp [flM, hoo, hp]]
    exact ⟨.inl ⟨rfl, rfl⟩, rfl, by simp, by simp, by simp, htr.1, htr.2, by simp only; omega, by simp only; omega⟩
  | false =>
    have hm := h.maps i oo hi hoo hp
    rw [show obOf oo L.length (done i) (M i) = { fm := some (M i) } from by simp [obOf, hp], show flM L done i = fldsOf L.length (done i) from by simp [flM, hoo, hp]]
    refine ⟨.inr ⟨M i, rfl, hm.1⟩, rfl, ?_, by simp, by simp, by simp, by simp, by simp, by simp⟩
    simp [fldsOf, hd i oo hoo]
    exact hnn.1
theorem Mk.uses (h : Mk w0 w ab L done B M s L.length) (n : Nat) (sl : Sl) (hs : s.slots[n]? = some sl) : sl.uses ≤ 1000000 := by
  obtain ⟨oo, _, _, rfl⟩ := h.row hs
  simp
theorem Mk.owner (h : Mk w0 w ab L done B M s L.length) (i : Nat) (sl : Sl) (b : Nat) (o : Ob) (hs : s.slots[i]? = some sl) (ho : sl.obj = some (b, o)) : o.ow = 0 := by
  obtain ⟨oo, _, _, rfl⟩ := h.row hs
  simp at ho
  obtain ⟨rfl, rfl⟩ := ho
  unfold obOf
  split <;> rfl
theorem Mk.look (h : Mk w0 w ab L done B M s L.length) (hl : L.length ≤ 1000) {i : Nat} {oo : OO} (hi : L[i]? = some oo) : look s.slots (refI i) = some (B i, obOf oo L.length (done i) (M i)) := by
  have hil : i < L.length := by obtain ⟨hh, _⟩ := List.getElem?_eq_some_iff.1 hi; exact hh
  exact look_refI (h.slot i oo hil hi) (by omega)
theorem Mk.lives (h : Mk w0 w ab L done B M s L.length) (hl : L.length ≤ 1000) (r : Int) : lives s r = true ↔ ∃ i, i < L.length ∧ r = refI i := by
  constructor
  · intro hr
    obtain ⟨sl, h1, h2, _⟩ := lives_slot hr
    obtain ⟨oo, hi, hoo, rfl⟩ := h.row h1
    refine ⟨(r % 4294967296).toNat, hi, ?_⟩
    simp at h2
    unfold refI
    omega
  · rintro ⟨i, hi, rfl⟩
    obtain ⟨oo, hoo⟩ : ∃ oo, L[i]? = some oo := ⟨_, List.getElem?_eq_getElem hi⟩
    unfold Go.Proofs.YtpgbfkdknggceaaGreatDoor.lives
    rw [h.look hl hoo]
    rfl
theorem Mk.names (h : Mk w0 w ab L done B M s L.length) (hd : ∀ (j : Nat) (oo : OO), L[j]? = some oo → done j = oo.names) (hl : L.length ≤ 1000) (dd : Int → Bool) {i : Nat} (hi : i < L.length) : nmOf s (flM L done) dd (refI i) = (nmL L dd i).map refI := by
  obtain ⟨oo, hoo⟩ : ∃ oo, L[i]? = some oo := ⟨_, List.getElem?_eq_getElem hi⟩
  have hs : (refI i % 4294967296).toNat = i := by unfold refI; omega
  unfold nmOf nmL
  rw [h.look hl hoo, hs, hoo]
  simp only [flM, hoo, hd i oo hoo]
  cases hp : oo.proxy with
  | true =>
    simp only [obOf, hp, if_true]
    cases hdd : dd (oo.mem % 4) with
    | true => simp
    | false =>
      have := names_proxy L.length oo.names (by omega)
      simp only [this]
      cases oo.names.getLast? <;> simp
  | false =>
    have := names_rec L.length oo.names (by omega) hl
    simp only [obOf, hp]
    simp [this]
end
end Go.Proofs.YtpgbfkdknggceaaGreatDoor

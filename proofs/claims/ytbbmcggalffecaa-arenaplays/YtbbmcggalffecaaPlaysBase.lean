/-
  What ArenaPlays's definition M is in memory, what it and the arena have in common, and the plain lemmas on that.
  Conditions: as each theorem says.
-/
import Derived.Test.YtbbmcggalffecaaPlaysLib
namespace Go.Proofs.Ytbbmcggalffecaa
open Go.ChangeShapes Go.WideShapes Go.ChangeAt Go.RowKit
set_option linter.unusedVariables false
theorem strict_unique (f : Int → Int) : ∀ (l m : List Int), l.Pairwise (fun a b => f a < f b) → m.Pairwise (fun a b => f a < f b) → (∀ x, x ∈ l ↔ x ∈ m) → l = m := by
  intro l
  induction l with
  | nil =>
    intro m _ _ h
    cases m with
    | nil => rfl
    | cons y m => exact absurd ((h y).2 (by simp)) (by simp)
  | cons x l ih =>
    intro m hl hm h
    cases m with
    | nil => exact absurd ((h x).1 (by simp)) (by simp)
    | cons y m =>
      rw [List.pairwise_cons] at hl hm
      have hxy : x = y := by
        rcases List.mem_cons.1 ((h x).1 (by simp)) with e | e
        · exact e
        · rcases List.mem_cons.1 ((h y).2 (by simp)) with e2 | e2
          · exact e2.symm
          · have := hm.1 x e; have := hl.1 y e2; omega
      subst hxy
      congr 1
      refine ih m hl.2 hm.2 fun z => ⟨fun hz => ?_, fun hz => ?_⟩
      · rcases List.mem_cons.1 ((h z).1 (by simp [hz])) with e | e
        · subst e; have := hl.1 z hz; omega
        · exact e
      · rcases List.mem_cons.1 ((h z).2 (by simp [hz])) with e | e
        · subst e; have := hm.1 z hz; omega
        · exact e
theorem refN_slot (u n : Nat) (h : n < 4294967296) : refN u n % 4294967296 = n := by unfold refN; omega
theorem mem_allFrom (l : List Sl) (i : Nat) (r : Int) : r ∈ allFrom i l ↔ ∃ (j : Nat) (sl : Sl), l[j]? = some sl ∧ sl.obj.isSome = true ∧ r = refN sl.uses (i + j) := by
  induction l generalizing i with
  | nil => simp [allFrom]
  | cons s l ih =>
    simp only [allFrom, List.mem_append, ih]
    constructor
    · rintro (h | ⟨j, sl, h1, h2, h3⟩)
      · split at h
        · rename_i hs
          simp at h
          exact ⟨0, s, rfl, hs, by simpa using h⟩
        · simp at h
      · exact ⟨j + 1, sl, by simpa using h1, h2, by rw [h3]; congr 1; omega⟩
    · rintro ⟨j, sl, h1, h2, h3⟩
      cases j with
      | zero => left; simp at h1; subst h1; rw [if_pos h2]; simpa using h3
      | succ j => right; exact ⟨j, sl, by simpa using h1, h2, by rw [h3]; congr 1; omega⟩
theorem allFrom_strict (l : List Sl) (i : Nat) (h : i + l.length ≤ 1000000) : (allFrom i l).Pairwise (fun a b => a % 4294967296 < b % 4294967296) := by
  induction l generalizing i with
  | nil => exact List.Pairwise.nil
  | cons s l ih =>
    simp only [allFrom]
    rw [List.pairwise_append]
    simp only [List.length_cons] at h
    refine ⟨by split <;> simp, ih (i + 1) (by omega), fun a ha b hb => ?_⟩
    split at ha
    · simp at ha; subst ha
      obtain ⟨j, sl, h1, h2, rfl⟩ := (mem_allFrom l (i + 1) b).1 hb
      have := lt_of_get h1
      rw [refN_slot _ _ (by omega), refN_slot _ _ (by omega)]
      omega
    · simp at ha
/-- What lives, by slots, is what All answers. -/
theorem all_sorted {s : St} {L : List Lv} {ys : List Int} (h : Live s L) (hl : s.slots.length ≤ 1000000) (hp : ys.Perm (refL L)) (hs : ys.Pairwise fun a b => cmpR b a ≥ 0) : ys = allTo s.slots s.slots.length := by
  have hslot : ∀ p ∈ L, p.n < 4294967296 := fun p hp => by obtain ⟨b, k, hb⟩ := h.at_ p hp; have := lt_of_get hb; omega
  have hnd : ys.Pairwise fun a b => a % 4294967296 ≠ b % 4294967296 := by
    rw [hp.pairwise_iff (fun {a b} e => Ne.symm e)]
    unfold refL
    rw [List.pairwise_map]
    have nd := h.nodup
    rw [List.Nodup, List.pairwise_map] at nd
    refine List.Pairwise.imp_of_mem (fun {a b} ha hb e => ?_) nd
    rw [refN_slot _ _ (hslot a ha), refN_slot _ _ (hslot b hb)]
    omega
  refine strict_unique (fun a => a % 4294967296) ys _ ?_ ?_ fun x => ?_
  · refine List.Pairwise.imp (fun {a b} e => ?_) (hs.and hnd)
    obtain ⟨e1, e2⟩ := e
    unfold cmpR at e1
    omega
  · unfold allTo
    rw [List.take_length]
    exact allFrom_strict _ 0 (by omega)
  · rw [hp.mem_iff]
    unfold allTo
    rw [List.take_length, mem_allFrom]
    simp only [refL, List.mem_map, Nat.zero_add]
    constructor
    · rintro ⟨p, hp, rfl⟩
      obtain ⟨b, k, hb⟩ := h.at_ p hp
      exact ⟨p.n, _, hb, rfl, rfl⟩
    · rintro ⟨j, sl, h1, h2, rfl⟩
      obtain ⟨x, hx⟩ := Option.isSome_iff_exists.1 h2
      obtain ⟨p, hp, e⟩ := h.all j sl x h1 hx
      obtain ⟨b, k, hb⟩ := h.at_ p hp
      rw [e, h1] at hb
      simp at hb
      exact ⟨p, hp, by rw [hb, e]⟩
/-- A Ref that was given and names nothing any more. -/
def Stale (s : St) (g : Nat × Nat) : Prop := ∃ sl, s.slots[g.1]? = some sl ∧ g.2 ≤ sl.uses ∧ (g.2 = sl.uses → sl.obj = none)
def goneL (G : List (Nat × Nat)) : List Int := G.map fun g => refN g.2 g.1
def owL (L : List Lv) : List Int := L.map Lv.ow
def cntO (L : List Lv) (i : Nat) : Nat := cnt (owL L) (owL L).length i
def moL (L : List Lv) : List Int := L.map Lv.mo
/-- M in memory: its five rows. -/
structure MI (base mb : Nat) (w : World) (qs : List Int) (L : List Lv) (G : List (Nat × Nat)) : Prop where
  hb : base ≤ mb
  rows : ∃ vq vr vo vm vg, w.heap[mb]? = some (.cells #[vq, vr, vo, vm, vg] 31 (0, 0)) ∧ w.ownsRow base 3 1 vq qs.length (qs.map (Value.int .i64)) ∧ w.ownsRow base 51 1 vr (refL L).length ((refL L).map (Value.int .u64)) ∧
    w.ownsRow base 3 1 vo (owL L).length ((owL L).map (Value.int .i64)) ∧ w.ownsRow base 2 1 vm (moL L).length ((moL L).map (Value.int .i64)) ∧ w.ownsRow base 51 1 vg (goneL G).length ((goneL G).map (Value.int .u64)) ∧
    (vq.ownBlock = none ∨ vq.ownBlock ≠ vo.ownBlock) ∧ (vr.ownBlock = none ∨ vr.ownBlock ≠ vg.ownBlock)
/-- What M and the arena have in common behind k steps. -/
structure PS (s : St) (qs : List Int) (L : List Lv) (G : List (Nat × Nat)) (k : Nat) : Prop where
  live : Live s L
  al : s.accs.length = qs.length
  accs : ∀ (i : Nat) (q : Int), qs[i]? = some q → s.accs[i]? = some ((cntO L i : Int), q)
  quo : ∀ q ∈ qs, 0 ≤ q ∧ q ≤ 11
  many : ∀ (i : Nat) (q : Int), qs[i]? = some q → (cntO L i : Int) ≤ q
  own : ∀ p ∈ L, 0 ≤ p.ow ∧ p.ow < qs.length
  mo : ∀ p ∈ L, -128 ≤ p.mo ∧ p.mo ≤ 127
  le : L.length ≤ k
  gl : G.length ≤ k
  ql : qs.length ≤ 6
  sl : s.slots.length ≤ k
  us : ∀ (n : Nat) (sl : Sl), s.slots[n]? = some sl → sl.uses ≤ k
  un : s.unused.length ≤ k
  stale : ∀ g ∈ G, Stale s g
end Go.Proofs.Ytbbmcggalffecaa

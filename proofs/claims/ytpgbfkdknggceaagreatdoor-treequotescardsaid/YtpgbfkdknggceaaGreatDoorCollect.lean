/-
  sweep.Collect over an arena with one owner: what isn't reached is dropped, and how many those are.
  Conditions: as each theorem says.
-/
import Derived.Test.YtpgbfkdknggceaaGreatDoorReachW
import Derived.Test.YtpgbfkdknggceaaGreatDoorAll
namespace Go.Proofs.YtpgbfkdknggceaaGreatDoor
open Go.ChangeShapes Go.WideShapes Go.ChangeAt Go.RowKit Go.Maps Go.Sort Go.Lib
set_option linter.unusedVariables false
theorem mem_allFrom : ∀ {l : List Sl} {i : Nat} {r : Int}, r ∈ allFrom i l ↔ ∃ n u b o, l[n]? = some ⟨u, some (b, o)⟩ ∧ r = refN u (i + n)
  | [], i, r => by simp [allFrom]
  | s :: l, i, r => by
    rw [allFrom, List.mem_append, mem_allFrom]
    constructor
    · rintro (h | ⟨n, u, b, o, h1, h2⟩)
      · obtain ⟨us, ob⟩ := s
        cases ob with
        | none => simp at h
        | some p => simp at h; exact ⟨0, us, p.1, p.2, rfl, by simpa using h⟩
      · exact ⟨n + 1, u, b, o, by simpa using h1, by rw [h2]; congr 1; omega⟩
    · rintro ⟨n, u, b, o, h1, h2⟩
      cases n with
      | zero => left; simp at h1; subst h1; simpa using h2
      | succ n => right; exact ⟨n, u, b, o, by simpa using h1, by rw [h2]; congr 1; omega⟩
theorem refN_inj {u n u' n' : Nat} (h : refN u n = refN u' n') (hn : n < 4294967296) (hn' : n' < 4294967296) : u = u' ∧ n = n' := by unfold refN at h; omega
theorem nodup_allFrom : ∀ {l : List Sl} {i : Nat}, i + l.length < 4294967296 → (allFrom i l).Nodup
  | [], i, _ => by simp [allFrom]
  | s :: l, i, h => by
    simp only [List.length_cons] at h
    rw [allFrom]
    refine List.nodup_append.2 ⟨by split <;> simp, nodup_allFrom (by omega), fun a ha b hb e => ?_⟩
    subst e
    obtain ⟨n, u, b', o, h1, h2⟩ := mem_allFrom.1 hb
    have hn : n < l.length := lt_of_get h1
    split at ha
    · simp at ha
      rw [ha] at h2
      have := (refN_inj h2 (by omega) (by omega)).2
      omega
    · simp at ha
/-- All that are there. -/
def allOf (s : St) : List Int := allTo s.slots s.slots.length
theorem allOf_eq (s : St) : allOf s = allFrom 0 s.slots := by unfold allOf allTo; rw [List.take_length]
/-- Is it not in S? -/
def outOf (S : List Int) (x : Int) : Bool := !S.contains x
theorem count_snoc (S al : List Int) (r : Int) : (al ++ [r]).countP (outOf S) = al.countP (outOf S) + if S.contains r then 0 else 1 := by
  rw [List.countP_append]
  cases h : S.contains r <;> simp only [List.countP_cons, List.countP_nil, outOf, h] <;> rfl
/-- Of s those of al that aren't in S have gone: s'. -/
structure Gone (s s' : St) (al S : List Int) (p q : Int) : Prop where
  len : s'.slots.length = s.slots.length
  slot : ∀ i sl, s.slots[i]? = some sl → s'.slots[i]? = some (if al.contains (refN sl.uses i) && !S.contains (refN sl.uses i) then ⟨sl.uses, none⟩ else sl)
  accs : s'.accs = [(p - (al.countP (outOf S)), q)]
  un : s'.unused.length ≤ s.unused.length + al.length
theorem Gone.start (s : St) (S : List Int) (p q : Int) (h : s.accs = [(p, q)]) : Gone s s [] S p q :=
  ⟨rfl, fun i sl h => by simpa using h, by simp [h], by simp⟩
theorem Gone.keep {s s' : St} {al S : List Int} {p q : Int} {r : Int} (h : Gone s s' al S p q) (hr : S.contains r = true) : Gone s s' (al ++ [r]) S p q := by
  refine ⟨h.len, fun i sl hi => ?_, by rw [h.accs, count_snoc, hr]; simp, by have := h.un; simp; omega⟩
  rw [h.slot i sl hi]
  by_cases e : refN sl.uses i = r
  · rw [e]; simp only [hr]; simp
  · congr 1
    have : (al ++ [r]).contains (refN sl.uses i) = al.contains (refN sl.uses i) := by simp [e]
    rw [this]
theorem Gone.drop {s s' : St} {al S : List Int} {p q : Int} {n u b : Nat} {o : Ob} (h : Gone s s' al S p q) (hs : s.slots[n]? = some ⟨u, some (b, o)⟩) (hl : s.slots.length < 4294967296) (hr : S.contains (refN u n) = false) (hn : al.contains (refN u n) = false) :
    s'.slots[n]? = some ⟨u, some (b, o)⟩ ∧ ∀ un', un'.length = s'.unused.length + 1 → Gone s ⟨[(p - (al.countP (outOf S)) - 1, q)], s'.slots.set n ⟨u, none⟩, un'⟩ (al ++ [refN u n]) S p q := by
  have hnl := lt_of_get hs
  refine ⟨by rw [h.slot n _ hs]; simp only [hn]; simp, fun un' hu => ⟨by simp [h.len], fun i sl hi => ?_, ?_, by have := h.un; simp [hu]; omega⟩⟩
  · by_cases e : i = n
    · subst e
      rw [hs] at hi
      cases hi
      rw [List.getElem?_set_self (by rw [h.len]; exact hnl)]
      have h1 : (al ++ [refN u i]).contains (refN u i) = true := by simp
      simp only [h1, hr]
      rfl
    · rw [List.getElem?_set_ne (fun x => e x.symm), h.slot i sl hi]
      have hne : refN sl.uses i ≠ refN u n := fun x => e (refN_inj x (by have := lt_of_get hi; omega) (by omega)).2
      have : (al ++ [refN u n]).contains (refN sl.uses i) = al.contains (refN sl.uses i) := by simp [hne]
      rw [this]
  · rw [count_snoc, hr]
    simp only [Bool.false_eq_true, if_false, List.cons.injEq, Prod.mk.injEq, and_true]
    omega
set_option maxRecDepth 100000 in
theorem forget_none {w : World} {cb dg ab : Nat} {lb : Array Value} (h : ∃ D : DataW Unit, w.ownsMap Tryz.prog 121 (plainElem Tryz.prog 94) cb 0 D) (K : Keyed Tryz.prog 121) :
    Calls Tryz.prog 74 #[.map (some cb), .pointer (some ⟨ab, 0, none⟩), .func (.func dg) #[] lb] w fun e w' => e = .returned (.tuple #[]) ∧ Below w.heap.size w w' := by
  obtain ⟨D, ho⟩ := h
  have hs := ho.size_le
  go_enter Tryz.func74, Tryz.ntmps74
  go_wp2_with (at_range; refine wpList_range_own _ rfl _ 82 rfl 121 94 K Tryz.underlying82 _ cb 0 _ rfl ho ?_; intro w0 hrg0 hg0 hs0)
  refine wp_loop_rounds 1 ?_
  rw [rounds_succ]
  go_wp2_with (at_next; refine wpList_next_ranges _ rfl _ rfl 121 K (plainElem Tryz.prog 94) (id : Value → Value) (id : Value → Value) (fun key kl h => ⟨key, rfl⟩) (fun v y h => ⟨v, rfl⟩) cb w.heap.size 0 _ _ _ rfl hrg0 ?_ ?_)
  · intro _ _
    go_wp2
    go_end0
    exact ⟨rfl, (Below.refl _ w).grown hg0 (Nat.le_refl _) (fun k e => by cases e)⟩
  · intro x c kl yd yp w2 cnt2 hkey hlk hv hat hrg2 hlt
    omega
end Go.Proofs.YtpgbfkdknggceaaGreatDoor

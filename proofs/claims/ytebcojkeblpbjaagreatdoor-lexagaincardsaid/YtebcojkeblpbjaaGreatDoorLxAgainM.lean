/-
  Tokens stand one behind the other, the end last; the text that LexAgain makes of them.
  Conditions: as each theorem says. (No program is named here.)
-/
import Derived.Test.YtebcojkeblpbjaaGreatDoorLexMath
namespace Go.Proofs.YtebcojkeblpbjaaGreatDoor.LM
set_option linter.unusedVariables false
theorem one_kind {s : List UInt8} {k : Nat} {x : List UInt8} {v : Int} {n : Nat} (h : one s = .ok k x v n) : k ≠ 0 := by
  cases s with
  | nil => simp [one] at h
  | cons c t =>
    replace h : one1 c t = _ := h
    unfold one1 at h
    split at h
    · simp only at h
      split at h
      · cases h
      · split at h
        · cases h; decide
        · cases h
    · split at h
      · cases h; decide
      · split at h
        · split at h
          · cases h; decide
          · cases h
        · split at h
          · cases h
          · cases h; decide
/-- One behind the other, none behind N, the end last and nowhere else. -/
def Srt (N : Nat) : List Tok → Prop
  | [] => False
  | [t] => t.pos ≤ N ∧ t.kind = 0
  | t :: t' :: l => t.pos ≤ t'.pos ∧ t.kind ≠ 0 ∧ Srt N (t' :: l)
theorem srt_aux (N : Nat) : ∀ (n at_ : Nat) (s : List UInt8) (l : List Tok), s.length ≤ n → at_ + s.length ≤ N → lexR at_ s = .toks l → Srt N l
  | n, at_, s, l, hn, hN, h => by
    have hg := gap_le false s
    cases hs : s.drop (gap false s) with
    | nil => rw [lexR_end hs] at h; cases h; exact ⟨by show at_ + gap false s ≤ N; omega, rfl⟩
    | cons c u =>
      cases ho : one (c :: u) with
      | bad r => rw [lexR_bad hs ho] at h; cases h
      | ok k x v m =>
        rw [lexR_ok hs ho] at h
        obtain ⟨l', hl', rfl⟩ := cons_toks h
        have hm := one_pos ho
        have hl : gap false s + (c :: u).length = s.length := by rw [← hs, List.length_drop]; omega
        have hd : ((c :: u).drop m).length + m = (c :: u).length := by rw [List.length_drop]; omega
        match n, hn with
        | 0, hn => simp only [List.length_cons] at hl; omega
        | n + 1, hn =>
          have ih := srt_aux N n _ _ l' (by omega) (by omega) hl'
          obtain ⟨t0, m0, rfl, hp0⟩ := lexR_ne hl'
          exact ⟨by rw [hp0]; simp only; omega, one_kind ho, ih⟩
theorem lexR_srt {s : List UInt8} {l : List Tok} (h : lexR 0 s = .toks l) : Srt s.length l := srt_aux s.length _ 0 s l (Nat.le_refl _) (by omega) h
theorem Srt.head {N : Nat} : ∀ {l : List Tok} {t : Tok} {r : List Tok}, Srt N l → l = t :: r → t.pos ≤ N
  | [t0], t, r, h, e => by cases e; exact h.1
  | t0 :: t1 :: l, t, r, h, e => by
    cases e
    exact Nat.le_trans h.1 (Srt.head (l := t1 :: l) h.2.2 rfl)
theorem Srt.drop {N : Nat} : ∀ {l : List Tok} {i : Nat}, Srt N l → i < l.length → Srt N (l.drop i)
  | l, 0, h, _ => h
  | [t], i + 1, h, hi => by simp at hi
  | t :: t' :: l, i + 1, h, hi => by
    rw [List.drop_succ_cons]
    exact Srt.drop h.2.2 (by simpa using hi)
theorem drop_two {l : List Tok} {i : Nat} (h : i + 1 < l.length) : ∃ t t' r, l[i]? = some t ∧ l[i + 1]? = some t' ∧ l.drop i = t :: t' :: r ∧ l.drop (i + 1) = t' :: r := by
  have h1 := List.drop_eq_getElem_cons (l := l) (i := i) (by omega)
  have h2 := List.drop_eq_getElem_cons (l := l) (i := i + 1) h
  exact ⟨l[i], l[i + 1], l.drop (i + 2), List.getElem?_eq_getElem (by omega), List.getElem?_eq_getElem h, by rw [h1, h2], h2⟩
theorem drop_one {l : List Tok} {i : Nat} (h : i + 1 = l.length) : ∃ t, l[i]? = some t ∧ l.drop i = [t] := by
  have h1 := List.drop_eq_getElem_cons (l := l) (i := i) (by omega)
  exact ⟨l[i], List.getElem?_eq_getElem (by omega), by rw [h1, List.drop_eq_nil_of_le (by omega)]⟩
theorem again_two (S : List UInt8) (t t' : Tok) (r : List Tok) : again S (t :: t' :: r) = (S.drop t.pos).take (t'.pos - t.pos) ++ 32 :: 10 :: 32 :: again S (t' :: r) := rfl
theorem again_len (S : List UInt8) (N : Nat) : ∀ (l : List Tok) (t : Tok) (r : List Tok), Srt N l → l = t :: r → (again S l).length + t.pos ≤ N + 3 * r.length
  | [t0], t, r, h, e => by
    cases e
    have := h.1
    simp [again]; omega
  | t0 :: t1 :: l, t, r, h, e => by
    cases e
    have ih := again_len S N (t1 :: l) t1 l h.2.2 rfl
    have h1 := h.1
    rw [again_two, List.length_append]
    simp only [List.length_cons, List.length_take] at ih ⊢
    omega
end Go.Proofs.YtebcojkeblpbjaaGreatDoor.LM

/-
  Going round till nothing changes: as many rounds as there are places are enough; and what is then reached is what the laws' arena reaches.
  Conditions: as each theorem says. (No program is named in the first part.)
-/
import Derived.Test.YtebcojkeblpbjaaSwDead
namespace Go.Proofs.Ytebcojkeblpbjaa
set_option linter.unusedVariables false
def put1 (f : Nat → Bool) (l : List Nat) : Nat → Bool := fun j => f j || l.contains j
def go1 (nm : Nat → List Nat) (f : Nat → Bool) (i : Nat) : Nat → Bool := if f i then put1 f (nm i) else f
def rndTo (nm : Nat → List Nat) (k : Nat) (f : Nat → Bool) : Nat → Bool := (List.range k).foldl (go1 nm) f
def rnds (nm : Nat → List Nat) (n : Nat) : Nat → (Nat → Bool) → (Nat → Bool)
  | 0, f => f
  | k + 1, f => rndTo nm n (rnds nm n k f)
/-- What is reached, by numbers. -/
inductive RchN (nm : Nat → List Nat) (roots : List Nat) : Nat → Prop
  | root (j : Nat) (h : j ∈ roots) : RchN nm roots j
  | step (i j : Nat) (h : RchN nm roots i) (hj : j ∈ nm i) : RchN nm roots j
theorem rndTo_succ (nm : Nat → List Nat) (k : Nat) (f : Nat → Bool) : rndTo nm (k + 1) f = go1 nm (rndTo nm k f) k := by simp [rndTo, List.range_succ, List.foldl_append]
theorem go1_mono {nm : Nat → List Nat} {f : Nat → Bool} {i j : Nat} (h : f j = true) : go1 nm f i j = true := by
  unfold go1
  split
  · simp [put1, h]
  · exact h
theorem rndTo_mono {nm : Nat → List Nat} {f : Nat → Bool} {j : Nat} (h : f j = true) : ∀ k, rndTo nm k f j = true
  | 0 => h
  | k + 1 => by rw [rndTo_succ]; exact go1_mono (rndTo_mono h k)
theorem rndTo_adds {nm : Nat → List Nat} {f : Nat → Bool} {i j : Nat} (hi : f i = true) (hj : j ∈ nm i) : ∀ k, i < k → rndTo nm k f j = true
  | 0, h => by omega
  | k + 1, h => by
    rw [rndTo_succ]
    by_cases hk : i = k
    · subst hk
      unfold go1
      rw [if_pos (rndTo_mono hi i)]
      simp [put1, hj]
    · exact go1_mono (rndTo_adds hi hj k (by omega))
theorem rndTo_sound {nm : Nat → List Nat} {roots : List Nat} {f : Nat → Bool} (h : ∀ j, f j = true → RchN nm roots j) : ∀ k j, rndTo nm k f j = true → RchN nm roots j
  | 0, j, hj => h j hj
  | k + 1, j, hj => by
    rw [rndTo_succ] at hj
    unfold go1 at hj
    split at hj
    · rename_i hk
      simp [put1] at hj
      rcases hj with hj | hj
      · exact rndTo_sound h k j hj
      · exact .step k j (rndTo_sound h k k hk) hj
    · exact rndTo_sound h k j hj
theorem rnds_sound {nm : Nat → List Nat} {roots : List Nat} {n : Nat} {f : Nat → Bool} (h : ∀ j, f j = true → RchN nm roots j) : ∀ k j, rnds nm n k f j = true → RchN nm roots j
  | 0, j, hj => h j hj
  | k + 1, j, hj => rndTo_sound (rnds_sound h k) n j hj
theorem rnds_mono {nm : Nat → List Nat} {n : Nat} {f : Nat → Bool} {j : Nat} (h : f j = true) : ∀ k, rnds nm n k f j = true
  | 0 => h
  | k + 1 => rndTo_mono (rnds_mono h k) n
def Shut (nm : Nat → List Nat) (n : Nat) (f : Nat → Bool) : Prop := ∀ i j, i < n → f i = true → j ∈ nm i → f j = true
def many (n : Nat) (f : Nat → Bool) : Nat := (List.range n).countP f
theorem many_le (n : Nat) (f : Nat → Bool) : many n f ≤ n := by
  have := List.countP_le_length (p := f) (l := List.range n)
  simpa [many] using this
theorem many_succ (n : Nat) (f : Nat → Bool) : many (n + 1) f = many n f + if f n then 1 else 0 := by simp [many, List.range_succ, List.countP_append, List.countP_cons]
theorem many_mono {f g : Nat → Bool} (h : ∀ j, f j = true → g j = true) : ∀ n, many n f ≤ many n g
  | 0 => Nat.le_refl _
  | n + 1 => by
    rw [many_succ, many_succ]
    have := many_mono h n
    by_cases hf : f n = true
    · rw [if_pos hf, if_pos (h n hf)]; omega
    · rw [if_neg hf]; omega
theorem many_more {f g : Nat → Bool} (h : ∀ j, f j = true → g j = true) {j : Nat} (h1 : f j = false) (h2 : g j = true) : ∀ n, j < n → many n f + 1 ≤ many n g
  | 0, hj => by omega
  | n + 1, hj => by
    rw [many_succ, many_succ]
    by_cases hn : j = n
    · subst hn
      have := many_mono h j
      simp [h1, h2]; omega
    · have := many_more h h1 h2 n (by omega)
      by_cases hf : f n = true
      · rw [if_pos hf, if_pos (h n hf)]; omega
      · rw [if_neg hf]; omega
theorem many_full {f : Nat → Bool} : ∀ n, n ≤ many n f → ∀ j, j < n → f j = true
  | 0, _, j, hj => by omega
  | n + 1, h, j, hj => by
    rw [many_succ] at h
    have := many_le n f
    by_cases hf : f n = true
    · rw [if_pos hf] at h
      by_cases hn : j = n
      · subst hn; exact hf
      · exact many_full n (by omega) j (by omega)
    · rw [if_neg hf] at h; omega
theorem go1_shut {nm : Nat → List Nat} {n : Nat} {f g : Nat → Bool} (h : Shut nm n f) (hg : ∀ j, g j = f j) {i : Nat} (hi : i < n) (j : Nat) : go1 nm g i j = f j := by
  unfold go1
  split
  · rename_i hk
    rw [hg] at hk
    simp only [put1, hg]
    cases hf : f j with
    | true => simp
    | false =>
      simp
      intro hj
      have := h i j hi hk hj
      rw [hf] at this
      cases this
  · exact hg j
theorem rndTo_shut {nm : Nat → List Nat} {n : Nat} {f : Nat → Bool} (h : Shut nm n f) : ∀ k, k ≤ n → ∀ j, rndTo nm k f j = f j
  | 0, _, j => rfl
  | k + 1, hk, j => by rw [rndTo_succ]; exact go1_shut h (rndTo_shut h k (by omega)) (by omega) j
theorem rnds_grow {nm : Nat → List Nat} {n : Nat} {f : Nat → Bool} (hn : ∀ i j, j ∈ nm i → j < n) : ∀ k, Shut nm n (rnds nm n k f) ∨ k ≤ many n (rnds nm n k f)
  | 0 => .inr (Nat.zero_le _)
  | k + 1 => by
    by_cases hs : Shut nm n (rnds nm n k f)
    · left
      intro i j hi h1 hj
      rw [rnds, rndTo_shut hs n (Nat.le_refl _)] at h1 ⊢
      exact hs i j hi h1 hj
    · right
      rcases rnds_grow hn k with h | h
      · exact absurd h hs
      · have : ∃ i j, i < n ∧ rnds nm n k f i = true ∧ j ∈ nm i ∧ rnds nm n k f j = false := by
          apply Classical.byContradiction
          intro hc
          apply hs
          intro i j hi h1 hj
          cases hf : rnds nm n k f j with
          | true => rfl
          | false => exact absurd ⟨i, j, hi, h1, hj, hf⟩ hc
        obtain ⟨i, j, hi, h1, hj, hf⟩ := this
        have := many_more (f := rnds nm n k f) (g := rnds nm n (k + 1) f) (fun j h => rndTo_mono h n) hf (rndTo_adds h1 hj n hi) n (hn i j hj)
        omega
theorem rnds_done {nm : Nat → List Nat} {n : Nat} {f : Nat → Bool} (hn : ∀ i j, j ∈ nm i → j < n) : Shut nm n (rnds nm n n f) := by
  rcases rnds_grow hn n (f := f) with h | h
  · exact h
  · exact fun i j _ _ hj => many_full n h j (hn i j hj)
/-- As many rounds as there are places are enough. -/
theorem rnds_reach {nm : Nat → List Nat} {n : Nat} {roots : List Nat} (hn : ∀ i j, j ∈ nm i → j < n) (hr : ∀ j ∈ roots, j < n) (j : Nat) :
    rnds nm n n (fun j => roots.contains j) j = true ↔ RchN nm roots j := by
  constructor
  · exact rnds_sound (fun j hj => .root j (by simpa using hj)) n j
  · intro h
    have hlt : ∀ j, RchN nm roots j → j < n := fun j h => by
      cases h with
      | root _ h => exact hr j h
      | step i _ _ hj => exact hn i j hj
    induction h with
    | root j h => exact rnds_mono (by simpa using h) n
    | step i j hi hj ih => exact rnds_done hn i j (hlt i hi) ih hj
/-- What the laws' arena reaches, by numbers. -/
theorem rch_num {w0 w : World} {ab : Nat} {L : List OO} {done : Nat → List Int} {B M : Nat → Nat} {s : St} (h : Mk w0 w ab L done B M s L.length) (hd : ∀ (j : Nat) (oo : OO), L[j]? = some oo → done j = oo.names) (hl : L.length ≤ 1000) {dd : Int → Bool} {roots : List Int} {at_ : List Nat}
    (hr : ∀ x ∈ roots, lives s x = true → ∃ i ∈ at_, x = refI i) (ha : ∀ i ∈ at_, i < L.length ∧ refI i ∈ roots) (x : Int) :
    Rch (lives s) (nmOf s (flM L done) dd) roots x ↔ ∃ i, x = refI i ∧ i < L.length ∧ RchN (nmL L dd) at_ i := by
  constructor
  · intro hx
    induction hx with
    | root x hx hlv =>
      obtain ⟨i, hi, rfl⟩ := hr x hx hlv
      exact ⟨i, rfl, (ha i hi).1, .root i hi⟩
    | step x y _ hy hlv ih =>
      obtain ⟨i, rfl, hi, hR⟩ := ih
      rw [h.names hd hl dd hi] at hy
      simp at hy
      obtain ⟨j, hj, rfl⟩ := hy
      obtain ⟨j', hj', e⟩ := (h.lives hl _).1 hlv
      have : j' = j := by unfold refI at e; omega
      subst this
      exact ⟨j', rfl, hj', .step i j' hR hj⟩
  · rintro ⟨i, rfl, hi, hR⟩
    induction hR with
    | root j hj => exact .root _ (ha j hj).2 ((h.lives hl _).2 ⟨j, hi, rfl⟩)
    | step i j hR hj ih =>
      have hi' : i < L.length := by
        cases hR with
        | root _ h => exact (ha i h).1
        | step i' _ _ hj' => 
          apply Classical.byContradiction
          intro hc
          unfold nmL at hj
          rw [List.getElem?_eq_none (by omega)] at hj
          simp at hj
      refine .step (refI i) _ (ih hi') ?_ ((h.lives hl _).2 ⟨j, hi, rfl⟩)
      rw [h.names hd hl dd hi']
      simp
      exact ⟨j, hj, rfl⟩
end Go.Proofs.Ytebcojkeblpbjaa

/-
  What a text's tokens are, as plain lists; two texts with a line feed between; the tokens with blanks between.
  Conditions: as each theorem says. (No program is named here.)
-/
import Derived.WalkKit
namespace Go.Proofs.YthghjnkeofkoiaaGreatDoor.LM
set_option linter.unusedVariables false

def isDig (c : UInt8) : Bool := decide (48 ≤ c.toNat) && decide (c.toNat ≤ 57)
def isWrd (c : UInt8) : Bool := decide (97 ≤ c.toNat) && decide (c.toNat ≤ 122) || (decide (65 ≤ c.toNat) && decide (c.toNat ≤ 90) || (decide (c.toNat = 95) || isDig c))
def notNl (c : UInt8) : Bool := decide (c.toNat ≠ 10)
def runOf (p : UInt8 → Bool) : List UInt8 → Nat
  | [] => 0
  | c :: t => if p c then runOf p t + 1 else 0
def gap : Bool → List UInt8 → Nat
  | _, [] => 0
  | true, c :: t => if c.toNat = 10 then gap false t + 1 else gap true t + 1
  | false, c :: t => if c.toNat = 32 ∨ c.toNat = 10 then gap false t + 1 else if c.toNat = 35 then gap true t + 1 else 0
structure Tok where
  kind : Nat
  text : List UInt8
  num : Int
  pos : Nat
def numOf (l : List UInt8) : Nat := l.foldl (fun x c => 10 * x + (c.toNat - 48)) 0
def txt : List UInt8 → Option (List UInt8 × Nat)
  | [] => none
  | c :: t => if c.toNat = 34 then some ([], 1)
    else if c.toNat = 92 then
      match t with
      | [] => none
      | d :: u => if d.toNat = 34 ∨ d.toNat = 92 then (txt u).map fun p => (d :: p.1, p.2 + 2) else if d.toNat = 110 then (txt u).map fun p => (10 :: p.1, p.2 + 2) else none
    else if c.toNat < 32 ∨ 126 < c.toNat then none
    else (txt t).map fun p => (c :: p.1, p.2 + 1)
def signs1 : List Nat := [40, 41, 123, 125, 91, 93, 59, 44, 58, 46, 61, 60, 43, 45, 42, 33]
def sgn : List UInt8 → Nat
  | [] => 0
  | [c] => if signs1.contains c.toNat then 1 else 0
  | c :: d :: _ => if (c.toNat = 61 ∨ c.toNat = 33) ∧ d.toNat = 61 then 2 else if signs1.contains c.toNat then 1 else 0
inductive One where
  | ok (kind : Nat) (text : List UInt8) (num : Int) (n : Nat)
  | bad (range : Bool)
def one1 (c : UInt8) (t : List UInt8) : One :=
    if isDig c then
      let n := runOf isDig (c :: t)
      if 1 < n ∧ c.toNat = 48 then .bad true
      else if numOf ((c :: t).take n) ≤ 9223372036854775807 then .ok 2 ((c :: t).take n) (numOf ((c :: t).take n)) n
      else .bad true
    else if isWrd c then .ok 1 ((c :: t).take (runOf isWrd (c :: t))) 0 (runOf isWrd (c :: t))
    else if c.toNat = 34 then
      match txt t with
      | some (m, n) => .ok 3 m 0 (n + 1)
      | none => .bad false
    else
      match sgn (c :: t) with
      | 0 => .bad false
      | n + 1 => .ok 4 ((c :: t).take (n + 1)) 0 (n + 1)
def one : List UInt8 → One
  | [] => .bad false
  | c :: t => one1 c t
inductive Res where
  | toks (l : List Tok)
  | bad (at_ : Nat) (range : Bool)
def Res.cons (t : Tok) : Res → Res
  | .toks l => .toks (t :: l)
  | r => r
def lexF : Nat → Nat → List UInt8 → Res
  | 0, at_, _ => .bad at_ false
  | f + 1, at_, s =>
    let g := gap false s
    match s.drop g with
    | [] => .toks [⟨0, [], 0, at_ + g⟩]
    | c :: u =>
      match one (c :: u) with
      | .bad r => .bad (at_ + g) r
      | .ok k x v n => (lexF f (at_ + g + n) ((c :: u).drop n)).cons ⟨k, x, v, at_ + g⟩
theorem runOf_le (p : UInt8 → Bool) : ∀ s, runOf p s ≤ s.length
  | [] => Nat.le_refl _
  | c :: t => by
    unfold runOf
    have := runOf_le p t
    split <;> simp <;> omega
theorem gap_le : ∀ (b : Bool) (s : List UInt8), gap b s ≤ s.length
  | _, [] => by simp [gap]
  | true, c :: t => by
    unfold gap
    have := gap_le true t
    have := gap_le false t
    split <;> simp <;> omega
  | false, c :: t => by
    unfold gap
    have := gap_le true t
    have := gap_le false t
    split
    · simp; omega
    · split <;> simp <;> omega
theorem txt_le : ∀ (s : List UInt8) (m : List UInt8) (n : Nat), txt s = some (m, n) → 0 < n ∧ n ≤ s.length
  | [], m, n, h => by simp [txt] at h
  | c :: t, m, n, h => by
    unfold txt at h
    split at h
    · simp at h; simp; omega
    · split at h
      · cases t with
        | nil => simp at h
        | cons d u =>
          simp only at h
          split at h
          · simp at h
            obtain ⟨a, b, h1, h2, h3⟩ := h
            have := txt_le u a b h1
            simp; omega
          · split at h
            · simp at h
              obtain ⟨a, b, h1, h2, h3⟩ := h
              have := txt_le u a b h1
              simp; omega
            · simp at h
      · split at h
        · simp at h
        · simp at h
          obtain ⟨a, b, h1, h2, h3⟩ := h
          have := txt_le t a b h1
          simp; omega
theorem sgn_le (s : List UInt8) : sgn s ≤ s.length := by
  unfold sgn
  split
  · simp
  · split <;> simp
  · split
    · simp
    · split <;> simp
theorem one_pos {s : List UInt8} {k : Nat} {x : List UInt8} {v : Int} {n : Nat} (h : one s = .ok k x v n) : 0 < n ∧ n ≤ s.length := by
  cases s with
  | nil => simp [one] at h
  | cons c t =>
    replace h : one1 c t = _ := h
    unfold one1 at h
    split at h
    · rename_i hd
      have h1 : 0 < runOf isDig (c :: t) := by simp [runOf, hd]
      have h2 := runOf_le isDig (c :: t)
      simp only at h
      split at h
      · cases h
      · split at h
        · cases h; exact ⟨h1, h2⟩
        · cases h
    · split at h
      · rename_i hd
        have h1 : 0 < runOf isWrd (c :: t) := by simp [runOf, hd]
        cases h; exact ⟨h1, runOf_le _ _⟩
      · split at h
        · split at h
          · rename_i m n' hx
            cases h
            have := txt_le t _ _ hx
            simp; omega
          · cases h
        · split at h
          · cases h
          · rename_i n' hx
            cases h
            have := sgn_le (c :: t)
            omega
theorem lexF_fuel : ∀ (f f' at_ : Nat) (s : List UInt8), s.length < f → s.length < f' → lexF f at_ s = lexF f' at_ s
  | 0, f', at_, s, h, _ => by omega
  | f + 1, 0, at_, s, _, h => by omega
  | f + 1, f' + 1, at_, s, h, h' => by
    unfold lexF
    simp only
    split
    · rfl
    · rename_i c u hu
      have hl : (c :: u).length ≤ s.length := by rw [← hu]; simp
      split
      · rfl
      · rename_i k x v n ho
        have := one_pos ho
        have hd : ((c :: u).drop n).length < (c :: u).length := by rw [List.length_drop]; omega
        rw [lexF_fuel f f' _ _ (by omega) (by omega)]
def lexR (at_ : Nat) (s : List UInt8) : Res := lexF (s.length + 1) at_ s
theorem lexR_end {at_ : Nat} {s : List UInt8} (h : s.drop (gap false s) = []) : lexR at_ s = .toks [⟨0, [], 0, at_ + gap false s⟩] := by
  unfold lexR lexF
  simp only [h]
theorem lexR_bad {at_ : Nat} {s : List UInt8} {c : UInt8} {u : List UInt8} {r : Bool} (h : s.drop (gap false s) = c :: u) (ho : one (c :: u) = .bad r) : lexR at_ s = .bad (at_ + gap false s) r := by
  unfold lexR lexF
  simp only [h, ho]
theorem lexR_ok {at_ : Nat} {s : List UInt8} {c : UInt8} {u : List UInt8} {k : Nat} {x : List UInt8} {v : Int} {n : Nat} (h : s.drop (gap false s) = c :: u) (ho : one (c :: u) = .ok k x v n) :
    lexR at_ s = (lexR (at_ + gap false s + n) ((c :: u).drop n)).cons ⟨k, x, v, at_ + gap false s⟩ := by
  have hl : (c :: u).length ≤ s.length := by rw [← h]; simp
  have := one_pos ho
  have hd : ((c :: u).drop n).length < (c :: u).length := by rw [List.length_drop]; omega
  unfold lexR
  conv => lhs; unfold lexF
  simp only [h, ho]
  rw [lexF_fuel s.length _ _ _ (by omega) (Nat.lt_succ_self _)]
theorem gap_drop : ∀ (b : Bool) (s : List UInt8), gap false (s.drop (gap b s)) = 0
  | _, [] => by simp [gap]
  | true, c :: t => by
    have h1 := gap_drop false t
    have h2 := gap_drop true t
    by_cases h : c.toNat = 10
    · rw [show gap true (c :: t) = gap false t + 1 from by simp [gap, h]]; simpa using h1
    · rw [show gap true (c :: t) = gap true t + 1 from by simp [gap, h]]; simpa using h2
  | false, c :: t => by
    have h1 := gap_drop false t
    have h2 := gap_drop true t
    by_cases h : c.toNat = 32 ∨ c.toNat = 10
    · rw [show gap false (c :: t) = gap false t + 1 from by simp [gap, h]]; simpa using h1
    · by_cases h' : c.toNat = 35
      · rw [show gap false (c :: t) = gap true t + 1 from by simp [gap, h']]; simpa using h2
      · rw [show gap false (c :: t) = 0 from by simp [gap, h, h']]; simp [gap, h, h']
theorem lexR_gap {at_ : Nat} {s : List UInt8} : lexR at_ s = lexR (at_ + gap false s) (s.drop (gap false s)) := by
  have hg : gap false (s.drop (gap false s)) = 0 := gap_drop false s
  cases h : s.drop (gap false s) with
  | nil => rw [lexR_end h, lexR_end (s := []) (by simp)]; simp [gap]
  | cons c u =>
    rw [h] at hg
    have h' : (c :: u).drop (gap false (c :: u)) = c :: u := by rw [hg]; rfl
    cases ho : one (c :: u) with
    | bad r => rw [lexR_bad h ho, lexR_bad h' ho, hg]; rfl
    | ok k x v n => rw [lexR_ok h ho, lexR_ok h' ho, hg]; rfl
def Tok.shift (k : Nat) (t : Tok) : Tok := { t with pos := t.pos + k }
def Res.shift (k : Nat) : Res → Res
  | .toks l => .toks (l.map (Tok.shift k))
  | .bad a r => .bad (a + k) r
theorem shift_cons (k : Nat) (t : Tok) (r : Res) : (r.cons t).shift k = (r.shift k).cons (t.shift k) := by cases r <;> rfl
theorem lexR_shift_aux : ∀ (n : Nat) (at_ k : Nat) (s : List UInt8), s.length ≤ n → lexR (at_ + k) s = (lexR at_ s).shift k
  | n, at_, k, s, hn => by
    cases h : s.drop (gap false s) with
    | nil => rw [lexR_end h, lexR_end h]; simp [Res.shift, Tok.shift]; omega
    | cons c u =>
      cases ho : one (c :: u) with
      | bad r => rw [lexR_bad h ho, lexR_bad h ho]; simp [Res.shift]; omega
      | ok kd x v m =>
        have hl : (c :: u).length ≤ s.length := by rw [← h]; simp
        have hm := one_pos ho
        have hd : ((c :: u).drop m).length < (c :: u).length := by rw [List.length_drop]; omega
        match n, hn with
        | 0, hn => simp only [List.length_cons] at hl; omega
        | n + 1, hn =>
          rw [lexR_ok h ho, lexR_ok h ho, shift_cons]
          have := lexR_shift_aux n (at_ + gap false s + m) k ((c :: u).drop m) (by omega)
          rw [← this]
          have e : at_ + k + gap false s + m = at_ + gap false s + m + k := by omega
          have e2 : at_ + k + gap false s = at_ + gap false s + k := by omega
          rw [e, e2]
          rfl
theorem lexR_shift (at_ k : Nat) (s : List UInt8) : lexR (at_ + k) s = (lexR at_ s).shift k := lexR_shift_aux _ at_ k s (Nat.le_refl _)
theorem runOf_ext {p : UInt8 → Bool} : ∀ {s r : List UInt8}, (∀ d z, r = d :: z → p d = false) → runOf p (s.take (runOf p s) ++ r) = runOf p s
  | [], r, h => by
    cases r with
    | nil => rfl
    | cons d z => simp [runOf, h d z rfl]
  | c :: t, r, h => by
    by_cases hc : p c = true
    · simp only [runOf, hc, if_true, List.take_succ_cons, List.cons_append]
      rw [runOf_ext h]
    · simp only [runOf, hc, if_false, List.take_zero, List.nil_append, Bool.false_eq_true]
      cases r with
      | nil => rfl
      | cons d z => simp [runOf, h d z rfl]
theorem runOf_stop {p : UInt8 → Bool} : ∀ {s : List UInt8} {d : UInt8}, s[runOf p s]? = some d → p d = false
  | [], d, h => by simp at h
  | c :: t, d, h => by
    by_cases hc : p c = true
    · simp only [runOf, hc, if_true] at h
      exact runOf_stop (s := t) (by simpa using h)
    · simp only [runOf, hc] at h
      simp at h
      subst h
      simpa using hc
theorem txt_q {c : UInt8} (t : List UInt8) (h : c.toNat = 34) : txt (c :: t) = some ([], 1) := by unfold txt; rw [if_pos h]
theorem txt_b {c : UInt8} (d : UInt8) (u : List UInt8) (h : c.toNat = 92) : txt (c :: d :: u) = if d.toNat = 34 ∨ d.toNat = 92 then (txt u).map fun p => (d :: p.1, p.2 + 2) else if d.toNat = 110 then (txt u).map fun p => (10 :: p.1, p.2 + 2) else none := by
  conv => lhs; unfold txt
  rw [if_neg (by omega), if_pos h]
theorem txt_b0 {c : UInt8} (h : c.toNat = 92) : txt [c] = none := by
  unfold txt
  rw [if_neg (by omega), if_pos h]
theorem txt_o {c : UInt8} (t : List UInt8) (h1 : c.toNat ≠ 34) (h2 : c.toNat ≠ 92) : txt (c :: t) = if c.toNat < 32 ∨ 126 < c.toNat then none else (txt t).map fun p => (c :: p.1, p.2 + 1) := by
  conv => lhs; unfold txt
  rw [if_neg h1, if_neg h2]
theorem txt_ext : ∀ (s : List UInt8) (m : List UInt8) (n : Nat) (r : List UInt8), txt s = some (m, n) → txt (s.take n ++ r) = some (m, n)
  | [], m, n, r, h => by simp [txt] at h
  | c :: t, m, n, r, h => by
    have hp := txt_le _ _ _ h
    obtain ⟨n', rfl⟩ : ∃ n', n = n' + 1 := ⟨n - 1, by omega⟩
    rw [List.take_succ_cons, List.cons_append]
    by_cases h1 : c.toNat = 34
    · rw [txt_q _ h1] at h ⊢
      exact h
    · by_cases h2 : c.toNat = 92
      · cases t with
        | nil => rw [txt_b0 h2] at h; cases h
        | cons d u =>
          rw [txt_b d u h2] at h
          split at h
          · rename_i h3
            simp only [Option.map_eq_some_iff, Prod.exists] at h
            obtain ⟨a, b, h4, h5⟩ := h
            simp only [Prod.mk.injEq] at h5
            obtain ⟨h5, h6⟩ := h5
            obtain rfl : n' = b + 1 := by omega
            rw [List.take_succ_cons, List.cons_append, txt_b _ _ h2, if_pos h3, txt_ext u a b r h4, ← h5]
            rfl
          · rename_i h3
            split at h
            · rename_i h3'
              simp only [Option.map_eq_some_iff, Prod.exists] at h
              obtain ⟨a, b, h4, h5⟩ := h
              simp only [Prod.mk.injEq] at h5
              obtain ⟨h5, h6⟩ := h5
              obtain rfl : n' = b + 1 := by omega
              rw [List.take_succ_cons, List.cons_append, txt_b _ _ h2, if_neg h3, if_pos h3', txt_ext u a b r h4, ← h5]
              rfl
            · cases h
      · rw [txt_o _ h1 h2] at h ⊢
        split at h
        · cases h
        · rename_i h3
          simp only [Option.map_eq_some_iff, Prod.exists] at h
          obtain ⟨a, b, h4, h5⟩ := h
          simp only [Prod.mk.injEq] at h5
          obtain ⟨h5, h6⟩ := h5
          obtain rfl : n' = b := by omega
          rw [if_neg h3, txt_ext t a n' r h4, ← h5]
          rfl
def After (s : List UInt8) (n : Nat) (r : List UInt8) : Prop := ∀ d z, r = d :: z → d.toNat = 10 ∨ d.toNat = 32 ∨ s[n]? = some d
theorem one_ext {s : List UInt8} {k : Nat} {x : List UInt8} {v : Int} {n : Nat} {r : List UInt8} (h : one s = .ok k x v n) (hr : After s n r) : one (s.take n ++ r) = .ok k x v n := by
  cases s with
  | nil => simp [one] at h
  | cons c t =>
    have hp := one_pos h
    obtain ⟨n', rfl⟩ : ∃ n', n = n' + 1 := ⟨n - 1, by omega⟩
    rw [List.take_succ_cons, List.cons_append]
    replace h : one1 c t = _ := h
    show one1 c _ = _
    have stop : ∀ p : UInt8 → Bool, (∀ d : UInt8, d.toNat = 10 ∨ d.toNat = 32 → p d = false) → runOf p (c :: t) = n' + 1 → runOf p (c :: (t.take n' ++ r)) = n' + 1 := fun p hp0 hn => by
      have := runOf_ext (p := p) (s := c :: t) (r := r) (fun d z hd => by
        rcases hr d z hd with h1 | h1 | h1
        · exact hp0 d (.inl h1)
        · exact hp0 d (.inr h1)
        · rw [← hn] at h1
          exact runOf_stop h1)
      rw [hn] at this
      exact this
    have tk : (c :: (t.take n' ++ r)).take (n' + 1) = (c :: t).take (n' + 1) := by
      simp only [List.take_succ_cons, List.length_cons] at hp ⊢
      rw [List.take_append_of_le_length (by rw [List.length_take]; omega), List.take_take]
      simp
    by_cases hd : isDig c = true
    · have hn : runOf isDig (c :: t) = n' + 1 := by
        simp only [one1, hd, if_true] at h
        split at h
        · cases h
        · split at h
          · simp only [One.ok.injEq] at h; exact h.2.2.2
          · cases h
      have hn2 := stop isDig (fun d hd => by unfold isDig; rcases hd with hd | hd <;> simp [hd]) hn
      simp only [one1, hd, if_true, hn, hn2, tk] at h ⊢
      exact h
    · by_cases hw : isWrd c = true
      · have hn : runOf isWrd (c :: t) = n' + 1 := by
          simp only [one1, hd, hw, if_true] at h
          have h9 : One.ok 1 (List.take (runOf isWrd (c :: t)) (c :: t)) 0 (runOf isWrd (c :: t)) = One.ok k x v (n' + 1) := h
          simp only [One.ok.injEq] at h9
          exact h9.2.2.2
        have hn2 := stop isWrd (fun d hd => by unfold isWrd isDig; rcases hd with hd | hd <;> simp [hd]) hn
        simp only [one1, hd, hw, if_true, hn, hn2, tk] at h ⊢
        exact h
      · by_cases hq : c.toNat = 34
        · simp only [one1, hd, hw, hq, if_true] at h ⊢
          cases hx : txt t with
          | none => simp [hx] at h
          | some p =>
            obtain ⟨m, q⟩ := p
            rw [hx] at h
            simp at h
            obtain ⟨rfl, rfl, rfl, rfl⟩ := h
            rw [txt_ext t _ _ r hx]
            simp
        · simp only [one1, hd, hw, hq] at h ⊢
          have key : sgn (c :: (t.take n' ++ r)) = sgn (c :: t) := by
            have hs : sgn (c :: t) = n' + 1 := by
              cases hs : sgn (c :: t) with
              | zero => simp [hs] at h
              | succ q => simp [hs] at h; omega
            rw [hs]
            cases t with
            | nil =>
              have hs1 : c.toNat ∈ signs1 := by
                apply Classical.byContradiction
                intro hc
                simp [sgn, hc] at hs
              obtain rfl : n' = 0 := by simp [sgn, hs1] at hs; omega
              cases r with
              | nil => simp [sgn, hs1]
              | cons d z =>
                rcases hr d z rfl with h1 | h1 | h1
                · simp [sgn, h1, hs1]
                · simp [sgn, h1, hs1]
                · simp at h1
            | cons d u =>
              by_cases h2 : (c.toNat = 61 ∨ c.toNat = 33) ∧ d.toNat = 61
              · simp [sgn, h2] at hs
                subst hs
                simp [sgn, h2]
              · have hs1 : c.toNat ∈ signs1 := by
                  apply Classical.byContradiction
                  intro hc
                  simp [sgn, hc, h2] at hs
                obtain rfl : n' = 0 := by simp [sgn, hs1, h2] at hs; omega
                cases r with
                | nil => simp [sgn, hs1]
                | cons e z =>
                  rcases hr e z rfl with h1 | h1 | h1
                  · simp [sgn, h1, hs1]
                  · simp [sgn, h1, hs1]
                  · simp at h1
                    subst h1
                    simp [sgn, h2, hs1]
          rw [key]
          cases hs : sgn (c :: t) with
          | zero => simp [hs] at h
          | succ q =>
            rw [hs] at h
            simp at h
            obtain ⟨rfl, rfl, rfl, rfl⟩ := h
            simp only [tk]
            simp
theorem gap_app : ∀ (b : Bool) (y : List UInt8), gap b y = y.length → ∃ b', ∀ z, gap b (y ++ z) = y.length + gap b' z
  | b, [], _ => ⟨b, fun z => by simp⟩
  | true, c :: t, h => by
    by_cases hc : c.toNat = 10
    · simp only [gap, hc, if_true, List.length_cons] at h
      obtain ⟨b', hb⟩ := gap_app false t (by omega)
      exact ⟨b', fun z => by simp [gap, hc, hb z]; omega⟩
    · simp only [gap, hc, if_false, List.length_cons] at h
      obtain ⟨b', hb⟩ := gap_app true t (by omega)
      exact ⟨b', fun z => by simp [gap, hc, hb z]; omega⟩
  | false, c :: t, h => by
    by_cases hc : c.toNat = 32 ∨ c.toNat = 10
    · simp only [gap, hc, if_true, List.length_cons] at h
      obtain ⟨b', hb⟩ := gap_app false t (by omega)
      exact ⟨b', fun z => by simp [gap, hc, hb z]; omega⟩
    · by_cases hc' : c.toNat = 35
      · rw [gap, if_neg hc, if_pos hc', List.length_cons] at h
        obtain ⟨b', hb⟩ := gap_app true t (by omega)
        exact ⟨b', fun z => by simp [gap, hc', hb z]; omega⟩
      · simp [gap, hc, hc'] at h
theorem gap_take : ∀ (b : Bool) (s : List UInt8), gap b (s.take (gap b s)) = (s.take (gap b s)).length
  | _, [] => by simp [gap]
  | true, c :: t => by
    have h1 := gap_take false t
    have h2 := gap_take true t
    by_cases hc : c.toNat = 10
    · rw [show gap true (c :: t) = gap false t + 1 from by simp [gap, hc], List.take_succ_cons]
      simp only [gap, hc, if_true, List.length_cons]; omega
    · rw [show gap true (c :: t) = gap true t + 1 from by simp [gap, hc], List.take_succ_cons]
      simp only [gap, hc, if_false, List.length_cons]; omega
  | false, c :: t => by
    have h1 := gap_take false t
    have h2 := gap_take true t
    by_cases hc : c.toNat = 32 ∨ c.toNat = 10
    · rw [show gap false (c :: t) = gap false t + 1 from by simp [gap, hc], List.take_succ_cons]
      simp only [gap, hc, if_true, List.length_cons]; omega
    · by_cases hc' : c.toNat = 35
      · rw [show gap false (c :: t) = gap true t + 1 from by simp [gap, hc'], List.take_succ_cons]
        rw [gap, if_neg hc, if_pos hc', List.length_cons]; omega
      · rw [show gap false (c :: t) = 0 from by simp [gap, hc, hc']]; simp [gap]
theorem gap_head {c : UInt8} {u : List UInt8} (h : gap false (c :: u) = 0) (z : List UInt8) : gap false (c :: z) = 0 := by
  unfold gap at h ⊢
  split at h
  · omega
  · rename_i h1
    rw [if_neg h1]
    split at h
    · omega
    · rename_i h2
      rw [if_neg h2]
theorem gap_nl (b : Bool) (z : List UInt8) : gap b (10 :: z) = gap false z + 1 := by cases b <;> simp [gap]
def Res.pre (l : List Tok) : Res → Res
  | .toks m => .toks (l ++ m)
  | r => r
theorem pre_cons (t : Tok) (l : List Tok) (r : Res) : (r.pre l).cons t = r.pre (t :: l) := by cases r <;> rfl
theorem pre_nil (r : Res) : r.pre [] = r := by cases r <;> rfl
theorem cons_toks {t : Tok} {r : Res} {l : List Tok} (h : r.cons t = .toks l) : ∃ m, r = .toks m ∧ l = t :: m := by
  cases r with
  | toks m => simp [Res.cons] at h; exact ⟨m, rfl, h.symm⟩
  | bad a b => simp [Res.cons] at h
theorem lexR_ne {at_ : Nat} {s : List UInt8} {l : List Tok} (h : lexR at_ s = .toks l) : ∃ t m, l = t :: m ∧ t.pos = at_ + gap false s := by
  cases hs : s.drop (gap false s) with
  | nil => rw [lexR_end hs] at h; cases h; exact ⟨_, _, rfl, rfl⟩
  | cons c u =>
    cases ho : one (c :: u) with
    | bad r => rw [lexR_bad hs ho] at h; cases h
    | ok k x v n =>
      rw [lexR_ok hs ho] at h
      obtain ⟨m, _, rfl⟩ := cons_toks h
      exact ⟨_, _, rfl, rfl⟩
theorem lexR_join_aux : ∀ (n at_ : Nat) (s b : List UInt8) (l : List Tok), s.length ≤ n → lexR at_ s = .toks l → lexR at_ (s ++ 10 :: b) = (lexR (at_ + s.length + 1) b).pre l.dropLast
  | n, at_, s, b, l, hn, h => by
    cases hs : s.drop (gap false s) with
    | nil =>
      rw [lexR_end hs] at h
      cases h
      have hg : gap false s = s.length := by have := gap_le false s; have h2 : (s.drop (gap false s)).length = 0 := by rw [hs]; rfl
                                             rw [List.length_drop] at h2; omega
      obtain ⟨b', hb⟩ := gap_app false s hg
      have e : gap false (s ++ 10 :: b) = s.length + (gap false b + 1) := by rw [hb, gap_nl]
      rw [lexR_gap (s := s ++ 10 :: b), e, List.dropLast_singleton, pre_nil, lexR_gap (s := b)]
      have e2 : (s ++ 10 :: b).drop (s.length + (gap false b + 1)) = b.drop (gap false b) := by
        rw [← List.drop_drop, List.drop_left]; rfl
      rw [e2]
      congr 1
      omega
    | cons c u =>
      cases ho : one (c :: u) with
      | bad r => rw [lexR_bad hs ho] at h; cases h
      | ok k x v m =>
        rw [lexR_ok hs ho] at h
        obtain ⟨l', hl', rfl⟩ := cons_toks h
        have hm := one_pos ho
        have hgl : gap false s + (c :: u).length = s.length := by
          have := gap_le false s
          rw [← hs, List.length_drop]; omega
        have hsp : s = s.take (gap false s) ++ (c :: u) := by rw [← hs, List.take_append_drop]
        obtain ⟨b', hb⟩ := gap_app false _ (gap_take false s)
        have hlt : (s.take (gap false s)).length = gap false s := by rw [List.length_take]; have := gap_le false s; omega
        have hz0 : gap b' (c :: u) = 0 := by
          have := hb (c :: u)
          rw [← hsp, hlt] at this; omega
        have hz : ∀ z, gap b' (c :: z) = 0 := fun z => by
          cases b' with
          | true => unfold gap at hz0; split at hz0 <;> omega
          | false => exact gap_head hz0 z
        have e : gap false (s ++ 10 :: b) = gap false s := by
          conv => lhs; rw [hsp]
          rw [List.append_assoc, hb, hlt, List.cons_append, hz]
          rfl
        have e2 : (s ++ 10 :: b).drop (gap false (s ++ 10 :: b)) = c :: (u ++ 10 :: b) := by
          rw [e, List.drop_append_of_le_length (gap_le _ _), hs]; rfl
        have hsplit : c :: (u ++ 10 :: b) = (c :: u).take m ++ ((c :: u).drop m ++ 10 :: b) := by rw [← List.append_assoc, List.take_append_drop]; rfl
        have ho2 : one (c :: (u ++ 10 :: b)) = .ok k x v m := by
          rw [hsplit]
          refine one_ext ho fun d z hd => ?_
          cases hr : (c :: u).drop m with
          | nil => rw [hr] at hd; simp at hd; exact .inl (by rw [← hd.1]; rfl)
          | cons d' z' =>
            rw [hr] at hd
            simp at hd
            refine .inr (.inr ?_)
            rw [← hd.1]
            have := congrArg (fun l => l[0]?) hr
            simpa [List.getElem?_drop] using this
        rw [lexR_ok e2 ho2, e]
        have e3 : (c :: (u ++ 10 :: b)).drop m = (c :: u).drop m ++ 10 :: b := by
          rw [show c :: (u ++ 10 :: b) = (c :: u) ++ 10 :: b from rfl, List.drop_append_of_le_length hm.2]
        have hdl : ((c :: u).drop m).length < (c :: u).length := by rw [List.length_drop]; omega
        match n, hn with
        | 0, hn => omega
        | n + 1, hn =>
          rw [e3, lexR_join_aux n _ _ b l' (by omega) hl', pre_cons]
          obtain ⟨t0, m0, rfl, _⟩ := lexR_ne hl'
          rw [List.dropLast_cons_cons]
          congr 2
          rw [List.length_drop]; omega
theorem lexR_join {at_ : Nat} {s b : List UInt8} {l : List Tok} (h : lexR at_ s = .toks l) : lexR at_ (s ++ 10 :: b) = (lexR (at_ + s.length + 1) b).pre l.dropLast := lexR_join_aux _ at_ s b l (Nat.le_refl _) h
def again (s0 : List UInt8) : List Tok → List UInt8
  | t :: t' :: l => (s0.drop t.pos).take (t'.pos - t.pos) ++ 32 :: 10 :: 32 :: again s0 (t' :: l)
  | _ => []
def Tok.core (t : Tok) : Nat × List UInt8 × Int := (t.kind, t.text, t.num)
theorem lexR_any {at_ at' : Nat} {s : List UInt8} {l : List Tok} (h : lexR at_ s = .toks l) : ∃ m, lexR at' s = .toks m ∧ m.map Tok.core = l.map Tok.core := by
  have h1 := lexR_shift 0 at_ s
  have h2 := lexR_shift 0 at' s
  rw [Nat.zero_add] at h1 h2
  cases h0 : lexR 0 s with
  | bad a r => rw [h1, h0] at h; cases h
  | toks m =>
    rw [h1, h0] at h
    cases h
    rw [h2, h0]
    exact ⟨_, rfl, by simp [Tok.core, Tok.shift, Function.comp_def]⟩
end Go.Proofs.YthghjnkeofkoiaaGreatDoor.LM

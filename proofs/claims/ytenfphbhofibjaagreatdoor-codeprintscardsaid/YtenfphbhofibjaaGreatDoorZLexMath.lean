/-
 What a text's tokens are, as plain lists; two texts with a line feed between; the tokens with blanks between.
 Conditions: as each theorem says. (No program is named here.)
-/
import Derived.WalkKit
set_option linter.unusedVariables false
namespace Go.Proofs.YtenfphbhofibjaaGreatDoor.LM
def isDig (c : UInt8) : Bool := decide (48 ≤ c.toNat) && decide (c.toNat ≤ 57)
def isWrd (c : UInt8) : Bool := decide (97 ≤ c.toNat) && decide (c.toNat ≤ 122) || (decide (65 ≤ c.toNat) && decide (c.toNat ≤ 90) || (decide (c.toNat = 95) || isDig c))
def notNl (c : UInt8) : Bool := decide (c.toNat ≠ 10)
def runOf (p : UInt8 → Bool) : List UInt8 → Nat
 | [] => 0
 | c :: t => if p c then runOf p t + 1 else 0
def gap : Bool → List UInt8 → Nat
 | _, [] => 0
 | true, c :: t => if c.toNat = 10 then gap false t + 1 else gap true t + 1
 | false, c :: t => if c.toNat = 32 ∨ c.toNat = 10 then gap false t + 1 else if c.toNat = 35 then gap true t + 1 else 0
structure Tok where
 kind : Nat
 text : List UInt8
 num : Int
 pos : Nat
def numOf (l : List UInt8) : Nat := l.foldl (fun x c => 10 * x + (c.toNat - 48)) 0
def txt : List UInt8 → Option (List UInt8 × Nat)
 | [] => none
 | c :: t => if c.toNat = 34 then some ([], 1)
  else if c.toNat = 92 then
   match t with
   | [] => none
   | d :: u => if d.toNat = 34 ∨ d.toNat = 92 then (txt u).map fun p => (d :: p.1, p.2 + 2) else if d.toNat = 110 then (txt u).map fun p => (10 :: p.1, p.2 + 2) else none
  else if c.toNat < 32 ∨ 126 < c.toNat then none
  else (txt t).map fun p => (c :: p.1, p.2 + 1)
def signs1 : List Nat := [40, 41, 123, 125, 91, 93, 59, 44, 58, 46, 61, 60, 43, 45, 42, 33]
def sgn : List UInt8 → Nat
 | [] => 0
 | [c] => if signs1.contains c.toNat then 1 else 0
 | c :: d :: _ => if (c.toNat = 61 ∨ c.toNat = 33) ∧ d.toNat = 61 then 2 else if signs1.contains c.toNat then 1 else 0
inductive One where
 | ok (kind : Nat) (text : List UInt8) (num : Int) (n : Nat)
 | bad (range : Bool)
def one1 (c : UInt8) (t : List UInt8) : One :=
 if isDig c then
  let n := runOf isDig (c :: t)
  if 1 < n ∧ c.toNat = 48 then .bad true
  else if numOf ((c :: t).take n) ≤ 9223372036854775807 then .ok 2 ((c :: t).take n) (numOf ((c :: t).take n)) n
  else .bad true
 else if isWrd c then .ok 1 ((c :: t).take (runOf isWrd (c :: t))) 0 (runOf isWrd (c :: t))
 else if c.toNat = 34 then
  match txt t with
  | some (m, n) => .ok 3 m 0 (n + 1)
  | none => .bad false
 else
  match sgn (c :: t) with
  | 0 => .bad false
  | n + 1 => .ok 4 ((c :: t).take (n + 1)) 0 (n + 1)
def one : List UInt8 → One
 | [] => .bad false
 | c :: t => one1 c t
inductive Res where
 | toks (l : List Tok)
 | bad (at_ : Nat) (range : Bool)
def Res.cons (t : Tok) : Res → Res
 | .toks l => .toks (t :: l)
 | r => r
def lexF : Nat → Nat → List UInt8 → Res
 | 0, at_, _ => .bad at_ false
 | f + 1, at_, s =>
  let g := gap false s
  match s.drop g with
  | [] => .toks [⟨0, [], 0, at_ + g⟩]
  | c :: u =>
   match one (c :: u) with
   | .bad r => .bad (at_ + g) r
   | .ok k x v n => (lexF f (at_ + g + n) ((c :: u).drop n)).cons ⟨k, x, v, at_ + g⟩
theorem runOf_le (p : UInt8 → Bool) : ∀ s, runOf p s ≤ s.length
 | [] => Nat.le_refl _
 | c :: t => by
  unfold runOf
  have := runOf_le p t
  split <;> simp <;> omega
theorem gap_le : ∀ (b : Bool) (s : List UInt8), gap b s ≤ s.length
 | _, [] => by simp [gap]
 | true, c :: t => by
  unfold gap
  have := gap_le true t
  have := gap_le false t
  split <;> simp <;> omega
 | false, c :: t => by
  unfold gap
  have := gap_le true t
  have := gap_le false t
  split
  ·simp; omega
  ·split <;> simp <;> omega
theorem txt_le : ∀ (s : List UInt8) (m : List UInt8) (n : Nat), txt s = some (m, n) → 0 < n ∧ n ≤ s.length
 | [], m, n, h => by simp [txt] at h
 | c :: t, m, n, h => by
  unfold txt at h
  split at h
  ·simp at h; simp; omega
  ·split at h
   ·cases t with
    | nil => simp at h
    | cons d u =>
     simp only at h
     split at h
     ·simp at h
      obtain ⟨a, b, h1, h2, h3⟩ := h
      have := txt_le u a b h1
      simp; omega
     ·split at h
      ·simp at h
       obtain ⟨a, b, h1, h2, h3⟩ := h
       have := txt_le u a b h1
       simp; omega
      ·simp at h
   ·split at h
    ·simp at h
    ·simp at h
     obtain ⟨a, b, h1, h2, h3⟩ := h
     have := txt_le t a b h1
     simp; omega
theorem sgn_le (s : List UInt8) : sgn s ≤ s.length := by
 unfold sgn
 split
 ·simp
 ·split <;> simp
 ·split
  ·simp
  ·split <;> simp
theorem one_pos {s : List UInt8} {k : Nat} {x : List UInt8} {v : Int} {n : Nat} (h : one s = .ok k x v n) : 0 < n ∧ n ≤ s.length := by
 cases s with
 | nil => simp [one] at h
 | cons c t =>
  replace h : one1 c t = _ := h
  unfold one1 at h
  split at h
  ·rename_i hd
   have h1 : 0 < runOf isDig (c :: t) := by simp [runOf, hd]
   have h2 := runOf_le isDig (c :: t)
   simp only at h
   split at h
   ·cases h
   ·split at h
    ·cases h; exact ⟨h1, h2⟩
    ·cases h
  ·split at h
   ·rename_i hd
    have h1 : 0 < runOf isWrd (c :: t) := by simp [runOf, hd]
    cases h; exact ⟨h1, runOf_le _ _⟩
   ·split at h
    ·split at h
     ·rename_i m n' hx
      cases h
      have := txt_le t _ _ hx
      simp; omega
     ·cases h
    ·split at h
     ·cases h
     ·rename_i n' hx
      cases h
      have := sgn_le (c :: t)
      omega
theorem lexF_fuel : ∀ (f f' at_ : Nat) (s : List UInt8), s.length < f → s.length < f' → lexF f at_ s = lexF f' at_ s
 | 0, f', at_, s, h, _ => by omega
 | f + 1, 0, at_, s, _, h => by omega
 | f + 1, f' + 1, at_, s, h, h' => by
  unfold lexF
  simp only
  split
  ·rfl
  ·rename_i c u hu
   have hl : (c :: u).length ≤ s.length := by rw [← hu]; simp
   split
   ·rfl
   ·rename_i k x v n ho
    have := one_pos ho
    have hd : ((c :: u).drop n).length < (c :: u).length := by rw [List.length_drop]; omega
    rw [lexF_fuel f f' _ _ (by omega) (by omega)]
def lexR (at_ : Nat) (s : List UInt8) : Res := lexF (s.length + 1) at_ s
theorem lexR_end {at_ : Nat} {s : List UInt8} (h : s.drop (gap false s) = []) : lexR at_ s = .toks [⟨0, [], 0, at_ + gap false s⟩] := by
 unfold lexR lexF
 simp only [h]
theorem lexR_bad {at_ : Nat} {s : List UInt8} {c : UInt8} {u : List UInt8} {r : Bool} (h : s.drop (gap false s) = c :: u) (ho : one (c :: u) = .bad r) : lexR at_ s = .bad (at_ + gap false s) r := by
 unfold lexR lexF
 simp only [h, ho]
theorem lexR_ok {at_ : Nat} {s : List UInt8} {c : UInt8} {u : List UInt8} {k : Nat} {x : List UInt8} {v : Int} {n : Nat} (h : s.drop (gap false s) = c :: u) (ho : one (c :: u) = .ok k x v n) :
 lexR at_ s = (lexR (at_ + gap false s + n) ((c :: u).drop n)).cons ⟨k, x, v, at_ + gap false s⟩ := by
 have hl : (c :: u).length ≤ s.length := by rw [← h]; simp
 have := one_pos ho
 have hd : ((c :: u).drop n).length < (c :: u).length := by rw [List.length_drop]; omega
 unfold lexR
 conv => lhs; unfold lexF
 simp only [h, ho]
 rw [lexF_fuel s.length _ _ _ (by omega) (Nat.lt_succ_self _)]
theorem gap_drop : ∀ (b : Bool) (s : List UInt8), gap false (s.drop (gap b s)) = 0
 | _, [] => by simp [gap]
 | true, c :: t => by
  have h1 := gap_drop false t
  have h2 := gap_drop true t
  by_cases h : c.toNat = 10
  ·rw [show gap true (c :: t) = gap false t + 1 from by simp [gap, h]]; simpa using h1
  ·rw [show gap true (c :: t) = gap true t + 1 from by simp [gap, h]]; simpa using h2
 | false, c :: t => by
  have h1 := gap_drop false t
  have h2 := gap_drop true t
  by_cases h : c.toNat = 32 ∨ c.toNat = 10
  ·rw [show gap false (c :: t) = gap false t + 1 from by simp [gap, h]]; simpa using h1
  ·by_cases h' : c.toNat = 35
   ·rw [show gap false (c :: t) = gap true t + 1 from by simp [gap, h']]; simpa using h2
   ·rw [show gap false (c :: t) = 0 from by simp [gap, h, h']]; simp [gap, h, h']
theorem lexR_gap {at_ : Nat} {s : List UInt8} : lexR at_ s = lexR (at_ + gap false s) (s.drop (gap false s)) := by
 have hg : gap false (s.drop (gap false s)) = 0 := gap_drop false s
 cases h : s.drop (gap false s) with
 | nil => rw [lexR_end h, lexR_end (s := []) (by simp)]; simp [gap]
 | cons c u =>
  rw [h] at hg
  have h' : (c :: u).drop (gap false (c :: u)) = c :: u := by rw [hg]; rfl
  cases ho : one (c :: u) with
  | bad r => rw [lexR_bad h ho, lexR_bad h' ho, hg]; rfl
  | ok k x v n => rw [lexR_ok h ho, lexR_ok h' ho, hg]; rfl
theorem txt_q {c : UInt8} (t : List UInt8) (h : c.toNat = 34) : txt (c :: t) = some ([], 1) := by unfold txt; rw [if_pos h]
theorem txt_b {c : UInt8} (d : UInt8) (u : List UInt8) (h : c.toNat = 92) : txt (c :: d :: u) = if d.toNat = 34 ∨ d.toNat = 92 then (txt u).map fun p => (d :: p.1, p.2 + 2) else if d.toNat = 110 then (txt u).map fun p => (10 :: p.1, p.2 + 2) else none := by
 conv => lhs; unfold txt
 rw [if_neg (by omega), if_pos h]
theorem txt_b0 {c : UInt8} (h : c.toNat = 92) : txt [c] = none := by
 unfold txt
 rw [if_neg (by omega), if_pos h]
theorem txt_o {c : UInt8} (t : List UInt8) (h1 : c.toNat ≠ 34) (h2 : c.toNat ≠ 92) : txt (c :: t) = if c.toNat < 32 ∨ 126 < c.toNat then none else (txt t).map fun p => (c :: p.1, p.2 + 1) := by
 conv => lhs; unfold txt
 rw [if_neg h1, if_neg h2]
def Res.pre (l : List Tok) : Res → Res
 | .toks m => .toks (l ++ m)
 | r => r
theorem pre_nil (r : Res) : r.pre [] = r := by cases r <;> rfl
theorem cons_toks {t : Tok} {r : Res} {l : List Tok} (h : r.cons t = .toks l) : ∃ m, r = .toks m ∧ l = t :: m := by
 cases r with
 | toks m => simp [Res.cons] at h; exact ⟨m, rfl, h.symm⟩
 | bad a b => simp [Res.cons] at h
theorem lexR_ne {at_ : Nat} {s : List UInt8} {l : List Tok} (h : lexR at_ s = .toks l) : ∃ t m, l = t :: m ∧ t.pos = at_ + gap false s := by
 cases hs : s.drop (gap false s) with
 | nil => rw [lexR_end hs] at h; cases h; exact ⟨_, _, rfl, rfl⟩
 | cons c u =>
  cases ho : one (c :: u) with
  | bad r => rw [lexR_bad hs ho] at h; cases h
  | ok k x v n =>
   rw [lexR_ok hs ho] at h
   obtain ⟨m, _, rfl⟩ := cons_toks h
   exact ⟨_, _, rfl, rfl⟩
def again (s0 : List UInt8) : List Tok → List UInt8
 | t :: t' :: l => (s0.drop t.pos).take (t'.pos - t.pos) ++ 32 :: 10 :: 32 :: again s0 (t' :: l)
 | _ => []
end Go.Proofs.YtenfphbhofibjaaGreatDoor.LM

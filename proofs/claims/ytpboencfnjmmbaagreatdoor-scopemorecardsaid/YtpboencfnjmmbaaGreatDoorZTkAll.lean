/-
 The maker's expr, at every depth that the laws' Make has, given what its stmts promise; rows of expressions, one behind the other.
 Conditions: as each theorem says.
-/
import Derived.Test.YtpboencfnjmmbaaGreatDoorZTkEO
import Derived.Test.YtpboencfnjmmbaaGreatDoorZTkFn
set_option linter.unusedVariables false
namespace Go.Proofs.YtpboencfnjmmbaaGreatDoor
open Go.RowKit TM
def noS : TS := .mk 0 ⟨#[]⟩ [] [] [] 0
theorem txEs_map : ∀ l : List TE, txEs l = l.map txE
 | [] => by simp [txEs]
 | e :: l => by simp [txEs, txEs_map l]
theorem txSs_len {n : Nat} : ∀ {l : List TS}, (∀ e ∈ l, (txS e).length ≤ n) → (txSs l).length ≤ l.length * n
 | [], _ => by simp [txSs]
 | e :: l, h => by
  have h1 := h e (by simp)
  have h2 := txSs_len (l := l) fun x hx => h x (by simp [hx])
  simp only [txSs, List.length_append, List.length_cons, Nat.add_mul]
  omega
theorem pt_len {n : Nat} (hn : 3 ≤ n) {l : List Bs} (h : ∀ x ∈ l, x.length ≤ n) (i : Nat) : (pt l i).length ≤ n := by
 unfold pt
 rw [List.getD_eq_getElem?_getD]
 cases hx : l[i]? with
 | none => simpa [nilT] using hn
 | some x => exact h x (List.mem_of_getElem? hx)
theorem sign_len (op : Nat) : (sign op).length ≤ 2 := by unfold sign; split <;> decide
theorem commas_len {n : Nat} {l : List Bs} (h : ∀ x ∈ l, x.length ≤ n) : (commas l).length ≤ l.length * (n + 2) := by
 have hf : ∀ l : List Bs, (∀ x ∈ l, x.length ≤ n) → (l.flatMap fun y => [44, 32] ++ y).length ≤ l.length * (n + 2) := by
  intro l
  induction l with
  | nil => intro _; simp
  | cons x l ih =>
   intro h
   have h1 := h x (by simp)
   have h2 := ih fun y hy => h y (by simp [hy])
   simp only [List.flatMap_cons, List.length_append, List.length_cons, List.length_nil, Nat.add_mul]
   omega
 cases l with
 | nil => simp [commas]
 | cons x l =>
  have h1 := h x (by simp)
  have h2 := hf l fun y hy => h y (by simp [hy])
  simp only [commas, List.length_append, List.length_cons, Nat.add_mul]
  omega
theorem pairs_len {n : Nat} (hn : 3 ≤ n) : ∀ {l : List Bs}, (∀ x ∈ l, x.length ≤ n) → (∀ x ∈ pairs l, x.length ≤ 2 * n + 4) ∧ 2 * (pairs l).length ≤ l.length + 1
 | [], _ => by simp [pairs]
 | [k], h => by
  have h1 := h k (by simp)
  simp [pairs, nilT]
  omega
 | k :: v :: l, h => by
  have h1 := h k (by simp)
  have h2 := h v (by simp)
  obtain ⟨h3, h4⟩ := pairs_len hn (l := l) fun x hx => h x (by simp [hx])
  refine ⟨fun x hx => ?_, ?_⟩
  ·simp only [pairs, List.mem_cons] at hx
   rcases hx with rfl | hx
   ·simp only [List.length_append, List.length_cons, List.length_nil]; omega
   ·exact h3 x hx
  ·simp only [pairs, List.length_cons]; omega
theorem part_len {op n : Nat} {num : Int} {text : ByteArray} {ls : List Bs} {ps : List ByteArray} {b : Bs} (h6 : 6 ≤ op) (h16 : op ≤ 16) (hn : 100 ≤ n) (h : ∀ x ∈ ls, x.length ≤ n) (h4 : ls.length ≤ 4) : (exT op num text ls ps b).length ≤ 10 * n := by
 have hp := pt_len (by omega : 3 ≤ n) h
 have p0 := hp 0
 have p1 := hp 1
 unfold exT
 rw [if_neg (by omega), if_neg (by omega), if_neg (by omega), if_neg (by omega), if_neg (by omega), if_neg (by omega)]
 split
 ·simp only [unT, List.length_append, List.length_cons, List.length_nil]; omega
 split
 ·simp only [unT, List.length_append, List.length_cons, List.length_nil]; omega
 split
 ·have := sign_len op
  simp only [binT, List.length_append, List.length_cons, List.length_nil]; omega
 split
 ·simp only [fieldT, List.length_append, List.length_cons, List.length_nil]; omega
 split
 ·have h5 := commas_len (n := n) (l := ls.drop 1) fun x hx => h x (List.mem_of_mem_drop hx)
  have h6 : (ls.drop 1).length ≤ 3 := by simp; omega
  have h7 : (ls.drop 1).length * (n + 2) ≤ 3 * (n + 2) := Nat.mul_le_mul_right _ h6
  simp only [callT, List.length_append, List.length_cons, List.length_nil]; omega
 split
 ·obtain ⟨q1, q2⟩ := pairs_len (by omega : 3 ≤ n) h
  have h5 := commas_len q1
  have h6 : (pairs ls).length ≤ 2 := by omega
  have h7 : (pairs ls).length * (2 * n + 4 + 2) ≤ 2 * (2 * n + 4 + 2) := Nat.mul_le_mul_right _ h6
  simp only [recT, List.length_append, List.length_cons, List.length_nil]; omega
 ·omega
theorem manyF_le (op : Nat) (x : XX) : manyF op x ≤ 4 := by
 unfold manyF
 split
 ·omega
 split
 ·omega
 split
 ·omega
 split <;> omega
theorem es_chain {d : Nat} (hE : EO d) : ∀ (n : Nat) (xs : List XX) (left : Int), (∀ x ∈ xs, x.ok) → -500000000 + n * (10 : Int) ^ d ≤ left → left ≤ 1000 →
 ∃ (XS : Nat → List XX) (LF : Nat → Int) (ES : Nat → TE), XS 0 = xs ∧ LF 0 = left ∧
  (∀ j, j < n → ∀ W mb, MkAt W mb (XS j) (LF j) → Calls Tryz.prog 74 #[.pointer (some ⟨mb, 0, none⟩), .int .i64 ((d : Int) - 1)] W fun en w' => ∃ a b c, en = .returned (exV (ES j) a b c) ∧ MkAt w' mb (XS (j + 1)) (LF (j + 1)) ∧ W.grownBy w' (some mb) ∧ EIn (Fresh W.heap.size w'.heap.size) w' (ES j) a b c) ∧
  (∀ y ∈ XS n, y.ok) ∧ (XS n).length ≤ xs.length ∧ left - n * (10 : Int) ^ d ≤ LF n ∧ LF n ≤ left ∧ ∀ e ∈ (List.range n).map ES, wfE e ∧ dpE e ≤ d + 1 ∧ (txE e).length ≤ 100 * 10 ^ d
 | 0, xs, left, hok, h0, h1 => ⟨fun _ => xs, fun _ => left, fun _ => noE, rfl, rfl, fun j hj => absurd hj (by omega), hok, Nat.le_refl _, (by show left - _ ≤ left; first | omega | simp), (by show left ≤ left; omega), fun e he => by simp at he⟩
 | n + 1, xs, left, hok, h0, h1 => by
  have hp : (0 : Int) < (10 : Int) ^ d := Int.pow_pos (by decide)
  have hnp : 0 ≤ (n : Int) * (10 : Int) ^ d := Int.mul_nonneg (by omega) (by omega)
  have hsplit : ((n + 1 : Nat) : Int) * (10 : Int) ^ d = n * (10 : Int) ^ d + (10 : Int) ^ d := by rw [Int.natCast_succ, Int.add_mul, Int.one_mul]
  rw [hsplit] at h0 ⊢
  obtain ⟨e, ys, lf, e1, e2, e3, e4, e5, e6, e7, e8⟩ := hE xs left hok (by omega) h1
  obtain ⟨XS, LF, ES, q0, q1, q2, q3, q4, q5, q6, q7⟩ := es_chain hE n ys lf e1 (by omega) (by omega)
  refine ⟨fun j => if j = 0 then xs else XS (j - 1), fun j => if j = 0 then left else LF (j - 1), fun j => if j = 0 then e else ES (j - 1), rfl, rfl, fun j hj W mb hm => ?_, ?_, ?_, ?_, ?_, fun x hx => ?_⟩
  ·by_cases h : j = 0
   ·subst h
    have := e8 W mb hm
    simp only [if_true, Nat.zero_add, Nat.sub_self] at *
    rw [if_neg (by decide), if_neg (by decide), q0, q1]
    exact this
   ·obtain ⟨k, rfl⟩ : ∃ k, j = k + 1 := ⟨j - 1, by omega⟩
    simp only [Nat.add_sub_cancel, Nat.add_eq_zero_iff, Nat.one_ne_zero, and_false, if_false] at hm ⊢
    exact q2 k (by omega) W mb hm
  ·simpa using q3
  ·simp; omega
  ·simp; omega
  ·simp; omega
  ·obtain ⟨j, hj, rfl⟩ := List.mem_map.1 hx
   by_cases h : j = 0
   ·subst h; exact ⟨e5, e6, e7⟩
   ·simp only [h, if_false]
    exact q7 _ (List.mem_map.2 ⟨j - 1, by simp at hj ⊢; omega, rfl⟩)
theorem ss_chain {d : Nat} (hS : SO d) : ∀ (n : Nat) (xs : List XX) (left : Int), (∀ x ∈ xs, x.ok) → -500000000 + n * (10 : Int) ^ (d + 1) ≤ left → left ≤ 1000 →
 ∃ (m : Nat) (XS : Nat → List XX) (LF : Nat → Int) (SS : Nat → TS), m ≤ n ∧ XS 0 = xs ∧ LF 0 = left ∧ (∀ j, j < m → 0 < LF j) ∧ (m = n ∨ LF m ≤ 0) ∧
  (∀ j, j < m → ∀ W mb, MkAt W mb (XS j) (LF j) → Calls Tryz.prog 46 #[.pointer (some ⟨mb, 0, none⟩), .int .i64 (d : Int)] W fun en w' => ∃ a b c, en = .returned (stV (SS j) a b c) ∧ MkAt w' mb (XS (j + 1)) (LF (j + 1)) ∧ W.grownBy w' (some mb) ∧ SIn (Fresh W.heap.size w'.heap.size) w' (SS j) a b c) ∧
  (∀ y ∈ XS m, y.ok) ∧ (XS m).length ≤ xs.length ∧ left - n * (10 : Int) ^ (d + 1) ≤ LF m ∧ LF m ≤ left ∧ ∀ e ∈ (List.range m).map SS, wfS e ∧ dpS e ≤ d + 2 ∧ (txS e).length ≤ 100 * 10 ^ (d + 1)
 | 0, xs, left, hok, h0, h1 => ⟨0, fun _ => xs, fun _ => left, fun _ => noS, Nat.le_refl _, rfl, rfl, fun j hj => absurd hj (by omega), .inl rfl, fun j hj => absurd hj (by omega), hok, Nat.le_refl _, (by show left - _ ≤ left; first | omega | simp), (by show left ≤ left; omega), fun e he => by simp at he⟩
 | n + 1, xs, left, hok, h0, h1 => by
  have hp : (0 : Int) < (10 : Int) ^ (d + 1) := Int.pow_pos (by decide)
  have hnp : 0 ≤ (n : Int) * (10 : Int) ^ (d + 1) := Int.mul_nonneg (by omega) (by omega)
  have hsplit : ((n + 1 : Nat) : Int) * (10 : Int) ^ (d + 1) = n * (10 : Int) ^ (d + 1) + (10 : Int) ^ (d + 1) := by rw [Int.natCast_succ, Int.add_mul, Int.one_mul]
  rw [hsplit] at h0 ⊢
  by_cases hl : left ≤ 0
  ·exact ⟨0, fun _ => xs, fun _ => left, fun _ => noS, Nat.zero_le _, rfl, rfl, fun j hj => absurd hj (by omega), .inr hl, fun j hj => absurd hj (by omega), hok, Nat.le_refl _, (by show left - _ ≤ left; first | omega | simp), (by show left ≤ left; omega), fun e he => by simp at he⟩
  obtain ⟨e, ys, lf, e1, e2, e3, e4, e5, e6, e7, e8⟩ := hS xs left hok (by omega) h1
  obtain ⟨m, XS, LF, SS, r0, q0, q1, r1, r2, q2, q3, q4, q5, q6, q7⟩ := ss_chain hS n ys lf e1 (by omega) (by omega)
  refine ⟨m + 1, fun j => if j = 0 then xs else XS (j - 1), fun j => if j = 0 then left else LF (j - 1), fun j => if j = 0 then e else SS (j - 1), by omega, rfl, rfl, fun j hj => ?_, ?_, fun j hj W mb hm => ?_, ?_, ?_, ?_, ?_, fun x hx => ?_⟩
  ·by_cases h : j = 0
   ·subst h; simp; omega
   ·simp only [h, if_false]; exact r1 _ (by omega)
  ·rcases r2 with h | h
   ·exact .inl (by omega)
   ·exact .inr (by simpa using h)
  ·by_cases h : j = 0
   ·subst h
    have := e8 W mb hm
    simp only [if_true, Nat.zero_add, Nat.sub_self] at *
    rw [if_neg (by decide), if_neg (by decide), q0, q1]
    exact this
   ·obtain ⟨k, rfl⟩ : ∃ k, j = k + 1 := ⟨j - 1, by omega⟩
    simp only [Nat.add_sub_cancel, Nat.add_eq_zero_iff, Nat.one_ne_zero, and_false, if_false] at hm ⊢
    exact q2 k (by omega) W mb hm
  ·simpa using q3
  ·simp; omega
  ·simp; omega
  ·simp; omega
  ·obtain ⟨j, hj, rfl⟩ := List.mem_map.1 hx
   by_cases h : j = 0
   ·subst h; exact ⟨e5, e6, e7⟩
   ·simp only [h, if_false]
    exact q7 _ (List.mem_map.2 ⟨j - 1, by simp at hj ⊢; omega, rfl⟩)
theorem eo_succ {d : Nat} (h1d : 1 ≤ d) (hd9 : d ≤ 9) (hE : EO d) (hS : SO (d - 1)) : EO (d + 1) := by
 intro xs left hok hl0 hl1
 have hp : (1 : Int) ≤ (10 : Int) ^ d := Int.pow_pos (by decide)
 have hp1 : (10 : Int) ^ (d + 1) = 10 * (10 : Int) ^ d := by rw [Int.pow_succ, Int.mul_comm]
 have hq : 1 ≤ 10 ^ d := Nat.pow_pos (by decide)
 have hq1 : 10 ^ (d + 1) = 10 * 10 ^ d := by rw [Nat.pow_succ, Nat.mul_comm]
 have hD : ((d + 1 : Nat) : Int) - 1 = (d : Int) := by omega
 rw [hp1] at hl0 ⊢
 rw [hD]
 have hx := hd_ok hok
 have h18 : (hd xs).d % 18 < 18 := Nat.mod_lt _ (by decide)
 by_cases h1 : left - 1 ≤ 0
 ·have h5 : (hd xs).d % 18 % 6 ≤ 5 := by have := Nat.mod_lt ((hd xs).d % 18) (show 0 < 6 by decide); omega
  exact ⟨_, xs.tail, left - 1, tail_ok hok, by simp, by omega, by omega, leaf_wf h5 hx, (by simp [dpE, dpEs, dpSs]), Nat.le_trans (leaf_len h5 hx) (by rw [hq1]; omega), fun w mb hm => leaf_any hok (by omega) hl1 (.inr ⟨by omega, by omega, h1⟩) hm⟩
 ·by_cases h17 : (hd xs).d % 18 = 17
  ·have hd1 : d - 1 + 1 = d := by omega
   have hn3 : (hd xs).n % 3 ≤ 2 := by have := Nat.mod_lt (hd xs).n (show 0 < 3 by decide); omega
   have hn2 : (((hd xs).n % 3 : Nat) : Int) * (10 : Int) ^ d ≤ 2 * (10 : Int) ^ d := Int.mul_le_mul_of_nonneg_right (by omega) (by omega)
   have hc := ss_chain hS ((hd xs).n % 3) xs.tail (left - 1) (tail_ok hok) (by rw [hd1]; omega) (by omega)
   rw [hd1] at hc
   obtain ⟨m, XS, LF, SS, r0, q0, q1, r1, r2, q2, q3, q4, q5, q6, q7⟩ := hc
   have hcast : ((d - 1 : Nat) : Int) = (d : Int) - 1 := by omega
   rw [hcast] at q2
   have hbl : ((List.range m).map SS).length ≤ 2 := by simp; omega
   have hps : ∀ p ∈ paramsF 17 (hd xs), p ∈ lnmL := fun p hp => by
    simp only [paramsF, if_pos, List.mem_map] at hp
    obtain ⟨i, _, rfl⟩ := hp
    exact nm_mem _
   have hpl : (paramsF 17 (hd xs)).length ≤ 2 := by
    have := Nat.mod_lt (hd xs).a (show 0 < 3 by decide)
    simp [paramsF]; omega
   refine ⟨.mk 17 0 ⟨#[]⟩ [] (paramsF 17 (hd xs)) ((List.range m).map SS), XS m, LF m, q3, by simp at q4; omega, by omega, by omega, ?_, ?_, ?_, fun w mb hm => ?_⟩
   ·exact ⟨⟨by omega, by omega, by omega⟩, fun h => by omega, fun h => by omega, fun h => by omega, fun h => by omega, fun _ => rfl, fun _ => rfl, fun h => by omega, fun h => by omega, fun _ _ => rfl, fun h => absurd rfl h, hps, trivial, wfSs_all fun e he => (q7 e he).1⟩
   ·have := dpSs_all (n := d + 1) fun e he => by have := (q7 e he).2.1; omega
    simp only [dpE, dpEs]; omega
   ·have hb := txSs_len (n := 100 * 10 ^ d) fun e he => (q7 e he).2.2
    have hb2 : ((List.range m).map SS).length * (100 * 10 ^ d) ≤ 2 * (100 * 10 ^ d) := Nat.mul_le_mul_right _ hbl
    have hc2 := commas_len (n := 3) (l := (paramsF 17 (hd xs)).map fun p => p.data.toList) fun x hx => by
     obtain ⟨p, hp, rfl⟩ := List.mem_map.1 hx
     simp only [paramsF, if_pos, List.mem_map] at hp
     obtain ⟨i, _, rfl⟩ := hp
     exact nm_size _
    have hc3 : ((paramsF 17 (hd xs)).map fun p => p.data.toList).length * (3 + 2) ≤ 2 * (3 + 2) := Nat.mul_le_mul_right _ (by simpa using hpl)
    rw [txE]
    show (fnT _ _).length ≤ _
    simp only [fnT, blockT, List.length_append, List.length_cons, List.length_nil]
    rw [hq1]
    omega
   ·exact expr_fn hok (by omega) hl1 (by omega) (by omega) (by omega) h17.symm rfl hm fun W hW => by
     have h := stmts_walk (D := (d : Int) - 1) hn3 r0 XS LF SS r1 r2 (by rw [q0, q1]; exact hW) (fun j hj W hW => q2 j hj W mb hW)
     exact h
  ·have hm4 := manyF_le ((hd xs).d % 18) (hd xs)
   obtain ⟨many, hmany⟩ : ∃ many, many = manyF ((hd xs).d % 18) (hd xs) := ⟨_, rfl⟩
   rw [← hmany] at hm4
   have hn2 : (many : Int) * (10 : Int) ^ d ≤ 4 * (10 : Int) ^ d := Int.mul_le_mul_of_nonneg_right (by omega) (by omega)
   obtain ⟨XS, LF, ES, q0, q1, q2, q3, q4, q5, q6, q7⟩ := es_chain hE many xs.tail (left - 1) (tail_ok hok) (by omega) (by omega)
   obtain ⟨op, hop⟩ : ∃ op, op = (hd xs).d % 18 := ⟨_, rfl⟩
   rw [← hop] at hmany h17 h18
   have hn := numF_le op hx
   have hlen : ((List.range many).map ES).length = many := by simp
   refine ⟨.mk op (numF op (hd xs)) (textF op (hd xs)) ((List.range many).map ES) [] [], XS many, LF many, q3, by simp at q4; omega, by omega, by omega, ?_, ?_, ?_, fun w mb hm => ?_⟩
   ·refine ⟨⟨by omega, hn.1, hn.2⟩, fun h => ?_, fun h => ?_, fun h => ?_, fun h => ?_, fun h => ?_, fun h => ?_, fun h => ?_, fun h => ?_, fun h1 h2 => ?_, fun _ => ⟨rfl, rfl⟩, fun p hp => (by simp at hp), wfEs_all fun e he => (q7 e he).1, trivial⟩
    ·rw [hlen, hmany]; unfold manyF; rw [if_pos h]
    ·rw [hlen, hmany]; unfold manyF; rw [if_neg (by omega), if_neg (by omega), if_neg (by omega), if_pos h]
    ·rw [hlen, hmany]; unfold manyF; rw [if_neg (by omega), if_pos h]; omega
    ·rw [hlen, hmany]; unfold manyF; rw [if_neg (by omega), if_neg (by omega), if_pos h]; omega
    ·have : many = 0 := by rw [hmany]; exact leaf_many (by omega) _
     rw [this]; rfl
    ·unfold numF; rw [if_neg h]
    ·unfold textF; rw [if_pos h]; exact tx_mem _
    ·unfold textF; rw [if_neg (by omega), if_pos h]; exact nm_mem _
    ·unfold textF; rw [if_neg h1, if_neg h2]
   ·have := dpEs_all (n := d + 1) fun e he => (q7 e he).2.1
    simp only [dpE, dpSs]; omega
   ·by_cases h5 : op ≤ 5
    ·have : many = 0 := by rw [hmany]; exact leaf_many h5 _
     subst this
     exact Nat.le_trans (leaf_len h5 hx) (by rw [hq1]; omega)
    ·rw [txE, txEs_map]
     have := part_len (op := op) (n := 100 * 10 ^ d) (num := numF op (hd xs)) (text := textF op (hd xs)) (ls := ((List.range many).map ES).map txE) (ps := []) (b := txSs []) (by omega) (by omega) (by omega) (fun x hx => by
      obtain ⟨e, he, rfl⟩ := List.mem_map.1 hx
      exact (q7 e he).2.2) (by simp; omega)
     rw [hq1]
     omega
   ·exact expr_walk hok (by omega) hl1 (by omega) (by omega) (by omega) hop hm hm4 hn (by omega) rfl rfl hmany XS LF ES q0 q1 (fun j hj W hW => q2 j hj W mb hW)
end Go.Proofs.YtpboencfnjmmbaaGreatDoor

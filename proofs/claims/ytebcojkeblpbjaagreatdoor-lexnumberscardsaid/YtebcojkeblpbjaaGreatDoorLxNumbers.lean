/-
  LexNumbers: any digits: a number, if it goes into 64 bits, and has no nought ahead.
  Conditions: as each theorem says (the library's ErrRange and table of powers as they are laid).
-/
import Derived.Test.YtebcojkeblpbjaaGreatDoorLxLong
import Derived.Test.YtebcojkeblpbjaaGreatDoorLxJoins
import Derived.Test.YtebcojkeblpbjaaGreatDoorLxFmt
namespace Go.Proofs.YtebcojkeblpbjaaGreatDoor
open Go.ChangeShapes Go.WideShapes Go.ChangeAt Go.RowKit LM
set_option linter.unusedVariables false
theorem toNat_of {n : Nat} (h : n < 256) : (UInt8.ofNat n).toNat = n := by simp [Nat.mod_eq_of_lt h]
theorem dig_of (d : Nat) (h : d < 10) : isDig (UInt8.ofNat (48 + d)) = true := by
  unfold isDig
  rw [toNat_of (by omega)]
  simp; omega
theorem dec_digits (u : Nat) : ∀ c ∈ Lib.decDigits u, isDig c = true := by
  induction u using Nat.strongRecOn with
  | ind u ih =>
    intro c hc
    by_cases h : u < 10
    · rw [Lib.decDigits_one h] at hc
      simp only [List.mem_singleton] at hc
      subst hc
      exact dig_of u h
    · rw [Lib.decDigits, dif_neg h] at hc
      rcases List.mem_append.1 hc with hc | hc
      · exact ih (u / 10) (by omega) c hc
      · simp only [List.mem_singleton] at hc
        subst hc
        exact dig_of _ (Nat.mod_lt _ (by decide))
theorem num_snoc (l : List UInt8) (c : UInt8) : numOf (l ++ [c]) = 10 * numOf l + (c.toNat - 48) := by simp [LM.numOf]
theorem dec_num (u : Nat) : numOf (Lib.decDigits u) = u := by
  induction u using Nat.strongRecOn with
  | ind u ih =>
    by_cases h : u < 10
    · rw [Lib.decDigits_one h]
      show 10 * 0 + ((UInt8.ofNat (48 + u)).toNat - 48) = u
      rw [toNat_of (by omega)]; omega
    · rw [Lib.decDigits, dif_neg h, num_snoc, ih (u / 10) (by omega), toNat_of (by omega)]
      omega
theorem dec_head (u : Nat) : ∃ c t, Lib.decDigits u = c :: t ∧ (c.toNat = 48 → t = []) := by
  induction u using Nat.strongRecOn with
  | ind u ih =>
    by_cases h : u < 10
    · rw [Lib.decDigits_one h]
      exact ⟨_, _, rfl, fun _ => rfl⟩
    · rw [Lib.decDigits, dif_neg h]
      obtain ⟨c, t, h1, h2⟩ := ih (u / 10) (by omega)
      rw [h1]
      refine ⟨c, t ++ [UInt8.ofNat (48 + u % 10)], rfl, fun hc => ?_⟩
      exfalso
      have ht := h2 hc
      subst ht
      have := dec_num (u / 10)
      rw [h1] at this
      have h3 : 10 * 0 + (c.toNat - 48) = u / 10 := this
      omega
theorem runOf_full {p : UInt8 → Bool} : ∀ (l : List UInt8), (∀ c ∈ l, p c = true) → runOf p l = l.length
  | [], _ => rfl
  | c :: l, h => by
    rw [show runOf p (c :: l) = runOf p l + 1 from by simp [runOf, h c (by simp)], runOf_full l (fun x hx => h x (by simp [hx]))]
    rfl
theorem gap_dig {c : UInt8} (t : List UInt8) (h : isDig c = true) : gap false (c :: t) = 0 := by
  have := dig_range h
  exact gap_other _ (by omega) (by omega)
theorem one_digits {c : UInt8} {t : List UInt8} (h : ∀ x ∈ c :: t, isDig x = true) : LM.one (c :: t) = if 1 < (c :: t).length ∧ c.toNat = 48 then .bad true else if numOf (c :: t) ≤ 9223372036854775807 then .ok 2 (c :: t) (numOf (c :: t)) (c :: t).length else .bad true := by
  show one1 c t = _
  unfold one1
  rw [if_pos (h c (by simp))]
  simp only [runOf_full _ h, List.take_length]
theorem lex_digits {c : UInt8} {t : List UInt8} (h : ∀ x ∈ c :: t, isDig x = true) : lexR 0 (c :: t) = if 1 < (c :: t).length ∧ c.toNat = 48 then .bad 0 true else if numOf (c :: t) ≤ 9223372036854775807 then .toks [⟨2, c :: t, numOf (c :: t), 0⟩, ⟨0, [], 0, (c :: t).length⟩] else .bad 0 true := by
  have hg := gap_dig t (h c (by simp))
  have hd : (c :: t).drop (gap false (c :: t)) = c :: t := by rw [hg]; rfl
  have ho := one_digits h
  by_cases h1 : 1 < (c :: t).length ∧ c.toNat = 48
  · rw [if_pos h1] at ho ⊢
    rw [lexR_bad hd ho, hg]
  · rw [if_neg h1] at ho ⊢
    by_cases h2 : numOf (c :: t) ≤ 9223372036854775807
    · rw [if_pos h2] at ho ⊢
      rw [lexR_ok hd ho, hg, List.drop_length, lexR_end (s := []) (by simp)]
      simp [Res.cons, gap]
    · rw [if_neg h2] at ho ⊢
      rw [lexR_bad hd ho, hg]
/-- The law's text. -/
def numText (u z : Nat) : List UInt8 := List.replicate (z % 3) 48 ++ Lib.decDigits u
theorem lex_numText (u z : Nat) : lexR 0 (numText u z) = if 0 < z % 3 ∨ 9223372036854775807 < u then .bad 0 true else .toks [⟨2, numText u z, u, 0⟩, ⟨0, [], 0, (numText u z).length⟩] := by
  obtain ⟨c, t, h1, h2⟩ := dec_head u
  have hdig := dec_digits u
  have hnum := dec_num u
  unfold numText
  cases hz : z % 3 with
  | zero =>
    simp only [List.replicate_zero, List.nil_append, Nat.lt_irrefl, false_or]
    rw [h1] at hdig hnum ⊢
    rw [lex_digits hdig, if_neg (by rintro ⟨h3, h4⟩; rw [h2 h4] at h3; simp at h3), hnum]
    by_cases h5 : u ≤ 9223372036854775807
    · rw [if_pos h5, if_neg (by omega)]
    · rw [if_neg h5, if_pos (by omega)]
  | succ q =>
    rw [if_pos (.inl (by omega)), List.replicate_succ, List.cons_append]
    have hd2 : ∀ x ∈ 48 :: (List.replicate q 48 ++ Lib.decDigits u), isDig x = true := by
      intro x hx
      rcases List.mem_cons.1 hx with rfl | hx
      · rfl
      · rcases List.mem_append.1 hx with hx | hx
        · rw [(List.mem_replicate.1 hx).2]; rfl
        · exact hdig x hx
    rw [lex_digits hd2, if_pos ⟨by rw [h1]; simp; omega, rfl⟩]
theorem conv_u64 {u : Nat} (h : u ≤ 9223372036854775807) : IntKind.i64.wrap (u : Int) = (u : Int) := by simp [IntKind.wrap, IntKind.bits, IntKind.signed]; omega
set_option maxRecDepth 100000 in
set_option maxHeartbeats 2000000 in
theorem numbers_any (u z : Nat) (hu : u ≤ 18446744073709551615) (hz : z ≤ 255) (w : World) (hT : Lib.TabIs Tryz.prog w "internal/strconv.uint64pow10" .u64 Lib.pow10Tab) (hL : Lv w) : Calls Tryz.prog 8 #[.int .u64 (u : Int), .int .u8 (z : Int)] w fun e w' => e = .returned (.bool true) ∧ Below w.heap.size w w' := by
  have HL : Hid (Lv w) := hL
  have HT : Hid (Lib.TabIs Tryz.prog w "internal/strconv.uint64pow10" .u64 Lib.pow10Tab) := hT
  have hq : z % 3 < 3 := Nat.mod_lt _ (by decide)
  have HRP : Hid (∀ w, Calls Tryz.prog 13 #[.string ⟨#[48]⟩, .int .i64 ((z : Int) % 3)] w fun e w' => e = .returned (.string ⟨(List.replicate (z % 3) (48 : UInt8)).toArray⟩) ∧ Below w.heap.size w w') := fun w => by
    have := Tryz.strings_Repeat ⟨#[48]⟩ (z % 3) w (by omega) (by show 1 * _ ≤ _; omega)
    rw [show (⟨#[48]⟩ : ByteArray).data.toList = [48] from rfl, rep_one, show ((z % 3 : Nat) : Int) = (z : Int) % 3 from by omega] at this
    exact this
  have HFM : Hid (∀ w, Lib.TabIs Tryz.prog w "internal/strconv.uint64pow10" .u64 Lib.pow10Tab → Calls Tryz.prog 14 #[.int .u64 (u : Int), .int .i64 10] w fun e w' => e = .returned (.string ⟨(Lib.decDigits u).toArray⟩) ∧ Below w.heap.size w w') := fun w h => fmtU u (by omega) w h
  have htm : ((z : Int)).tmod 3 = (z : Int) % 3 := by rw [Int.tmod_eq_emod_of_nonneg (by omega)]
  have hdl := digits_le u (by omega)
  have HLX := lex_numText u z
  have HDT : Hid ((⟨(List.replicate (z % 3) (48 : UInt8)).toArray⟩ ++ ⟨(Lib.decDigits u).toArray⟩ : ByteArray).data.toList = numText u z) := by show _ = _; rw [app_toList]; rfl
  have hs1 : (⟨(List.replicate (z % 3) (48 : UInt8)).toArray⟩ : ByteArray).size ≤ 2 := by show (List.replicate (z % 3) (48 : UInt8)).toArray.size ≤ 2; simp; omega
  have hs2 : (⟨(Lib.decDigits u).toArray⟩ : ByteArray).size ≤ 20 := by show (Lib.decDigits u).toArray.size ≤ 20; simpa using hdl
  generalize (⟨(List.replicate (z % 3) (48 : UInt8)).toArray⟩ : ByteArray) = X at *
  generalize (⟨(Lib.decDigits u).toArray⟩ : ByteArray) = Y at *
  generalize numText u z = NT at *
  clear hL hT hdl
  go_enter Tryz.func8, Tryz.ntmps8
  go_wp2_with fail
  refine (awake5 _ HL.out).mono ?_
  rintro e w1 ⟨rfl, b1⟩
  have HB1 : Hid (Below w.heap.size w w1) := b1
  have HL1 : Hid (Lv w1) := HL.out.below b1
  have HT1 : Hid (Lib.TabIs Tryz.prog w1 "internal/strconv.uint64pow10" .u64 Lib.pow10Tab) := tabIs_below HT.out b1
  clear b1 HL HT
  go_wp2_with fail
  refine (HRP.out _).mono ?_
  rintro e w2 ⟨rfl, b2⟩
  have HB2 : Hid (Below w.heap.size w w2) := HB1.out.trans (b2.mono HB1.out.size)
  have HL2 : Hid (Lv w2) := HL1.out.below b2
  have HT2 : Hid (Lib.TabIs Tryz.prog w2 "internal/strconv.uint64pow10" .u64 Lib.pow10Tab) := tabIs_below HT1.out b2
  clear b2 HL1 HB1 HT1
  go_wp2_with fail
  refine (HFM.out _ HT2.out).mono ?_
  rintro e w3 ⟨rfl, b3⟩
  have HB3 : Hid (Below w.heap.size w w3) := HB2.out.trans (b3.mono HB2.out.size)
  have HL3 : Hid (Lv w3) := HL2.out.below b3
  clear b3 HL2 HB2 HT2
  have hsz : (X ++ Y).size ≤ 8192 := by rw [app_size]; omega
  go_wp2_with fail
  refine (split_v _ hsz _ HL3.out).mono ?_
  rintro e w4 ⟨ao, n4, cap, at4, er, rfl, h4, b4⟩
  have HB4 : Hid (Below w.heap.size w w4) := HB3.out.trans (b4.mono HB3.out.size)
  rw [HDT.out] at h4
  clear b4 HL3 HB3 hsz
  by_cases hbad : 0 < z % 3 ∨ 9223372036854775807 < u
  · rw [if_pos hbad] at HLX
    rw [HLX] at h4
    cases h4 with
    | bad a r =>
      by_cases h3 : 0 < z % 3
      · have c1 : decide ((0 : Int) < (z : Int) % 3) = true := by simp; omega
        go_wp2
        go_ret
        exact ⟨rfl, HB4.out⟩
      · have c1 : decide ((0 : Int) < (z : Int) % 3) = false := by simp; omega
        have c2 : decide ((9223372036854775807 : Int) < (u : Int)) = true := by simp; omega
        go_wp2
        go_ret
        exact ⟨rfl, HB4.out⟩
  · rw [if_neg hbad] at HLX
    rw [HLX] at h4
    have c1 : decide ((0 : Int) < (z : Int) % 3) = false := by simp; omega
    have c2 : decide ((9223372036854775807 : Int) < (u : Int)) = false := by simp; omega
    have hcv := conv_u64 (u := u) (by omega)
    obtain ⟨g, rfl, hn, rfl, rfl, l1, lc, lm, lt⟩ := h4.inv_toks rfl
    obtain ⟨q0, q1, q2, q3⟩ := lt.2 0 ⟨2, NT, u, 0⟩ rfl
    have hgl := lt.1
    have hn2 : n4 = 2 := hn
    subst hn2
    have hXY : (⟨NT.toArray⟩ : ByteArray) = X ++ Y := by
      rw [← HDT.out]
    unfold maxLen at lm
    simp only [List.length_cons, List.length_nil] at lc
    simp only [Nat.zero_mul, Nat.zero_add] at q0 q1 q2 q3
    rw [hXY] at q1
    clear h4 lt HLX hXY hn HDT HRP HFM
    go_wp2
    go_ret
    exact ⟨rfl, HB4.out⟩
end Go.Proofs.YtebcojkeblpbjaaGreatDoor

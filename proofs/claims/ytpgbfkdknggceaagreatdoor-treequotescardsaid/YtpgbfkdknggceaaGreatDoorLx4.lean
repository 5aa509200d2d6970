/-
  Package lex: first and Split: what each returns.
  Conditions: as each theorem says (the library's ErrRange as it is laid).
-/
import Derived.Test.YtpgbfkdknggceaaGreatDoorLx3
namespace Go.Proofs.YtpgbfkdknggceaaGreatDoor
open Go.ChangeShapes Go.WideShapes Go.ChangeAt Go.RowKit LM
set_option linter.unusedVariables false
theorem one_num {c : UInt8} {t : List UInt8} (hd : isDig c = true) : oneV (one (c :: t)) = numV (c :: t) := by
  show oneV (one1 c t) = _
  unfold one1 numV
  rw [if_pos hd]
  simp only [List.head?_cons, Option.map_some, Option.some.injEq]
  split
  · rfl
  · split
    · rfl
    · rfl
theorem one_wrd {c : UInt8} {t : List UInt8} (hd : isDig c = false) (hw : isWrd c = true) : oneV (one (c :: t)) = ansV 1 ((c :: t).take (runOf isWrd (c :: t))) 0 (runOf isWrd (c :: t)) 0 := by
  show oneV (one1 c t) = _
  unfold one1
  rw [if_neg (by simp [hd]), if_pos hw]
  rfl
theorem one_txt {c : UInt8} {t : List UInt8} (hd : isDig c = false) (hw : isWrd c = false) (hq : c.toNat = 34) : oneV (one (c :: t)) = textV (c :: t) := by
  show oneV (one1 c t) = _
  unfold one1 textV
  rw [if_neg (by simp [hd]), if_neg (by simp [hw]), if_pos hq, List.drop_succ_cons, List.drop_zero]
  cases txt t with
  | none => rfl
  | some p => rfl
theorem one_sgn {c : UInt8} {t : List UInt8} (hd : isDig c = false) (hw : isWrd c = false) (hq : c.toNat ≠ 34) : oneV (one (c :: t)) = signV (c :: t) := by
  show oneV (one1 c t) = _
  unfold one1 signV
  rw [if_neg (by simp [hd]), if_neg (by simp [hw]), if_neg hq]
  cases sgn (c :: t) with
  | zero => rfl
  | succ n => rfl
theorem ansV_eq (k : Nat) (x : List UInt8) (v : Int) (n : Nat) (e : Int) : ansV k x v n e = .tuple #[.agg #[.int .i64 (k : Int), .string ⟨x.toArray⟩, .int .i64 v, .int .i64 0], .int .i64 (n : Int), .int .i64 e] := rfl
theorem numV_shape (S : List UInt8) : ∃ k x v n e, numV S = ansV k x v n e := by
  unfold numV
  split
  · exact ⟨_, _, _, _, _, rfl⟩
  · split <;> exact ⟨_, _, _, _, _, rfl⟩
theorem textV_shape (S : List UInt8) : ∃ k x v n e, textV S = ansV k x v n e := by
  unfold textV
  split
  · exact ⟨3, _, 0, _, 0, rfl⟩
  · exact ⟨0, [], 0, 0, 1, rfl⟩
theorem signV_shape (S : List UInt8) : ∃ k x v n e, signV S = ansV k x v n e := by
  unfold signV
  split
  · exact ⟨_, _, _, _, _, rfl⟩
  · exact ⟨_, _, _, _, _, rfl⟩
set_option maxRecDepth 100000 in
set_option maxHeartbeats 1000000 in
theorem first_any (s : ByteArray) {c : UInt8} {t : List UInt8} (hS : s.data.toList = c :: t) (hs : s.size ≤ 100000) (w : World) (hL : Lv w) :
    Calls Tryz.prog 54 #[.string s] w fun e w' => e = .returned (oneV (one (c :: t))) ∧ Below w.heap.size w w' := by
  obtain ⟨hl0, e0⟩ := toList_head s hS
  have hc : c.toNat < 256 := c.toNat_lt
  have b1 : Below w.heap.size w (w.alloc (.cells #[.int .i64 0, .string { data := #[] }, .int .i64 0, .int .i64 0] 67)) := (Below.refl _ w).alloc (Nat.le_refl _) _
  have HL1 : Hid (Lv (w.alloc (.cells #[.int .i64 0, .string { data := #[] }, .int .i64 0, .int .i64 0] 67))) := hL.below b1
  have hk0 : (w.alloc (.cells #[.int .i64 0, .string { data := #[] }, .int .i64 0, .int .i64 0] 67)).heap[w.heap.size]? = some (.cells #[.int .i64 0, .string { data := #[] }, .int .i64 0, .int .i64 0] 67 (0, 0)) := heap_alloc_new w _
  have HB1 : Hid (Below w.heap.size w (w.alloc (.cells #[.int .i64 0, .string { data := #[] }, .int .i64 0, .int .i64 0] 67))) := b1
  have HK1 : Hid ((w.alloc (.cells #[.int .i64 0, .string { data := #[] }, .int .i64 0, .int .i64 0] 67)).heap[w.heap.size]? = some (.cells #[.int .i64 0, .string { data := #[] }, .int .i64 0, .int .i64 0] 67 (0, 0))) := hk0
  have HS : Hid (s.data.toList = c :: t) := hS
  clear b1 hk0 hS hL
  cases hd : isDig c with
  | true =>
    have HD : Hid (∀ w, Calls Tryz.prog 77 #[.int .u8 (c.toNat : Int)] w fun e w' => e = .returned (.bool true) ∧ w' = w) := fun w => by have := digit_any c w; rw [hd] at this; exact this
    have HC : Hid (∀ w, Lv w → Calls Tryz.prog 78 #[.string s] w fun e w' => e = .returned (numV (c :: t)) ∧ Below w.heap.size w w') := fun w hw => lexnum_any s HS.out hd hs w hw
    rw [one_num hd]
    obtain ⟨k, x, v, n, e, hsh⟩ := numV_shape (c :: t)
    rw [hsh] at HC ⊢
    rw [ansV_eq] at HC ⊢
    clear hsh
    go_enter Tryz.func54, Tryz.ntmps54
    go_wp2_with fail
    refine (HD.out _).mono ?_
    rintro e' w1 ⟨rfl, hw1⟩
    rw [← hw1] at HL1 HB1 HK1
    clear hw1
    go_wp2_with fail
    refine (HC.out _ HL1.out).mono ?_
    rintro e' w2 ⟨rfl, b2⟩
    have HB2 : Hid (Below w.heap.size w w2) := HB1.out.trans (b2.mono HB1.out.size)
    have HK2 : Hid (w2.heap[w.heap.size]? = some (.cells #[.int .i64 0, .string { data := #[] }, .int .i64 0, .int .i64 0] 67 (0, 0))) := (b2.block _ (lt_of_block HK1.out)).trans HK1.out
    obtain ⟨c0, c1, c2, c3, cf⟩ := four HK2.out
    have hbl : w.heap.size < w2.heap.size := lt_of_block HK2.out
    clear b2
    go_wp2
    obtain ⟨d0, d1, d2, d3, _⟩ := four (four_set HK2.out (.int .i64 (k : Int)) (.string { data := x.toArray }) (.int .i64 v) (.int .i64 0))
    refine bodyPost_ret (v := .tuple #[.agg #[.int .i64 (k : Int), .string ⟨x.toArray⟩, .int .i64 v, .int .i64 0], .int .i64 (n : Int), .int .i64 e]) (by simp [results, Tryz.results54, go_sem, d0, d1, d2, d3]) rfl ⟨rfl, ?_⟩
    exact (((HB2.out.setCell (p := ⟨w.heap.size, 0, none⟩) (Nat.le_refl _) _).setCell (p := ⟨w.heap.size, 1, none⟩) (Nat.le_refl _) _).setCell (p := ⟨w.heap.size, 2, none⟩) (Nat.le_refl _) _).setCell (p := ⟨w.heap.size, 3, none⟩) (Nat.le_refl _) _
  | false =>
    have HD : Hid (∀ w, Calls Tryz.prog 77 #[.int .u8 (c.toNat : Int)] w fun e w' => e = .returned (.bool false) ∧ w' = w) := fun w => by have := digit_any c w; rw [hd] at this; exact this
    cases hw : isWrd c with
    | true =>
      have HW : Hid (∀ w, Calls Tryz.prog 79 #[.int .u8 (c.toNat : Int)] w fun e w' => e = .returned (.bool true) ∧ w' = w) := fun w => by have := inWord_any c w; rw [hw] at this; exact this
      have HRUN : Hid (∀ w, Calls Tryz.prog 75 #[.string s, .func (.func 79) #[] #[]] w fun e w' => e = .returned (.int .i64 (runOf isWrd (c :: t) : Nat)) ∧ w' = w) := fun w => by
        have := run_any so_inWord s hs w
        rw [HS.out] at this
        exact this
      rw [one_wrd hd hw]
      have hrle := runOf_le isWrd (c :: t)
      rw [show (c :: t).length = s.size from by rw [← HS.out, len_eq]] at hrle
      generalize runOf isWrd (c :: t) = n at *
      have hx := ext_to s n
      rw [HS.out] at hx
      generalize (c :: t).take n = X at *
      rw [ansV_eq]
      obtain ⟨q0, q1, q2, q3, qf⟩ := four HK1.out
      go_enter Tryz.func54, Tryz.ntmps54
      go_wp2_with fail
      refine (HD.out _).mono ?_
      rintro e' w1 ⟨rfl, rfl⟩
      go_wp2_with fail
      refine (HW.out _).mono ?_
      rintro e' w1 ⟨rfl, rfl⟩
      go_wp2_with fail
      refine (HRUN.out _).mono ?_
      rintro e' w1 ⟨rfl, rfl⟩
      go_wp2
      refine bodyPost_ret (v := .tuple #[.agg #[.int .i64 1, .string ⟨X.toArray⟩, .int .i64 0, .int .i64 0], .int .i64 (n : Int), .int .i64 0]) (by simp [results, Tryz.results54, go_sem]) rfl ⟨rfl, (Below.refl _ w).alloc (Nat.le_refl _) _⟩
    | false =>
      have HW : Hid (∀ w, Calls Tryz.prog 79 #[.int .u8 (c.toNat : Int)] w fun e w' => e = .returned (.bool false) ∧ w' = w) := fun w => by have := inWord_any c w; rw [hw] at this; exact this
      by_cases hq : c.toNat = 34
      · have HC : Hid (∀ w, Calls Tryz.prog 80 #[.string s] w fun e w' => e = .returned (textV (c :: t)) ∧ Below w.heap.size w w') := fun w => by have := text_any s hl0 hs w; rw [HS.out] at this; exact this
        rw [one_txt hd hw hq]
        obtain ⟨k, x, v, n, e, hsh⟩ := textV_shape (c :: t)
        rw [hsh] at HC ⊢
        rw [ansV_eq] at HC ⊢
        have e1 : ((c.toNat : Int) == 34) = true := by rw [hq]; rfl
        clear hsh hq
        go_enter Tryz.func54, Tryz.ntmps54
        go_wp2_with fail
        refine (HD.out _).mono ?_
        rintro e' w1 ⟨rfl, rfl⟩
        go_wp2_with fail
        refine (HW.out _).mono ?_
        rintro e' w1 ⟨rfl, hw1⟩
        rw [← hw1] at HL1 HB1 HK1
        clear hw1
        go_wp2_with fail
        refine (HC.out _).mono ?_
        rintro e' w2 ⟨rfl, b2⟩
        have HB2 : Hid (Below w.heap.size w w2) := HB1.out.trans (b2.mono HB1.out.size)
        have HK2 : Hid (w2.heap[w.heap.size]? = some (.cells #[.int .i64 0, .string { data := #[] }, .int .i64 0, .int .i64 0] 67 (0, 0))) := (b2.block _ (lt_of_block HK1.out)).trans HK1.out
        obtain ⟨c0, c1, c2, c3, cf⟩ := four HK2.out
        have hbl : w.heap.size < w2.heap.size := lt_of_block HK2.out
        clear b2
        go_wp2
        obtain ⟨d0, d1, d2, d3, _⟩ := four (four_set HK2.out (.int .i64 (k : Int)) (.string { data := x.toArray }) (.int .i64 v) (.int .i64 0))
        refine bodyPost_ret (v := .tuple #[.agg #[.int .i64 (k : Int), .string ⟨x.toArray⟩, .int .i64 v, .int .i64 0], .int .i64 (n : Int), .int .i64 e]) (by simp [results, Tryz.results54, go_sem, d0, d1, d2, d3]) rfl ⟨rfl, ?_⟩
        exact (((HB2.out.setCell (p := ⟨w.heap.size, 0, none⟩) (Nat.le_refl _) _).setCell (p := ⟨w.heap.size, 1, none⟩) (Nat.le_refl _) _).setCell (p := ⟨w.heap.size, 2, none⟩) (Nat.le_refl _) _).setCell (p := ⟨w.heap.size, 3, none⟩) (Nat.le_refl _) _
      · have HC : Hid (∀ w, Calls Tryz.prog 81 #[.string s] w fun e w' => e = .returned (signV (c :: t)) ∧ Below w.heap.size w w') := fun w => by have := sign_any s hl0 hs w; rw [HS.out] at this; exact this
        rw [one_sgn hd hw hq]
        obtain ⟨k, x, v, n, e, hsh⟩ := signV_shape (c :: t)
        rw [hsh] at HC ⊢
        rw [ansV_eq] at HC ⊢
        have e1 : ((c.toNat : Int) == 34) = false := by rw [beq_eq_false_iff_ne]; omega
        clear hsh
        go_enter Tryz.func54, Tryz.ntmps54
        go_wp2_with fail
        refine (HD.out _).mono ?_
        rintro e' w1 ⟨rfl, rfl⟩
        go_wp2_with fail
        refine (HW.out _).mono ?_
        rintro e' w1 ⟨rfl, hw1⟩
        rw [← hw1] at HL1 HB1 HK1
        clear hw1
        go_wp2_with fail
        refine (HC.out _).mono ?_
        rintro e' w2 ⟨rfl, b2⟩
        have HB2 : Hid (Below w.heap.size w w2) := HB1.out.trans (b2.mono HB1.out.size)
        have HK2 : Hid (w2.heap[w.heap.size]? = some (.cells #[.int .i64 0, .string { data := #[] }, .int .i64 0, .int .i64 0] 67 (0, 0))) := (b2.block _ (lt_of_block HK1.out)).trans HK1.out
        obtain ⟨c0, c1, c2, c3, cf⟩ := four HK2.out
        have hbl : w.heap.size < w2.heap.size := lt_of_block HK2.out
        clear b2
        go_wp2
        obtain ⟨d0, d1, d2, d3, _⟩ := four (four_set HK2.out (.int .i64 (k : Int)) (.string { data := x.toArray }) (.int .i64 v) (.int .i64 0))
        refine bodyPost_ret (v := .tuple #[.agg #[.int .i64 (k : Int), .string ⟨x.toArray⟩, .int .i64 v, .int .i64 0], .int .i64 (n : Int), .int .i64 e]) (by simp [results, Tryz.results54, go_sem, d0, d1, d2, d3]) rfl ⟨rfl, ?_⟩
        exact (((HB2.out.setCell (p := ⟨w.heap.size, 0, none⟩) (Nat.le_refl _) _).setCell (p := ⟨w.heap.size, 1, none⟩) (Nat.le_refl _) _).setCell (p := ⟨w.heap.size, 2, none⟩) (Nat.le_refl _) _).setCell (p := ⟨w.heap.size, 3, none⟩) (Nat.le_refl _) _
end Go.Proofs.YtpgbfkdknggceaaGreatDoor

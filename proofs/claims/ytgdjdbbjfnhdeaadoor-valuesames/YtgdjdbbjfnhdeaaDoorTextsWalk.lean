/-
  The walk of ValueTexts (promise P2.2): it returns true for every value that Make makes and every Ref, and writes nothing that was there before the call.
  Conditions: the tables of the library as they are laid (Tabs); numbers that fit their kinds.
-/
import Derived.Test.YtgdjdbbjfnhdeaaDoorTexts
namespace Go.Proofs.YtgdjdbbjfnhdeaaDoor
open Go.RowKit
set_option linter.unusedVariables false
theorem awake_below (w : World) : Calls Tryd.prog 5 #[] w fun e w' => e = .returned (.bool true) ∧ Below w.heap.size w w' := by
  refine (awake_any w).mono ?_
  rintro e w' ⟨rfl, rfl⟩
  exact ⟨rfl, ((Below.refl _ _).alloc (Nat.le_refl _) _).alloc (by simp) _⟩
theorem make_below (k n c m : Int) (s t : ByteArray) (w : World) (hk0 : 0 ≤ k) (hk1 : k ≤ 255) (hn0 : -9223372036854775808 ≤ n) (hn1 : n ≤ 9223372036854775807) (h1 : k % 5 = c) (h2 : mkN k n = m) (h3 : mkS k s = t) :
    Calls Tryd.prog 8 #[.agg #[.int .u8 k, .int .i64 n, .string s]] w fun e w' => e = .returned (.agg #[.int .u8 c, .int .i64 m, .string t]) ∧ Below w.heap.size w w' := by
  subst h1 h2 h3
  refine (make_any k n s w hk0 hk1 hn0 hn1).mono ?_
  rintro e w' ⟨rfl, rfl⟩
  exact ⟨rfl, ((Below.refl _ _).alloc (Nat.le_refl _) _).alloc (by simp) _⟩
theorem make_is (k n c m : Int) (s t : ByteArray) (w : World) (hk0 : 0 ≤ k) (hk1 : k ≤ 255) (hn0 : -9223372036854775808 ≤ n) (hn1 : n ≤ 9223372036854775807) (h1 : k % 5 = c) (h2 : mkN k n = m) (h3 : mkS k s = t) :
    Calls Tryd.prog 8 #[.agg #[.int .u8 k, .int .i64 n, .string s]] w fun e w' => e = .returned (.agg #[.int .u8 c, .int .i64 m, .string t]) ∧ w' = (w.alloc (.cells #[.int .u8 k, .int .i64 n, .string s] 23)).alloc (.cells #[.int .u8 c, .int .i64 m, .string t] 31) := by
  subst h1 h2 h3
  exact make_any k n s w hk0 hk1 hn0 hn1
theorem bcell {W w1 : World} (hb : Below W.heap.size W w1) : (∀ b o, b < W.heap.size → w1.cell? ⟨b, o, none⟩ = W.cell? ⟨b, o, none⟩) ∧ (∀ b o, b < W.heap.size → w1.frozen? ⟨b, o, none⟩ = W.frozen? ⟨b, o, none⟩) :=
  ⟨fun b o h => hb.cell (p := ⟨b, o, none⟩) h, fun b o h => hb.frozen (p := ⟨b, o, none⟩) h⟩
theorem str_back (r : Nat) (h : r < 18446744073709551616) (s : ByteArray) (w : World) (hT : Tabs w) :
    Calls Tryd.prog 11 #[.agg #[.int .u8 5, .int .i64 (wrap64 r), .string s], .func (.func 6) #[] #[]] w fun e w' => e = .returned (.string ({ data := #[35] } ++ ⟨(Lib.decDigits r).toArray⟩)) ∧ Below w.heap.size w w' := by
  have := str_obj (wrap64 r) s w hT
  rw [show (wrap64 (r : Int) % 18446744073709551616).toNat = r from by simp [wrap64]; omega] at this
  exact this
theorem texts_long (k n : Int) (s : ByteArray) (r : Int) (w : World) (hl : 200 < s.size) (hm : s.size ≤ maxLen) :
    Calls Tryd.prog 3 #[.agg #[.int .u8 k, .int .i64 n, .string s], .int .u64 r] w fun e w' => e = .returned (.bool true) ∧ Below w.heap.size w w' := by
  unfold maxLen at hm
  go_enter Tryd.func3, Tryd.ntmps3
  go_wp2_with fail
  refine (awake_any _).mono ?_
  rintro e w' ⟨rfl, rfl⟩
  go_wp2
  go_ret
  exact ⟨rfl, (((Below.refl _ _).alloc (Nat.le_refl _) _).alloc (by simp) _).alloc (by simp; omega) _⟩
theorem bd6 (x : Int) : -9223372036854775808 ≤ (wrap64 x).tmod 6 ∧ (wrap64 x).tmod 6 ≤ 9223372036854775807 := by
  have h1 := Int.tmod_lt_of_pos (wrap64 x) (show (0 : Int) < 6 by decide)
  have h2 := Int.lt_tmod_of_pos (wrap64 x) (show (0 : Int) < 6 by decide)
  omega
set_option maxHeartbeats 2000000 in
theorem texts_0 (k n : Int) (s : ByteArray) (r : Nat) (w : World) (hk0 : 0 ≤ k) (hk1 : k ≤ 255) (hn0 : -9223372036854775808 ≤ n) (hn1 : n ≤ 9223372036854775807) (hs : s.size ≤ 200) (hr : r < 18446744073709551616) (hT : Tabs w) (hc : k % 5 = 0) :
    Calls Tryd.prog 3 #[.agg #[.int .u8 k, .int .i64 n, .string s], .int .u64 r] w fun e w' => e = .returned (.bool true) ∧ Below w.heap.size w w' := by
  have HN : Hid (mkN k n = 0) := by show mkN k n = _; simp [mkN, hc]
  have HS : Hid (mkS k s = { data := #[] }) := by show mkS k s = _; simp [mkS, hc]
  have A6 : Hid (∀ o1 o2 o3 o4 o5 o6, Below w.heap.size w ((((((w.alloc o1).alloc o2).alloc o3).alloc o4).alloc o5).alloc o6)) := fun o1 o2 o3 o4 o5 o6 => ((((((Below.refl _ _).alloc (Nat.le_refl _) o1).alloc (by simp) o2).alloc (by simp; omega) o3).alloc (by simp; omega) o4).alloc (by simp; omega) o5).alloc (by simp; omega) o6
  go_enter Tryd.func3, Tryd.ntmps3
  go_wp2_with fail
  refine (awake_any _).mono ?_
  rintro e w' ⟨rfl, rfl⟩
  go_wp2_with fail
  refine (make_is k n _ _ s _ _ hk0 hk1 hn0 hn1 hc HN.out HS.out).mono ?_
  rintro e w' ⟨rfl, rfl⟩
  go_wp2_with fail
  refine (str_nil _ _ _ _).mono ?_
  rintro e w2 ⟨rfl, hb2⟩
  have b2 := (A6.out _ _ _ _ _ _).trans (hb2.mono (by simp; omega))
  clear hb2
  have T2 := hT.below b2
  go_wp2_with fail
  refine (object_any _ _).mono ?_
  rintro e w' ⟨rfl, rfl⟩
  go_wp2_with fail
  refine (str_back r hr _ _ (by exact T2.below ((Below.refl _ _).alloc (Nat.le_refl _) _))).mono ?_
  rintro e w3 ⟨rfl, hb3⟩
  have b3 := (b2.alloc b2.size _).trans (hb3.mono (by simp; have := b2.size; omega))
  clear hb3
  have T3 := hT.below b3
  go_wp2_with fail
  refine (fmtU r hr _ T3.pow).mono ?_
  rintro e w4 ⟨rfl, hb4⟩
  have b4 := b3.trans (hb4.mono b3.size)
  clear hb4
  have hl := digits_le r hr
  go_wp2
  go_ret
  exact ⟨ret_bool (by simp), b4⟩
set_option maxHeartbeats 2000000 in
theorem texts_1f (k n : Int) (s : ByteArray) (r : Nat) (w : World) (hk0 : 0 ≤ k) (hk1 : k ≤ 255) (hn0 : -9223372036854775808 ≤ n) (hn1 : n ≤ 9223372036854775807) (hs : s.size ≤ 200) (hr : r < 18446744073709551616) (hT : Tabs w) (hc : k % 5 = 1) (hb : bits .and .i64 n 1 = 0) :
    Calls Tryd.prog 3 #[.agg #[.int .u8 k, .int .i64 n, .string s], .int .u64 r] w fun e w' => e = .returned (.bool true) ∧ Below w.heap.size w w' := by
  have HN : Hid (mkN k n = 0) := by show mkN k n = _; simp [mkN, hc, hb]
  have HS : Hid (mkS k s = { data := #[] }) := by show mkS k s = _; simp [mkS, hc]
  have A6 : Hid (∀ o1 o2 o3 o4 o5 o6, Below w.heap.size w ((((((w.alloc o1).alloc o2).alloc o3).alloc o4).alloc o5).alloc o6)) := fun o1 o2 o3 o4 o5 o6 => ((((((Below.refl _ _).alloc (Nat.le_refl _) o1).alloc (by simp) o2).alloc (by simp; omega) o3).alloc (by simp; omega) o4).alloc (by simp; omega) o5).alloc (by simp; omega) o6
  go_enter Tryd.func3, Tryd.ntmps3
  go_wp2_with fail
  refine (awake_any _).mono ?_
  rintro e w' ⟨rfl, rfl⟩
  go_wp2_with fail
  refine (make_is k n _ _ s _ _ hk0 hk1 hn0 hn1 hc HN.out HS.out).mono ?_
  rintro e w' ⟨rfl, rfl⟩
  go_wp2_with fail
  refine (str_bool _ _ _ _).mono ?_
  rintro e w2 ⟨rfl, hb2⟩
  have b2 := (A6.out _ _ _ _ _ _).trans (hb2.mono (by simp; omega))
  clear hb2
  have T2 := hT.below b2
  go_wp2_with fail
  refine (object_any _ _).mono ?_
  rintro e w' ⟨rfl, rfl⟩
  go_wp2_with fail
  refine (str_back r hr _ _ (by exact T2.below ((Below.refl _ _).alloc (Nat.le_refl _) _))).mono ?_
  rintro e w3 ⟨rfl, hb3⟩
  have b3 := (b2.alloc b2.size _).trans (hb3.mono (by simp; have := b2.size; omega))
  clear hb3
  have T3 := hT.below b3
  go_wp2_with fail
  refine (fmtU r hr _ T3.pow).mono ?_
  rintro e w4 ⟨rfl, hb4⟩
  have b4 := b3.trans (hb4.mono b3.size)
  clear hb4
  have hl := digits_le r hr
  go_wp2
  go_ret
  exact ⟨ret_bool (by simp), b4⟩
set_option maxHeartbeats 2000000 in
theorem texts_1t (k n : Int) (s : ByteArray) (r : Nat) (w : World) (hk0 : 0 ≤ k) (hk1 : k ≤ 255) (hn0 : -9223372036854775808 ≤ n) (hn1 : n ≤ 9223372036854775807) (hs : s.size ≤ 200) (hr : r < 18446744073709551616) (hT : Tabs w) (hc : k % 5 = 1) (hb : bits .and .i64 n 1 = 1) :
    Calls Tryd.prog 3 #[.agg #[.int .u8 k, .int .i64 n, .string s], .int .u64 r] w fun e w' => e = .returned (.bool true) ∧ Below w.heap.size w w' := by
  have HN : Hid (mkN k n = 1) := by show mkN k n = _; simp [mkN, hc, hb]
  have HS : Hid (mkS k s = { data := #[] }) := by show mkS k s = _; simp [mkS, hc]
  have A6 : Hid (∀ o1 o2 o3 o4 o5 o6, Below w.heap.size w ((((((w.alloc o1).alloc o2).alloc o3).alloc o4).alloc o5).alloc o6)) := fun o1 o2 o3 o4 o5 o6 => ((((((Below.refl _ _).alloc (Nat.le_refl _) o1).alloc (by simp) o2).alloc (by simp; omega) o3).alloc (by simp; omega) o4).alloc (by simp; omega) o5).alloc (by simp; omega) o6
  go_enter Tryd.func3, Tryd.ntmps3
  go_wp2_with fail
  refine (awake_any _).mono ?_
  rintro e w' ⟨rfl, rfl⟩
  go_wp2_with fail
  refine (make_is k n _ _ s _ _ hk0 hk1 hn0 hn1 hc HN.out HS.out).mono ?_
  rintro e w' ⟨rfl, rfl⟩
  go_wp2_with fail
  refine (str_bool _ _ _ _).mono ?_
  rintro e w2 ⟨rfl, hb2⟩
  have b2 := (A6.out _ _ _ _ _ _).trans (hb2.mono (by simp; omega))
  clear hb2
  have T2 := hT.below b2
  go_wp2_with fail
  refine (object_any _ _).mono ?_
  rintro e w' ⟨rfl, rfl⟩
  go_wp2_with fail
  refine (str_back r hr _ _ (by exact T2.below ((Below.refl _ _).alloc (Nat.le_refl _) _))).mono ?_
  rintro e w3 ⟨rfl, hb3⟩
  have b3 := (b2.alloc b2.size _).trans (hb3.mono (by simp; have := b2.size; omega))
  clear hb3
  have T3 := hT.below b3
  go_wp2_with fail
  refine (fmtU r hr _ T3.pow).mono ?_
  rintro e w4 ⟨rfl, hb4⟩
  have b4 := b3.trans (hb4.mono b3.size)
  clear hb4
  have hl := digits_le r hr
  go_wp2
  go_ret
  exact ⟨ret_bool (by simp), b4⟩
set_option maxHeartbeats 2000000 in
theorem texts_2 (k n : Int) (s : ByteArray) (r : Nat) (w : World) (hk0 : 0 ≤ k) (hk1 : k ≤ 255) (hn0 : -9223372036854775808 ≤ n) (hn1 : n ≤ 9223372036854775807) (hs : s.size ≤ 200) (hr : r < 18446744073709551616) (hT : Tabs w) (hc : k % 5 = 2) :
    Calls Tryd.prog 3 #[.agg #[.int .u8 k, .int .i64 n, .string s], .int .u64 r] w fun e w' => e = .returned (.bool true) ∧ Below w.heap.size w w' := by
  have HN : Hid (mkN k n = n) := by show mkN k n = _; simp [mkN, hc]
  have HS : Hid (mkS k s = { data := #[] }) := by show mkS k s = _; simp [mkS, hc]
  have A6 : Hid (∀ o1 o2 o3 o4 o5 o6, Below w.heap.size w ((((((w.alloc o1).alloc o2).alloc o3).alloc o4).alloc o5).alloc o6)) := fun o1 o2 o3 o4 o5 o6 => ((((((Below.refl _ _).alloc (Nat.le_refl _) o1).alloc (by simp) o2).alloc (by simp; omega) o3).alloc (by simp; omega) o4).alloc (by simp; omega) o5).alloc (by simp; omega) o6
  go_enter Tryd.func3, Tryd.ntmps3
  go_wp2_with fail
  refine (awake_any _).mono ?_
  rintro e w' ⟨rfl, rfl⟩
  go_wp2_with fail
  refine (make_is k n _ _ s _ _ hk0 hk1 hn0 hn1 hc HN.out HS.out).mono ?_
  rintro e w' ⟨rfl, rfl⟩
  go_wp2_with fail
  refine (fmtI n hn0 hn1 _ (by exact hT.below (A6.out _ _ _ _ _ _))).mono ?_
  rintro e w1 ⟨rfl, hb1⟩
  have b1 := (A6.out _ _ _ _ _ _).trans (hb1.mono (by simp; omega))
  have hs1 := hb1.size
  simp at hs1
  obtain ⟨hc1, hf1⟩ := bcell hb1
  simp at hc1
  clear hb1 hf1
  go_wp2_with fail
  refine (str_int _ _ _ hn0 hn1 _ (by exact hT.below b1)).mono ?_
  rintro e w2 ⟨rfl, hb2⟩
  have b2 := b1.trans (hb2.mono b1.size)
  clear hb2
  have T2 := hT.below b2
  go_wp2_with fail
  refine (object_any _ _).mono ?_
  rintro e w' ⟨rfl, rfl⟩
  go_wp2_with fail
  refine (str_back r hr _ _ (by exact T2.below ((Below.refl _ _).alloc (Nat.le_refl _) _))).mono ?_
  rintro e w3 ⟨rfl, hb3⟩
  have b3 := (b2.alloc b2.size _).trans (hb3.mono (by simp; have := b2.size; omega))
  clear hb3
  have T3 := hT.below b3
  go_wp2_with fail
  refine (fmtU r hr _ T3.pow).mono ?_
  rintro e w4 ⟨rfl, hb4⟩
  have b4 := b3.trans (hb4.mono b3.size)
  clear hb4
  have hl := digits_le r hr
  go_wp2
  go_ret
  exact ⟨ret_bool (by simp), b4⟩
set_option maxHeartbeats 2000000 in
theorem texts_3 (k n : Int) (s : ByteArray) (r : Nat) (w : World) (hk0 : 0 ≤ k) (hk1 : k ≤ 255) (hn0 : -9223372036854775808 ≤ n) (hn1 : n ≤ 9223372036854775807) (hs : s.size ≤ 200) (hr : r < 18446744073709551616) (hT : Tabs w) (hc : k % 5 = 3) :
    Calls Tryd.prog 3 #[.agg #[.int .u8 k, .int .i64 n, .string s], .int .u64 r] w fun e w' => e = .returned (.bool true) ∧ Below w.heap.size w w' := by
  have HN : Hid (mkN k n = 0) := by show mkN k n = _; simp [mkN, hc]
  have HS : Hid (mkS k s = s) := by show mkS k s = _; simp [mkS, hc]
  have A6 : Hid (∀ o1 o2 o3 o4 o5 o6, Below w.heap.size w ((((((w.alloc o1).alloc o2).alloc o3).alloc o4).alloc o5).alloc o6)) := fun o1 o2 o3 o4 o5 o6 => ((((((Below.refl _ _).alloc (Nat.le_refl _) o1).alloc (by simp) o2).alloc (by simp; omega) o3).alloc (by simp; omega) o4).alloc (by simp; omega) o5).alloc (by simp; omega) o6
  go_enter Tryd.func3, Tryd.ntmps3
  go_wp2_with fail
  refine (awake_any _).mono ?_
  rintro e w' ⟨rfl, rfl⟩
  go_wp2_with fail
  refine (make_is k n _ _ s _ _ hk0 hk1 hn0 hn1 hc HN.out HS.out).mono ?_
  rintro e w' ⟨rfl, rfl⟩
  go_wp2_with fail
  refine (quote s hs _ (by exact hT.below (A6.out _ _ _ _ _ _))).mono ?_
  rintro e w1 ⟨rfl, hb1⟩
  have b1 := (A6.out _ _ _ _ _ _).trans (hb1.mono (by simp; omega))
  have hs1 := hb1.size
  simp at hs1
  obtain ⟨hc1, hf1⟩ := bcell hb1
  simp at hc1
  clear hb1 hf1
  go_wp2_with fail
  refine (str_text _ _ _ hs _ (by exact hT.below b1)).mono ?_
  rintro e w2 ⟨rfl, hb2⟩
  have b2 := b1.trans (hb2.mono b1.size)
  clear hb2
  have T2 := hT.below b2
  go_wp2_with fail
  refine (object_any _ _).mono ?_
  rintro e w' ⟨rfl, rfl⟩
  go_wp2_with fail
  refine (str_back r hr _ _ (by exact T2.below ((Below.refl _ _).alloc (Nat.le_refl _) _))).mono ?_
  rintro e w3 ⟨rfl, hb3⟩
  have b3 := (b2.alloc b2.size _).trans (hb3.mono (by simp; have := b2.size; omega))
  clear hb3
  have T3 := hT.below b3
  go_wp2_with fail
  refine (fmtU r hr _ T3.pow).mono ?_
  rintro e w4 ⟨rfl, hb4⟩
  have b4 := b3.trans (hb4.mono b3.size)
  clear hb4
  have hl := digits_le r hr
  go_wp2
  go_ret
  exact ⟨ret_bool (by simp), b4⟩
set_option maxHeartbeats 2000000 in
theorem texts_4 (k n : Int) (s : ByteArray) (r : Nat) (w : World) (hk0 : 0 ≤ k) (hk1 : k ≤ 255) (hn0 : -9223372036854775808 ≤ n) (hn1 : n ≤ 9223372036854775807) (hs : s.size ≤ 200) (hr : r < 18446744073709551616) (hT : Tabs w) (hc : k % 5 = 4) :
    Calls Tryd.prog 3 #[.agg #[.int .u8 k, .int .i64 n, .string s], .int .u64 r] w fun e w' => e = .returned (.bool true) ∧ Below w.heap.size w w' := by
  have HN : Hid (mkN k n = (wrap64 (n.tmod 6 + 6)).tmod 6) := by show mkN k n = _; simp [mkN, hc]
  have HS : Hid (mkS k s = { data := #[] }) := by show mkS k s = _; simp [mkS, hc]
  have A6 : Hid (∀ o1 o2 o3 o4 o5 o6, Below w.heap.size w ((((((w.alloc o1).alloc o2).alloc o3).alloc o4).alloc o5).alloc o6)) := fun o1 o2 o3 o4 o5 o6 => ((((((Below.refl _ _).alloc (Nat.le_refl _) o1).alloc (by simp) o2).alloc (by simp; omega) o3).alloc (by simp; omega) o4).alloc (by simp; omega) o5).alloc (by simp; omega) o6
  have hl := itoa_le ((wrap64 (n.tmod 6 + 6)).tmod 6) (bd6 _).1 (bd6 _).2
  go_enter Tryd.func3, Tryd.ntmps3
  go_wp2_with fail
  refine (awake_any _).mono ?_
  rintro e w' ⟨rfl, rfl⟩
  go_wp2_with fail
  refine (make_is k n _ _ s _ _ hk0 hk1 hn0 hn1 hc HN.out HS.out).mono ?_
  rintro e w' ⟨rfl, rfl⟩
  go_wp2_with fail
  refine (fmtI _ (bd6 _).1 (bd6 _).2 _ (by exact hT.below (A6.out _ _ _ _ _ _))).mono ?_
  rintro e w1 ⟨rfl, hb1⟩
  have b1 := (A6.out _ _ _ _ _ _).trans (hb1.mono (by simp; omega))
  have hs1 := hb1.size
  simp at hs1
  obtain ⟨hc1, hf1⟩ := bcell hb1
  simp at hc1
  clear hb1 hf1
  go_wp2_with fail
  refine (str_word _ _ _ (bd6 _).1 (bd6 _).2 _ (by exact hT.below b1)).mono ?_
  rintro e w2 ⟨rfl, hb2⟩
  have b2 := b1.trans (hb2.mono b1.size)
  clear hb2
  have T2 := hT.below b2
  go_wp2_with fail
  refine (object_any _ _).mono ?_
  rintro e w' ⟨rfl, rfl⟩
  go_wp2_with fail
  refine (str_back r hr _ _ (by exact T2.below ((Below.refl _ _).alloc (Nat.le_refl _) _))).mono ?_
  rintro e w3 ⟨rfl, hb3⟩
  have b3 := (b2.alloc b2.size _).trans (hb3.mono (by simp; have := b2.size; omega))
  clear hb3
  have T3 := hT.below b3
  go_wp2_with fail
  refine (fmtU r hr _ T3.pow).mono ?_
  rintro e w4 ⟨rfl, hb4⟩
  have b4 := b3.trans (hb4.mono b3.size)
  clear hb4
  have hl := digits_le r hr
  go_wp2
  go_ret
  exact ⟨ret_bool (by simp), b4⟩
theorem and_one (n : Int) : bits .and .i64 n 1 = n % 2 := by
  have e1 : (BitVec.ofInt 64 (1 : Int)).toNat = 1 := by decide
  have e2 : (((BitVec.ofInt 64 n).toNat : Nat) : Int) = n % 18446744073709551616 := by
    simp [BitVec.toNat_ofInt]; omega
  have e3 : bits .and .i64 n 1 = IntKind.i64.wrap (((BitVec.ofInt 64 n).toNat &&& 1 : Nat) : Int) := by
    show IntKind.i64.wrap (((BitVec.ofInt 64 n &&& BitVec.ofInt 64 1).toNat : Nat) : Int) = _
    rw [BitVec.toNat_and, e1]
  rw [e3, Nat.and_one_is_mod, IntKind.wrap_i64]
  omega
theorem and_bit (n : Int) : bits .and .i64 n 1 = 0 ∨ bits .and .i64 n 1 = 1 := by
  rw [and_one]; omega
theorem texts_any (k n : Int) (s : ByteArray) (r : Int) (w : World) (hk0 : 0 ≤ k) (hk1 : k ≤ 255) (hn0 : -9223372036854775808 ≤ n) (hn1 : n ≤ 9223372036854775807) (hs : s.size ≤ maxLen) (hr0 : 0 ≤ r) (hr : r ≤ 18446744073709551615) (hT : Tabs w) :
    Calls Tryd.prog 3 #[.agg #[.int .u8 k, .int .i64 n, .string s], .int .u64 r] w fun e w' => e = .returned (.bool true) ∧ Below w.heap.size w w' := by
  by_cases hl : 200 < s.size
  · exact texts_long k n s r w hl hs
  · obtain ⟨u, rfl⟩ : ∃ u : Nat, r = u := ⟨r.toNat, by omega⟩
    have hc : k % 5 = 0 ∨ k % 5 = 1 ∨ k % 5 = 2 ∨ k % 5 = 3 ∨ k % 5 = 4 := by omega
    rcases hc with hc | hc | hc | hc | hc
    · exact texts_0 k n s u w hk0 hk1 hn0 hn1 (by omega) (by omega) hT hc
    · rcases and_bit n with hb | hb
      · exact texts_1f k n s u w hk0 hk1 hn0 hn1 (by omega) (by omega) hT hc hb
      · exact texts_1t k n s u w hk0 hk1 hn0 hn1 (by omega) (by omega) hT hc hb
    · exact texts_2 k n s u w hk0 hk1 hn0 hn1 (by omega) (by omega) hT hc
    · exact texts_3 k n s u w hk0 hk1 hn0 hn1 (by omega) (by omega) hT hc
    · exact texts_4 k n s u w hk0 hk1 hn0 hn1 (by omega) (by omega) hT hc
end Go.Proofs.YtgdjdbbjfnhdeaaDoor

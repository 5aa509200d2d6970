/-
  Contracts of the functions of package value (Truth, Number, Words, Word, Object, Ref, True, Key), of the laws' Make and of the two Awakes: what each returns, and the new blocks that it lays.
  Conditions: as each theorem says (numbers that fit their kinds).
-/
import Derived.Test.YtgdjdbbjfnhdeaaRows
import Derived.WalkKit
import Derived.ProofKit
import Derived.OpenShut
import Derived.Below
import Derived.Laws.BitsLemmas
import Derived.Laws.StructEq
namespace Go.Proofs.Ytgdjdbbjfnhdeaa
open Go.ChangeShapes Go.WideShapes Go.ChangeAt Go.RowKit
set_option linter.unusedVariables false
theorem ret_bool {a b : Bool} (h : a = b) : Ending.returned (.bool a) = .returned (.bool b) := by rw [h]
theorem ret_agg {a b : Array Value} (h : a = b) : Ending.returned (.agg a) = .returned (.agg b) := by rw [h]
theorem number_any (n : Int) (w : World) : Calls Try.prog 9 #[.int .i64 n] w fun e w' => e = .returned (.agg #[.int .u8 2, .int .i64 n, .string { data := #[] }]) ∧ w' = w.alloc (.cells #[.int .u8 2, .int .i64 n, .string { data := #[] }] 26) := by
  go_enter Try.func9, Try.ntmps9
  go_wp2
  exact bodyPost_ret (v := (.agg #[.int .u8 2, .int .i64 n, .string { data := #[] }])) (by simp [results, Try.results9, go_sem]) rfl ⟨rfl, rfl⟩
theorem words_any (s : ByteArray) (w : World) : Calls Try.prog 10 #[.string s] w fun e w' => e = .returned (.agg #[.int .u8 3, .int .i64 0, .string s]) ∧ w' = w.alloc (.cells #[.int .u8 3, .int .i64 0, .string s] 26) := by
  go_enter Try.func10, Try.ntmps10
  go_wp2
  exact bodyPost_ret (v := (.agg #[.int .u8 3, .int .i64 0, .string s])) (by simp [results, Try.results10, go_sem]) rfl ⟨rfl, rfl⟩
theorem word_any (n : Int) (w : World) : Calls Try.prog 11 #[.int .i64 n] w fun e w' => e = .returned (.agg #[.int .u8 4, .int .i64 n, .string { data := #[] }]) ∧ w' = w.alloc (.cells #[.int .u8 4, .int .i64 n, .string { data := #[] }] 26) := by
  go_enter Try.func11, Try.ntmps11
  go_wp2
  exact bodyPost_ret (v := (.agg #[.int .u8 4, .int .i64 n, .string { data := #[] }])) (by simp [results, Try.results11, go_sem]) rfl ⟨rfl, rfl⟩
theorem truth_true (w : World) : Calls Try.prog 8 #[.bool true] w fun e w' => e = .returned (.agg #[.int .u8 1, .int .i64 1, .string { data := #[] }]) ∧ w' = w.alloc (.cells #[.int .u8 1, .int .i64 1, .string { data := #[] }] 26) := by
  go_enter Try.func8, Try.ntmps8
  go_wp2
  exact bodyPost_ret (v := (.agg #[.int .u8 1, .int .i64 1, .string { data := #[] }])) (by simp [results, Try.results8, go_sem]) rfl ⟨rfl, rfl⟩
theorem truth_false (w : World) : Calls Try.prog 8 #[.bool false] w fun e w' => e = .returned (.agg #[.int .u8 1, .int .i64 0, .string { data := #[] }]) ∧ w' = w.alloc (.cells #[.int .u8 1, .int .i64 0, .string { data := #[] }] 26) := by
  go_enter Try.func8, Try.ntmps8
  go_wp2
  exact bodyPost_ret (v := (.agg #[.int .u8 1, .int .i64 0, .string { data := #[] }])) (by simp [results, Try.results8, go_sem]) rfl ⟨rfl, rfl⟩
theorem object_any (r : Int) (w : World) : Calls Try.prog 7 #[.int .u64 r] w fun e w' => e = .returned (.agg #[.int .u8 5, .int .i64 (wrap64 r), .string { data := #[] }]) ∧ w' = w.alloc (.cells #[.int .u8 5, .int .i64 (wrap64 r), .string { data := #[] }] 26) := by
  go_enter Try.func7, Try.ntmps7
  go_wp2
  exact bodyPost_ret (v := (.agg #[.int .u8 5, .int .i64 (wrap64 r), .string { data := #[] }])) (by simp [results, Try.results7, go_sem]) rfl ⟨rfl, rfl⟩
theorem ref_none (k n : Int) (s : ByteArray) (w : World) (hk : (k == 5) = false) : Calls Try.prog 12 #[.agg #[.int .u8 k, .int .i64 n, .string s]] w fun e w' => e = .returned (.int .u64 0) ∧ w' = w.alloc (.cells #[.int .u8 k, .int .i64 n, .string s] 26) := by
  go_enter Try.func12, Try.ntmps12
  go_wp2
  go_ret
  exact ⟨rfl, rfl⟩
theorem ref_obj (n : Int) (s : ByteArray) (w : World) : Calls Try.prog 12 #[.agg #[.int .u8 5, .int .i64 n, .string s]] w fun e w' => e = .returned (.int .u64 (n % 18446744073709551616)) ∧ w' = w.alloc (.cells #[.int .u8 5, .int .i64 n, .string s] 26) := by
  go_enter Try.func12, Try.ntmps12
  go_wp2
  go_ret
  exact ⟨rfl, rfl⟩
def mkN (k n : Int) : Int := if k % 5 = 1 then bits .and .i64 n 1 else if k % 5 = 2 then n else if k % 5 = 4 then (wrap64 (n.tmod 6 + 6)).tmod 6 else 0
def mkS (k : Int) (s : ByteArray) : ByteArray := if k % 5 = 3 then s else { data := #[] }
theorem make_any (k n : Int) (s : ByteArray) (w : World) (hk0 : 0 ≤ k) (hk1 : k ≤ 255) (hn0 : -9223372036854775808 ≤ n) (hn1 : n ≤ 9223372036854775807) :
    Calls Try.prog 13 #[.agg #[.int .u8 k, .int .i64 n, .string s]] w fun e w' => e = .returned (.agg #[.int .u8 (k % 5), .int .i64 (mkN k n), .string (mkS k s)]) ∧ w' = (w.alloc (.cells #[.int .u8 k, .int .i64 n, .string s] 35)).alloc (.cells #[.int .u8 (k % 5), .int .i64 (mkN k n), .string (mkS k s)] 26) := by
  have hc : k % 5 = 0 ∨ k % 5 = 1 ∨ k % 5 = 2 ∨ k % 5 = 3 ∨ k % 5 = 4 := by omega
  rcases hc with hc | hc | hc | hc | hc
  · have e1 : mkN k n = 0 := by simp [mkN, hc]
    have e2 : mkS k s = { data := #[] } := by simp [mkS, hc]
    rw [e1, e2, hc]; clear e1 e2
    go_enter Try.func13, Try.ntmps13
    go_wp2
    exact bodyPost_ret (v := (.agg #[.int .u8 0, .int .i64 0, .string { data := #[] }])) (by simp [results, Try.results13, go_sem]) rfl ⟨rfl, rfl⟩
  · have e1 : mkN k n = bits .and .i64 n 1 := by simp [mkN, hc]
    have e2 : mkS k s = { data := #[] } := by simp [mkS, hc]
    rw [e1, e2, hc]; clear e1 e2
    go_enter Try.func13, Try.ntmps13
    go_wp2
    exact bodyPost_ret (v := (.agg #[.int .u8 1, .int .i64 (bits .and .i64 n 1), .string { data := #[] }])) (by simp [results, Try.results13, go_sem]) rfl ⟨rfl, rfl⟩
  · have e1 : mkN k n = n := by simp [mkN, hc]
    have e2 : mkS k s = { data := #[] } := by simp [mkS, hc]
    rw [e1, e2, hc]; clear e1 e2
    go_enter Try.func13, Try.ntmps13
    go_wp2
    exact bodyPost_ret (v := (.agg #[.int .u8 2, .int .i64 n, .string { data := #[] }])) (by simp [results, Try.results13, go_sem]) rfl ⟨rfl, rfl⟩
  · have e1 : mkN k n = 0 := by simp [mkN, hc]
    have e2 : mkS k s = s := by simp [mkS, hc]
    rw [e1, e2, hc]; clear e1 e2
    go_enter Try.func13, Try.ntmps13
    go_wp2
    exact bodyPost_ret (v := (.agg #[.int .u8 3, .int .i64 0, .string s])) (by simp [results, Try.results13, go_sem]) rfl ⟨rfl, rfl⟩
  · have e1 : mkN k n = (wrap64 (n.tmod 6 + 6)).tmod 6 := by simp [mkN, hc]
    have e2 : mkS k s = { data := #[] } := by simp [mkS, hc]
    rw [e1, e2, hc]; clear e1 e2
    go_enter Try.func13, Try.ntmps13
    go_wp2
    exact bodyPost_ret (v := (.agg #[.int .u8 4, .int .i64 ((wrap64 (n.tmod 6 + 6)).tmod 6), .string { data := #[] }])) (by simp [results, Try.results13, go_sem]) rfl ⟨rfl, rfl⟩
theorem true_nil (n : Int) (s : ByteArray) (w : World) : Calls Try.prog 14 #[.agg #[.int .u8 0, .int .i64 n, .string s]] w fun e w' => e = .returned (.bool false) ∧ w' = w.alloc (.cells #[.int .u8 0, .int .i64 n, .string s] 26) := by
  go_enter Try.func14, Try.ntmps14
  go_wp2
  go_ret
  exact ⟨rfl, rfl⟩
theorem true_bool (n : Int) (s : ByteArray) (w : World) : Calls Try.prog 14 #[.agg #[.int .u8 1, .int .i64 n, .string s]] w fun e w' => e = .returned (.bool (n != 0)) ∧ w' = w.alloc (.cells #[.int .u8 1, .int .i64 n, .string s] 26) := by
  go_enter Try.func14, Try.ntmps14
  go_wp2
  go_ret
  exact ⟨rfl, rfl⟩
theorem true_other (k n : Int) (s : ByteArray) (w : World) (h0 : (k == 0) = false) (h1 : (k == 1) = false) : Calls Try.prog 14 #[.agg #[.int .u8 k, .int .i64 n, .string s]] w fun e w' => e = .returned (.bool true) ∧ w' = w.alloc (.cells #[.int .u8 k, .int .i64 n, .string s] 26) := by
  go_enter Try.func14, Try.ntmps14
  go_wp2
  go_ret
  exact ⟨rfl, rfl⟩
theorem key_any (k n : Int) (s : ByteArray) (w : World) : Calls Try.prog 15 #[.agg #[.int .u8 k, .int .i64 n, .string s]] w fun e w' => e = .returned (.bool (k == 2 || k == 3)) ∧ w' = w.alloc (.cells #[.int .u8 k, .int .i64 n, .string s] 26) := by
  by_cases h2 : k = 2
  · subst h2
    go_enter Try.func15, Try.ntmps15
    go_wp2
    go_ret
    exact ⟨rfl, rfl⟩
  · have h2' : (k == 2) = false := by simpa using h2
    clear h2
    go_enter Try.func15, Try.ntmps15
    go_wp2
    go_ret
    exact ⟨ret_bool (by rw [h2']; rfl), rfl⟩
theorem of12 (w : World) : Calls Try.prog 17 #[.int .u32 1, .int .u32 2] w fun e w' => e = .returned (.int .u64 8589934593) ∧ w' = w := by
  go_enter Try.func17, Try.ntmps17
  go_wp2
  go_ret
  exact ⟨rfl, rfl⟩
theorem uses2 (w : World) : Calls Try.prog 18 #[.int .u64 8589934593] w fun e w' => e = .returned (.int .u32 2) ∧ w' = w := by
  go_enter Try.func18, Try.ntmps18
  go_wp2
  go_ret
  exact ⟨rfl, rfl⟩
theorem awake1 (w : World) : Calls Try.prog 16 #[] w fun e w' => e = .returned (.bool true) ∧ w' = w := by
  go_enter Try.func16, Try.ntmps16
  go_wp2_with (first | (go_at_call 17; refine (of12 _).mono ?_; rintro e w' ⟨rfl, rfl⟩) | (go_at_call 18; refine (uses2 _).mono ?_; rintro e w' ⟨rfl, rfl⟩))
  go_ret
  exact ⟨rfl, rfl⟩
theorem awake_any (w : World) : Calls Try.prog 6 #[] w fun e w' => e = .returned (.bool true) ∧ w' = (w.alloc (.cells #[.int .u8 2, .int .i64 (-5), .string { data := #[] }] 26)).alloc (.cells #[.int .u8 0, .int .i64 0, .string { data := #[] }] 26) := by
  go_enter Try.func6, Try.ntmps6
  go_wp2_with (first | (go_at_call 16; refine (awake1 _).mono ?_; rintro e w' ⟨rfl, rfl⟩) | (go_at_call 9; refine (number_any _ _).mono ?_; rintro e w' ⟨rfl, rfl⟩) | (go_at_call 14; refine (true_nil _ _ _).mono ?_; rintro e w' ⟨rfl, rfl⟩))
  go_ret
  exact ⟨rfl, rfl⟩
end Go.Proofs.Ytgdjdbbjfnhdeaa

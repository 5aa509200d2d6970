/-
  Contracts of the functions of package value (Number, Object, Ref, True), of the laws' Make and of the two Awakes: what each returns, and the new blocks that it lays.
  Conditions: as each theorem says (numbers that fit their kinds).
-/
import Derived.Test.YtgdjdbbjfnhdeaaDoorRows
import Derived.WalkKit
import Derived.ProofKit
import Derived.OpenShut
import Derived.Below
import Derived.Laws.BitsLemmas
import Derived.Laws.StructEq
namespace Go.Proofs.YtgdjdbbjfnhdeaaDoor
open Go.ChangeShapes Go.WideShapes Go.ChangeAt Go.RowKit
set_option linter.unusedVariables false
theorem ret_bool {a b : Bool} (h : a = b) : Ending.returned (.bool a) = .returned (.bool b) := by rw [h]
theorem ret_agg {a b : Array Value} (h : a = b) : Ending.returned (.agg a) = .returned (.agg b) := by rw [h]
theorem number_any (n : Int) (w : World) : Calls Tryd.prog 15 #[.int .i64 n] w fun e w' => e = .returned (.agg #[.int .u8 2, .int .i64 n, .string { data := #[] }]) ∧ w' = w.alloc (.cells #[.int .u8 2, .int .i64 n, .string { data := #[] }] 31) := by
  go_enter Tryd.func15, Tryd.ntmps15
  go_wp2
  exact bodyPost_ret (v := (.agg #[.int .u8 2, .int .i64 n, .string { data := #[] }])) (by simp [results, Tryd.results15, go_sem]) rfl ⟨rfl, rfl⟩
theorem object_any (r : Int) (w : World) : Calls Tryd.prog 12 #[.int .u64 r] w fun e w' => e = .returned (.agg #[.int .u8 5, .int .i64 (wrap64 r), .string { data := #[] }]) ∧ w' = w.alloc (.cells #[.int .u8 5, .int .i64 (wrap64 r), .string { data := #[] }] 31) := by
  go_enter Tryd.func12, Tryd.ntmps12
  go_wp2
  exact bodyPost_ret (v := (.agg #[.int .u8 5, .int .i64 (wrap64 r), .string { data := #[] }])) (by simp [results, Tryd.results12, go_sem]) rfl ⟨rfl, rfl⟩
theorem ref_none (k n : Int) (s : ByteArray) (w : World) (hk : (k == 5) = false) : Calls Tryd.prog 21 #[.agg #[.int .u8 k, .int .i64 n, .string s]] w fun e w' => e = .returned (.int .u64 0) ∧ w' = w.alloc (.cells #[.int .u8 k, .int .i64 n, .string s] 31) := by
  go_enter Tryd.func21, Tryd.ntmps21
  go_wp2
  go_ret
  exact ⟨rfl, rfl⟩
theorem ref_obj (n : Int) (s : ByteArray) (w : World) : Calls Tryd.prog 21 #[.agg #[.int .u8 5, .int .i64 n, .string s]] w fun e w' => e = .returned (.int .u64 (n % 18446744073709551616)) ∧ w' = w.alloc (.cells #[.int .u8 5, .int .i64 n, .string s] 31) := by
  go_enter Tryd.func21, Tryd.ntmps21
  go_wp2
  go_ret
  exact ⟨rfl, rfl⟩
def mkN (k n : Int) : Int := if k % 5 = 1 then bits .and .i64 n 1 else if k % 5 = 2 then n else if k % 5 = 4 then (wrap64 (n.tmod 6 + 6)).tmod 6 else 0
def mkS (k : Int) (s : ByteArray) : ByteArray := if k % 5 = 3 then s else { data := #[] }
theorem make_any (k n : Int) (s : ByteArray) (w : World) (hk0 : 0 ≤ k) (hk1 : k ≤ 255) (hn0 : -9223372036854775808 ≤ n) (hn1 : n ≤ 9223372036854775807) :
    Calls Tryd.prog 8 #[.agg #[.int .u8 k, .int .i64 n, .string s]] w fun e w' => e = .returned (.agg #[.int .u8 (k % 5), .int .i64 (mkN k n), .string (mkS k s)]) ∧ w' = (w.alloc (.cells #[.int .u8 k, .int .i64 n, .string s] 23)).alloc (.cells #[.int .u8 (k % 5), .int .i64 (mkN k n), .string (mkS k s)] 31) := by
  have hc : k % 5 = 0 ∨ k % 5 = 1 ∨ k % 5 = 2 ∨ k % 5 = 3 ∨ k % 5 = 4 := by omega
  rcases hc with hc | hc | hc | hc | hc
  · have e1 : mkN k n = 0 := by simp [mkN, hc]
    have e2 : mkS k s = { data := #[] } := by simp [mkS, hc]
    rw [e1, e2, hc]; clear e1 e2
    go_enter Tryd.func8, Tryd.ntmps8
    go_wp2
    exact bodyPost_ret (v := (.agg #[.int .u8 0, .int .i64 0, .string { data := #[] }])) (by simp [results, Tryd.results8, go_sem]) rfl ⟨rfl, rfl⟩
  · have e1 : mkN k n = bits .and .i64 n 1 := by simp [mkN, hc]
    have e2 : mkS k s = { data := #[] } := by simp [mkS, hc]
    rw [e1, e2, hc]; clear e1 e2
    go_enter Tryd.func8, Tryd.ntmps8
    go_wp2
    exact bodyPost_ret (v := (.agg #[.int .u8 1, .int .i64 (bits .and .i64 n 1), .string { data := #[] }])) (by simp [results, Tryd.results8, go_sem]) rfl ⟨rfl, rfl⟩
  · have e1 : mkN k n = n := by simp [mkN, hc]
    have e2 : mkS k s = { data := #[] } := by simp [mkS, hc]
    rw [e1, e2, hc]; clear e1 e2
    go_enter Tryd.func8, Tryd.ntmps8
    go_wp2
    exact bodyPost_ret (v := (.agg #[.int .u8 2, .int .i64 n, .string { data := #[] }])) (by simp [results, Tryd.results8, go_sem]) rfl ⟨rfl, rfl⟩
  · have e1 : mkN k n = 0 := by simp [mkN, hc]
    have e2 : mkS k s = s := by simp [mkS, hc]
    rw [e1, e2, hc]; clear e1 e2
    go_enter Tryd.func8, Tryd.ntmps8
    go_wp2
    exact bodyPost_ret (v := (.agg #[.int .u8 3, .int .i64 0, .string s])) (by simp [results, Tryd.results8, go_sem]) rfl ⟨rfl, rfl⟩
  · have e1 : mkN k n = (wrap64 (n.tmod 6 + 6)).tmod 6 := by simp [mkN, hc]
    have e2 : mkS k s = { data := #[] } := by simp [mkS, hc]
    rw [e1, e2, hc]; clear e1 e2
    go_enter Tryd.func8, Tryd.ntmps8
    go_wp2
    exact bodyPost_ret (v := (.agg #[.int .u8 4, .int .i64 ((wrap64 (n.tmod 6 + 6)).tmod 6), .string { data := #[] }])) (by simp [results, Tryd.results8, go_sem]) rfl ⟨rfl, rfl⟩
theorem true_nil (n : Int) (s : ByteArray) (w : World) : Calls Tryd.prog 16 #[.agg #[.int .u8 0, .int .i64 n, .string s]] w fun e w' => e = .returned (.bool false) ∧ w' = w.alloc (.cells #[.int .u8 0, .int .i64 n, .string s] 31) := by
  go_enter Tryd.func16, Tryd.ntmps16
  go_wp2
  go_ret
  exact ⟨rfl, rfl⟩
theorem true_bool (n : Int) (s : ByteArray) (w : World) : Calls Tryd.prog 16 #[.agg #[.int .u8 1, .int .i64 n, .string s]] w fun e w' => e = .returned (.bool (n != 0)) ∧ w' = w.alloc (.cells #[.int .u8 1, .int .i64 n, .string s] 31) := by
  go_enter Tryd.func16, Tryd.ntmps16
  go_wp2
  go_ret
  exact ⟨rfl, rfl⟩
theorem true_other (k n : Int) (s : ByteArray) (w : World) (h0 : (k == 0) = false) (h1 : (k == 1) = false) : Calls Tryd.prog 16 #[.agg #[.int .u8 k, .int .i64 n, .string s]] w fun e w' => e = .returned (.bool true) ∧ w' = w.alloc (.cells #[.int .u8 k, .int .i64 n, .string s] 31) := by
  go_enter Tryd.func16, Tryd.ntmps16
  go_wp2
  go_ret
  exact ⟨rfl, rfl⟩
theorem of12 (w : World) : Calls Tryd.prog 22 #[.int .u32 1, .int .u32 2] w fun e w' => e = .returned (.int .u64 8589934593) ∧ w' = w := by
  go_enter Tryd.func22, Tryd.ntmps22
  go_wp2
  go_ret
  exact ⟨rfl, rfl⟩
theorem uses2 (w : World) : Calls Tryd.prog 23 #[.int .u64 8589934593] w fun e w' => e = .returned (.int .u32 2) ∧ w' = w := by
  go_enter Tryd.func23, Tryd.ntmps23
  go_wp2
  go_ret
  exact ⟨rfl, rfl⟩
theorem awake1 (w : World) : Calls Tryd.prog 14 #[] w fun e w' => e = .returned (.bool true) ∧ w' = w := by
  go_enter Tryd.func14, Tryd.ntmps14
  go_wp2_with (first | (go_at_call 22; refine (of12 _).mono ?_; rintro e w' ⟨rfl, rfl⟩) | (go_at_call 23; refine (uses2 _).mono ?_; rintro e w' ⟨rfl, rfl⟩))
  go_ret
  exact ⟨rfl, rfl⟩
theorem awake_any (w : World) : Calls Tryd.prog 5 #[] w fun e w' => e = .returned (.bool true) ∧ w' = (w.alloc (.cells #[.int .u8 2, .int .i64 (-5), .string { data := #[] }] 31)).alloc (.cells #[.int .u8 0, .int .i64 0, .string { data := #[] }] 31) := by
  go_enter Tryd.func5, Tryd.ntmps5
  go_wp2_with (first | (go_at_call 14; refine (awake1 _).mono ?_; rintro e w' ⟨rfl, rfl⟩) | (go_at_call 15; refine (number_any _ _).mono ?_; rintro e w' ⟨rfl, rfl⟩) | (go_at_call 16; refine (true_nil _ _ _).mono ?_; rintro e w' ⟨rfl, rfl⟩))
  go_ret
  exact ⟨rfl, rfl⟩
end Go.Proofs.YtgdjdbbjfnhdeaaDoor

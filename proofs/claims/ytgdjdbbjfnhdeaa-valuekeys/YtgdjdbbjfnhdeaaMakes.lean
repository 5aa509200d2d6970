/-
  The walk of ValueMakes (promise P2.1): it returns true for every truth, number, text and Ref, and lays only new blocks.
  Conditions: the arguments fit their kinds.
-/
import Derived.Test.YtgdjdbbjfnhdeaaBase
namespace Go.Proofs.Ytgdjdbbjfnhdeaa
open Go.ChangeShapes Go.WideShapes Go.ChangeAt Go.RowKit
set_option linter.unusedVariables false
theorem ref_back (r : Int) (s : ByteArray) (w : World) (y0 : 0 ≤ r) (y1 : r ≤ 18446744073709551615) : Calls Try.prog 12 #[.agg #[.int .u8 5, .int .i64 (wrap64 r), .string s]] w fun e w' => e = .returned (.int .u64 r) ∧ w' = w.alloc (.cells #[.int .u8 5, .int .i64 (wrap64 r), .string s] 26) := by
  have h := ref_obj (wrap64 r) s w
  rw [show wrap64 r % 18446744073709551616 = r from by simp [wrap64]; omega] at h
  exact h
set_option maxHeartbeats 1000000 in
theorem makes_true (a1 : Int) (a2 : ByteArray) (a3 : Int) (w1 : (Lit.int .i64 a1).wf = true) (w2 : a2.size ≤ maxLen) (w3 : (Lit.int .u64 a3).wf = true) (w : World) :
    Calls Try.prog 3 #[.bool true, .int .i64 a1, .string a2, .int .u64 a3] w fun e w' => e = .returned (.bool true) ∧ Grown w w' := by
  obtain ⟨x0, x1⟩ := bounds_i64 w1
  obtain ⟨y0, y1⟩ := bounds_u64 w3
  clear w1 w3 w2
  go_enter Try.func3, Try.ntmps3
  go_wp2_with (first | (go_at_call 6; refine (awake_any _).mono ?_; rintro e w' ⟨rfl, rfl⟩) | (go_at_call 7; refine (object_any _ _).mono ?_; rintro e w' ⟨rfl, rfl⟩) | (go_at_call 8; refine (truth_true _).mono ?_; rintro e w' ⟨rfl, rfl⟩) | (go_at_call 9; refine (number_any _ _).mono ?_; rintro e w' ⟨rfl, rfl⟩)  | (go_at_call 10; refine (words_any _ _).mono ?_; rintro e w' ⟨rfl, rfl⟩)  | (go_at_call 11; refine (word_any _ _).mono ?_; rintro e w' ⟨rfl, rfl⟩))
  refine (ref_back _ _ _ (by omega) (by omega)).mono ?_
  rintro e w' ⟨rfl, rfl⟩
  go_wp2_with fail
  refine (number_any _ _).mono ?_
  rintro e w' ⟨rfl, rfl⟩
  go_wp2_with fail
  refine (ref_none _ _ _ _ (by decide)).mono ?_
  rintro e w' ⟨rfl, rfl⟩
  go_wp2_with fail
  refine (words_any _ _).mono ?_
  rintro e w' ⟨rfl, rfl⟩
  go_wp2_with fail
  refine (ref_none _ _ _ _ (by decide)).mono ?_
  rintro e w' ⟨rfl, rfl⟩
  go_wp2
  go_ret
  exact ⟨rfl, by repeat (first | exact Grown.refl _ | apply Grown.drew | apply Grown.alloc)⟩
set_option maxHeartbeats 1000000 in
theorem makes_false (a1 : Int) (a2 : ByteArray) (a3 : Int) (w1 : (Lit.int .i64 a1).wf = true) (w2 : a2.size ≤ maxLen) (w3 : (Lit.int .u64 a3).wf = true) (w : World) :
    Calls Try.prog 3 #[.bool false, .int .i64 a1, .string a2, .int .u64 a3] w fun e w' => e = .returned (.bool true) ∧ Grown w w' := by
  obtain ⟨x0, x1⟩ := bounds_i64 w1
  obtain ⟨y0, y1⟩ := bounds_u64 w3
  clear w1 w3 w2
  go_enter Try.func3, Try.ntmps3
  go_wp2_with (first | (go_at_call 6; refine (awake_any _).mono ?_; rintro e w' ⟨rfl, rfl⟩) | (go_at_call 7; refine (object_any _ _).mono ?_; rintro e w' ⟨rfl, rfl⟩) | (go_at_call 8; refine (truth_false _).mono ?_; rintro e w' ⟨rfl, rfl⟩) | (go_at_call 9; refine (number_any _ _).mono ?_; rintro e w' ⟨rfl, rfl⟩)  | (go_at_call 10; refine (words_any _ _).mono ?_; rintro e w' ⟨rfl, rfl⟩)  | (go_at_call 11; refine (word_any _ _).mono ?_; rintro e w' ⟨rfl, rfl⟩))
  refine (ref_back _ _ _ (by omega) (by omega)).mono ?_
  rintro e w' ⟨rfl, rfl⟩
  go_wp2_with fail
  refine (number_any _ _).mono ?_
  rintro e w' ⟨rfl, rfl⟩
  go_wp2_with fail
  refine (ref_none _ _ _ _ (by decide)).mono ?_
  rintro e w' ⟨rfl, rfl⟩
  go_wp2_with fail
  refine (words_any _ _).mono ?_
  rintro e w' ⟨rfl, rfl⟩
  go_wp2_with fail
  refine (ref_none _ _ _ _ (by decide)).mono ?_
  rintro e w' ⟨rfl, rfl⟩
  go_wp2
  go_ret
  exact ⟨rfl, by repeat (first | exact Grown.refl _ | apply Grown.drew | apply Grown.alloc)⟩
end Go.Proofs.Ytgdjdbbjfnhdeaa

/-
  Contracts of the small functions that the laws go through: package ref's, package value's, the laws' Make and two of the Awakes: what each returns, and the new blocks that it lays.
  Conditions: as each theorem says (numbers that fit their kinds).
-/
import Derived.Test.YtebcojkeblpbjaaRows
import Derived.WalkKit
import Derived.ProofKit
import Derived.OpenShut
import Derived.Below
import Derived.Laws.BitsLemmas
import Derived.Laws.StructEq
namespace Go.Proofs.Ytebcojkeblpbjaa
open Go.ChangeShapes Go.WideShapes Go.ChangeAt Go.RowKit
set_option linter.unusedVariables false
theorem ret_bool {a b : Bool} (h : a = b) : Ending.returned (.bool a) = .returned (.bool b) := by rw [h]
theorem ret_agg {a b : Array Value} (h : a = b) : Ending.returned (.agg a) = .returned (.agg b) := by rw [h]
theorem number_any (n : Int) (w : World) : Calls Try.prog 11 #[.int .i64 n] w fun e w' => e = .returned (.agg #[.int .u8 2, .int .i64 n, .string { data := #[] }]) ∧ w' = w.alloc (.cells #[.int .u8 2, .int .i64 n, .string { data := #[] }] 31) := by
  go_enter Try.func11, Try.ntmps11
  go_wp2
  exact bodyPost_ret (v := (.agg #[.int .u8 2, .int .i64 n, .string { data := #[] }])) (by simp [results, Try.results11, go_sem]) rfl ⟨rfl, rfl⟩
theorem object_any (r : Int) (w : World) : Calls Try.prog 8 #[.int .u64 r] w fun e w' => e = .returned (.agg #[.int .u8 5, .int .i64 (wrap64 r), .string { data := #[] }]) ∧ w' = w.alloc (.cells #[.int .u8 5, .int .i64 (wrap64 r), .string { data := #[] }] 31) := by
  go_enter Try.func8, Try.ntmps8
  go_wp2
  exact bodyPost_ret (v := (.agg #[.int .u8 5, .int .i64 (wrap64 r), .string { data := #[] }])) (by simp [results, Try.results8, go_sem]) rfl ⟨rfl, rfl⟩
theorem ref_none (k n : Int) (s : ByteArray) (w : World) (hk : (k == 5) = false) : Calls Try.prog 41 #[.agg #[.int .u8 k, .int .i64 n, .string s]] w fun e w' => e = .returned (.int .u64 0) ∧ w' = w.alloc (.cells #[.int .u8 k, .int .i64 n, .string s] 31) := by
  go_enter Try.func41, Try.ntmps41
  go_wp2
  go_ret
  exact ⟨rfl, rfl⟩
theorem ref_obj (n : Int) (s : ByteArray) (w : World) : Calls Try.prog 41 #[.agg #[.int .u8 5, .int .i64 n, .string s]] w fun e w' => e = .returned (.int .u64 (n % 18446744073709551616)) ∧ w' = w.alloc (.cells #[.int .u8 5, .int .i64 n, .string s] 31) := by
  go_enter Try.func41, Try.ntmps41
  go_wp2
  go_ret
  exact ⟨rfl, rfl⟩
def mkN (k n : Int) : Int := if k % 5 = 1 then bits .and .i64 n 1 else if k % 5 = 2 then n else if k % 5 = 4 then (wrap64 (n.tmod 6 + 6)).tmod 6 else 0
def mkS (k : Int) (s : ByteArray) : ByteArray := if k % 5 = 3 then s else { data := #[] }
theorem make_any (k n : Int) (s : ByteArray) (w : World) (hk0 : 0 ≤ k) (hk1 : k ≤ 255) (hn0 : -9223372036854775808 ≤ n) (hn1 : n ≤ 9223372036854775807) :
    Calls Try.prog 9 #[.agg #[.int .u8 k, .int .i64 n, .string s]] w fun e w' => e = .returned (.agg #[.int .u8 (k % 5), .int .i64 (mkN k n), .string (mkS k s)]) ∧ w' = (w.alloc (.cells #[.int .u8 k, .int .i64 n, .string s] 38)).alloc (.cells #[.int .u8 (k % 5), .int .i64 (mkN k n), .string (mkS k s)] 31) := by
  have hc : k % 5 = 0 ∨ k % 5 = 1 ∨ k % 5 = 2 ∨ k % 5 = 3 ∨ k % 5 = 4 := by omega
  rcases hc with hc | hc | hc | hc | hc
  · have e1 : mkN k n = 0 := by simp [mkN, hc]
    have e2 : mkS k s = { data := #[] } := by simp [mkS, hc]
    rw [e1, e2, hc]; clear e1 e2
    go_enter Try.func9, Try.ntmps9
    go_wp2
    exact bodyPost_ret (v := (.agg #[.int .u8 0, .int .i64 0, .string { data := #[] }])) (by simp [results, Try.results9, go_sem]) rfl ⟨rfl, rfl⟩
  · have e1 : mkN k n = bits .and .i64 n 1 := by simp [mkN, hc]
    have e2 : mkS k s = { data := #[] } := by simp [mkS, hc]
    rw [e1, e2, hc]; clear e1 e2
    go_enter Try.func9, Try.ntmps9
    go_wp2
    exact bodyPost_ret (v := (.agg #[.int .u8 1, .int .i64 (bits .and .i64 n 1), .string { data := #[] }])) (by simp [results, Try.results9, go_sem]) rfl ⟨rfl, rfl⟩
  · have e1 : mkN k n = n := by simp [mkN, hc]
    have e2 : mkS k s = { data := #[] } := by simp [mkS, hc]
    rw [e1, e2, hc]; clear e1 e2
    go_enter Try.func9, Try.ntmps9
    go_wp2
    exact bodyPost_ret (v := (.agg #[.int .u8 2, .int .i64 n, .string { data := #[] }])) (by simp [results, Try.results9, go_sem]) rfl ⟨rfl, rfl⟩
  · have e1 : mkN k n = 0 := by simp [mkN, hc]
    have e2 : mkS k s = s := by simp [mkS, hc]
    rw [e1, e2, hc]; clear e1 e2
    go_enter Try.func9, Try.ntmps9
    go_wp2
    exact bodyPost_ret (v := (.agg #[.int .u8 3, .int .i64 0, .string s])) (by simp [results, Try.results9, go_sem]) rfl ⟨rfl, rfl⟩
  · have e1 : mkN k n = (wrap64 (n.tmod 6 + 6)).tmod 6 := by simp [mkN, hc]
    have e2 : mkS k s = { data := #[] } := by simp [mkS, hc]
    rw [e1, e2, hc]; clear e1 e2
    go_enter Try.func9, Try.ntmps9
    go_wp2
    exact bodyPost_ret (v := (.agg #[.int .u8 4, .int .i64 ((wrap64 (n.tmod 6 + 6)).tmod 6), .string { data := #[] }])) (by simp [results, Try.results9, go_sem]) rfl ⟨rfl, rfl⟩
theorem true_nil (n : Int) (s : ByteArray) (w : World) : Calls Try.prog 54 #[.agg #[.int .u8 0, .int .i64 n, .string s]] w fun e w' => e = .returned (.bool false) ∧ w' = w.alloc (.cells #[.int .u8 0, .int .i64 n, .string s] 31) := by
  go_enter Try.func54, Try.ntmps54
  go_wp2
  go_ret
  exact ⟨rfl, rfl⟩
theorem ret_int {k : IntKind} {a b : Int} (h : a = b) : Ending.returned (.int k a) = .returned (.int k b) := by rw [h]
theorem wraps64 (n : Int) (h₀ : 0 ≤ n) (h₁ : n < 2 ^ 64) : IntKind.u64.wrap n = n := by simp [IntKind.wrap, IntKind.bits, IntKind.signed]; omega
theorem or_parts (s u : Int) (hs0 : 0 ≤ s) (hs : s < 4294967296) (hu0 : 0 ≤ u) (hu : u < 4294967296) :
    bits BinOp.or IntKind.u64 (u * 4294967296) s = u * 4294967296 + s :=
  bits_join .u64 64 (by decide) wraps64 32 (u * 4294967296) s (by omega) (by omega) (by omega) hs0 (by omega) (by omega)
theorem of_any (s u : Int) (hs0 : 0 ≤ s) (hs : s < 4294967296) (hu0 : 0 ≤ u) (hu : u < 4294967296) (w : World) :
    Calls Try.prog 21 #[.int .u32 s, .int .u32 u] w fun e w' => e = .returned (.int .u64 (u * 4294967296 + s)) ∧ w' = w := by
  go_enter Try.func21, Try.ntmps21
  go_wp2
  go_ret
  exact ⟨ret_int (or_parts s u hs0 hs hu0 hu), rfl⟩
theorem slot_any (n : Int) (hs0 : 0 ≤ n) (hs : n ≤ 18446744073709551615) (w : World) :
    Calls Try.prog 50 #[.int .u64 n] w fun e w' => e = .returned (.int .u32 (n % 4294967296)) ∧ w' = w := by
  go_enter Try.func50, Try.ntmps50
  go_wp2
  go_ret
  exact ⟨rfl, rfl⟩
theorem uses_any (n : Int) (hs0 : 0 ≤ n) (hs : n ≤ 18446744073709551615) (w : World) :
    Calls Try.prog 51 #[.int .u64 n] w fun e w' => e = .returned (.int .u32 (n / 4294967296)) ∧ w' = w := by
  go_enter Try.func51, Try.ntmps51
  go_wp2
  go_ret
  exact ⟨rfl, rfl⟩
theorem slot_of (s u : Int) (hs0 : 0 ≤ s) (hs : s < 4294967296) (hu0 : 0 ≤ u) (hu : u < 4294967296) (w : World) :
    Calls Try.prog 50 #[.int .u64 (u * 4294967296 + s)] w fun e w' => e = .returned (.int .u32 s) ∧ w' = w := by
  have h := slot_any (u * 4294967296 + s) (by omega) (by omega) w
  rw [show (u * 4294967296 + s) % 4294967296 = s from by omega] at h
  exact h
theorem uses_of (s u : Int) (hs0 : 0 ≤ s) (hs : s < 4294967296) (hu0 : 0 ≤ u) (hu : u < 4294967296) (w : World) :
    Calls Try.prog 51 #[.int .u64 (u * 4294967296 + s)] w fun e w' => e = .returned (.int .u32 u) ∧ w' = w := by
  have h := uses_any (u * 4294967296 + s) (by omega) (by omega) w
  rw [show (u * 4294967296 + s) / 4294967296 = u from by omega] at h
  exact h
theorem awake1 (w : World) : Calls Try.prog 53 #[] w fun e w' => e = .returned (.bool true) ∧ w' = w := by
  go_enter Try.func53, Try.ntmps53
  go_wp2_with (first | (go_at_call 21; refine (of_any _ _ (by decide) (by decide) (by decide) (by decide) _).mono ?_; rintro e w' ⟨rfl, rfl⟩) | (go_at_call 51; refine (uses_any _ (by decide) (by decide) _).mono ?_; rintro e w' ⟨rfl, rfl⟩))
  go_ret
  exact ⟨rfl, rfl⟩
theorem awake2 (w : World) : Calls Try.prog 32 #[] w fun e w' => e = .returned (.bool true) ∧ w' = (w.alloc (.cells #[.int .u8 2, .int .i64 (-5), .string { data := #[] }] 31)).alloc (.cells #[.int .u8 0, .int .i64 0, .string { data := #[] }] 31) := by
  go_enter Try.func32, Try.ntmps32
  go_wp2_with (first | (go_at_call 53; refine (awake1 _).mono ?_; rintro e w' ⟨rfl, rfl⟩) | (go_at_call 11; refine (number_any _ _).mono ?_; rintro e w' ⟨rfl, rfl⟩) | (go_at_call 54; refine (true_nil _ _ _).mono ?_; rintro e w' ⟨rfl, rfl⟩))
  go_ret
  exact ⟨rfl, rfl⟩

end Go.Proofs.Ytebcojkeblpbjaa

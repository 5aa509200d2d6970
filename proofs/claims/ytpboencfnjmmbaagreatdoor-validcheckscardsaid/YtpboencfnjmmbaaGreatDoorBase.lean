/-
  Contracts of the small functions that the laws go through: package ref's, package value's, the laws' Make and two of the Awakes: what each returns, and the new blocks that it lays.
  Conditions: as each theorem says (numbers that fit their kinds).
-/
import Derived.Test.YtpboencfnjmmbaaGreatDoorProg
import Derived.KernelRfl
import Derived.WalkKit
import Derived.ProofKit
import Derived.OpenShut
import Derived.Below
import Derived.Laws.BitsLemmas
import Derived.Laws.StructEq
namespace Go.Proofs.YtpboencfnjmmbaaGreatDoor
open Go.ChangeShapes Go.WideShapes Go.ChangeAt Go.RowKit
set_option linter.unusedVariables false
theorem ret_bool {a b : Bool} (h : a = b) : Ending.returned (.bool a) = .returned (.bool b) := by rw [h]
theorem ret_agg {a b : Array Value} (h : a = b) : Ending.returned (.agg a) = .returned (.agg b) := by rw [h]
theorem number_any (n : Int) (w : World) : Calls Tryz.prog 138 #[.int .i64 n] w fun e w' => e = .returned (.agg #[.int .u8 2, .int .i64 n, .string { data := #[] }]) ∧ w' = w.alloc (.cells #[.int .u8 2, .int .i64 n, .string { data := #[] }] 208) := by
  go_enter Tryz.func138, Tryz.ntmps138
  go_wp2
  exact bodyPost_ret (v := (.agg #[.int .u8 2, .int .i64 n, .string { data := #[] }])) (by simp [results, Tryz.results138, go_sem]) rfl ⟨rfl, rfl⟩
theorem object_any (r : Int) (w : World) : Calls Tryz.prog 137 #[.int .u64 r] w fun e w' => e = .returned (.agg #[.int .u8 5, .int .i64 (wrap64 r), .string { data := #[] }]) ∧ w' = w.alloc (.cells #[.int .u8 5, .int .i64 (wrap64 r), .string { data := #[] }] 208) := by
  go_enter Tryz.func137, Tryz.ntmps137
  go_wp2
  exact bodyPost_ret (v := (.agg #[.int .u8 5, .int .i64 (wrap64 r), .string { data := #[] }])) (by simp [results, Tryz.results137, go_sem]) rfl ⟨rfl, rfl⟩
theorem ref_none (k n : Int) (s : ByteArray) (w : World) (hk : (k == 5) = false) : Calls Tryz.prog 190 #[.agg #[.int .u8 k, .int .i64 n, .string s]] w fun e w' => e = .returned (.int .u64 0) ∧ w' = w.alloc (.cells #[.int .u8 k, .int .i64 n, .string s] 208) := by
  go_enter Tryz.func190, Tryz.ntmps190
  go_wp2
  go_ret
  exact ⟨rfl, rfl⟩
theorem ref_obj (n : Int) (s : ByteArray) (w : World) : Calls Tryz.prog 190 #[.agg #[.int .u8 5, .int .i64 n, .string s]] w fun e w' => e = .returned (.int .u64 (n % 18446744073709551616)) ∧ w' = w.alloc (.cells #[.int .u8 5, .int .i64 n, .string s] 208) := by
  go_enter Tryz.func190, Tryz.ntmps190
  go_wp2
  go_ret
  exact ⟨rfl, rfl⟩
def mkN (k n : Int) : Int := if k % 5 = 1 then bits .and .i64 n 1 else if k % 5 = 2 then n else if k % 5 = 4 then (wrap64 (n.tmod 6 + 6)).tmod 6 else 0
def mkS (k : Int) (s : ByteArray) : ByteArray := if k % 5 = 3 then s else { data := #[] }
theorem true_nil (n : Int) (s : ByteArray) (w : World) : Calls Tryz.prog 177 #[.agg #[.int .u8 0, .int .i64 n, .string s]] w fun e w' => e = .returned (.bool false) ∧ w' = w.alloc (.cells #[.int .u8 0, .int .i64 n, .string s] 208) := by
  go_enter Tryz.func177, Tryz.ntmps177
  go_wp2
  go_ret
  exact ⟨rfl, rfl⟩
theorem ret_int {k : IntKind} {a b : Int} (h : a = b) : Ending.returned (.int k a) = .returned (.int k b) := by rw [h]
theorem wraps64 (n : Int) (h₀ : 0 ≤ n) (h₁ : n < 2 ^ 64) : IntKind.u64.wrap n = n := by simp [IntKind.wrap, IntKind.bits, IntKind.signed]; omega
theorem or_parts (s u : Int) (hs0 : 0 ≤ s) (hs : s < 4294967296) (hu0 : 0 ≤ u) (hu : u < 4294967296) :
    bits BinOp.or IntKind.u64 (u * 4294967296) s = u * 4294967296 + s :=
  bits_join .u64 64 (by decide) wraps64 32 (u * 4294967296) s (by omega) (by omega) (by omega) hs0 (by omega) (by omega)
theorem of_any (s u : Int) (hs0 : 0 ≤ s) (hs : s < 4294967296) (hu0 : 0 ≤ u) (hu : u < 4294967296) (w : World) :
    Calls Tryz.prog 183 #[.int .u32 s, .int .u32 u] w fun e w' => e = .returned (.int .u64 (u * 4294967296 + s)) ∧ w' = w := by
  go_enter Tryz.func183, Tryz.ntmps183
  go_wp2
  go_ret
  exact ⟨ret_int (or_parts s u hs0 hs hu0 hu), rfl⟩
theorem slot_any (n : Int) (hs0 : 0 ≤ n) (hs : n ≤ 18446744073709551615) (w : World) :
    Calls Tryz.prog 184 #[.int .u64 n] w fun e w' => e = .returned (.int .u32 (n % 4294967296)) ∧ w' = w := by
  go_enter Tryz.func184, Tryz.ntmps184
  go_wp2
  go_ret
  exact ⟨rfl, rfl⟩
theorem uses_any (n : Int) (hs0 : 0 ≤ n) (hs : n ≤ 18446744073709551615) (w : World) :
    Calls Tryz.prog 185 #[.int .u64 n] w fun e w' => e = .returned (.int .u32 (n / 4294967296)) ∧ w' = w := by
  go_enter Tryz.func185, Tryz.ntmps185
  go_wp2
  go_ret
  exact ⟨rfl, rfl⟩
theorem slot_of (s u : Int) (hs0 : 0 ≤ s) (hs : s < 4294967296) (hu0 : 0 ≤ u) (hu : u < 4294967296) (w : World) :
    Calls Tryz.prog 184 #[.int .u64 (u * 4294967296 + s)] w fun e w' => e = .returned (.int .u32 s) ∧ w' = w := by
  have h := slot_any (u * 4294967296 + s) (by omega) (by omega) w
  rw [show (u * 4294967296 + s) % 4294967296 = s from by omega] at h
  exact h
theorem uses_of (s u : Int) (hs0 : 0 ≤ s) (hs : s < 4294967296) (hu0 : 0 ≤ u) (hu : u < 4294967296) (w : World) :
    Calls Tryz.prog 185 #[.int .u64 (u * 4294967296 + s)] w fun e w' => e = .returned (.int .u32 u) ∧ w' = w := by
  have h := uses_any (u * 4294967296 + s) (by omega) (by omega) w
  rw [show (u * 4294967296 + s) / 4294967296 = u from by omega] at h
  exact h
theorem awake1 (w : World) : Calls Tryz.prog 176 #[] w fun e w' => e = .returned (.bool true) ∧ w' = w := by
  go_enter Tryz.func176, Tryz.ntmps176
  go_wp2_with (first | (go_at_call 183; refine (of_any _ _ (by decide) (by decide) (by decide) (by decide) _).mono ?_; rintro e w' ⟨rfl, rfl⟩) | (go_at_call 185; refine (uses_any _ (by decide) (by decide) _).mono ?_; rintro e w' ⟨rfl, rfl⟩))
  go_ret
  exact ⟨rfl, rfl⟩
theorem awake2 (w : World) : Calls Tryz.prog 131 #[] w fun e w' => e = .returned (.bool true) ∧ w' = (w.alloc (.cells #[.int .u8 2, .int .i64 (-5), .string { data := #[] }] 208)).alloc (.cells #[.int .u8 0, .int .i64 0, .string { data := #[] }] 208) := by
  go_enter Tryz.func131, Tryz.ntmps131
  go_wp2_with (first | (go_at_call 176; refine (awake1 _).mono ?_; rintro e w' ⟨rfl, rfl⟩) | (go_at_call 138; refine (number_any _ _).mono ?_; rintro e w' ⟨rfl, rfl⟩) | (go_at_call 177; refine (true_nil _ _ _).mono ?_; rintro e w' ⟨rfl, rfl⟩))
  go_ret
  exact ⟨rfl, rfl⟩

end Go.Proofs.YtpboencfnjmmbaaGreatDoor

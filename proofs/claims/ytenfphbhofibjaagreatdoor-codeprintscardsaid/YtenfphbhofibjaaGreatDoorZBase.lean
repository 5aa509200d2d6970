/-
 Contracts of the small functions that the laws go through: package ref's, package value's, the laws' Make and two of the Awakes: what each returns, and the new blocks that it lays.
 Conditions: as each theorem says (numbers that fit their kinds).
-/
import Derived.Test.YtenfphbhofibjaaGreatDoorProg
import Derived.WalkKit
import Derived.ProofKit
import Derived.OpenShut
set_option linter.unusedVariables false
namespace Go.Proofs.YtenfphbhofibjaaGreatDoor
open Go.ChangeShapes Go.WideShapes Go.ChangeAt Go.RowKit
theorem ret_bool {a b : Bool} (h : a = b) : Ending.returned (.bool a) = .returned (.bool b) := by rw [h]
theorem number_any (n : Int) (w : World) : Calls Tryz.prog 124 #[.int .i64 n] w fun e w' => e = .returned (.agg #[.int .u8 2, .int .i64 n, .string { data := #[] }]) ∧ w' = w.alloc (.cells #[.int .u8 2, .int .i64 n, .string { data := #[] }] 176) := by
 go_enter Tryz.func124, Tryz.ntmps124
 go_wp2
 exact bodyPost_ret (v := (.agg #[.int .u8 2, .int .i64 n, .string { data := #[] }])) (by simp [results, Tryz.results124, go_sem]) rfl ⟨rfl, rfl⟩
theorem object_any (r : Int) (w : World) : Calls Tryz.prog 123 #[.int .u64 r] w fun e w' => e = .returned (.agg #[.int .u8 5, .int .i64 (wrap64 r), .string { data := #[] }]) ∧ w' = w.alloc (.cells #[.int .u8 5, .int .i64 (wrap64 r), .string { data := #[] }] 176) := by
 go_enter Tryz.func123, Tryz.ntmps123
 go_wp2
 exact bodyPost_ret (v := (.agg #[.int .u8 5, .int .i64 (wrap64 r), .string { data := #[] }])) (by simp [results, Tryz.results123, go_sem]) rfl ⟨rfl, rfl⟩
theorem ref_none (k n : Int) (s : ByteArray) (w : World) (hk : (k == 5) = false) : Calls Tryz.prog 164 #[.agg #[.int .u8 k, .int .i64 n, .string s]] w fun e w' => e = .returned (.int .u64 0) ∧ w' = w.alloc (.cells #[.int .u8 k, .int .i64 n, .string s] 176) := by
 go_enter Tryz.func164, Tryz.ntmps164
 go_wp2
 go_ret
 exact ⟨rfl, rfl⟩
theorem ref_obj (n : Int) (s : ByteArray) (w : World) : Calls Tryz.prog 164 #[.agg #[.int .u8 5, .int .i64 n, .string s]] w fun e w' => e = .returned (.int .u64 (n % 18446744073709551616)) ∧ w' = w.alloc (.cells #[.int .u8 5, .int .i64 n, .string s] 176) := by
 go_enter Tryz.func164, Tryz.ntmps164
 go_wp2
 go_ret
 exact ⟨rfl, rfl⟩
theorem true_nil (n : Int) (s : ByteArray) (w : World) : Calls Tryz.prog 151 #[.agg #[.int .u8 0, .int .i64 n, .string s]] w fun e w' => e = .returned (.bool false) ∧ w' = w.alloc (.cells #[.int .u8 0, .int .i64 n, .string s] 176) := by
 go_enter Tryz.func151, Tryz.ntmps151
 go_wp2
 go_ret
 exact ⟨rfl, rfl⟩
theorem ret_int {k : IntKind} {a b : Int} (h : a = b) : Ending.returned (.int k a) = .returned (.int k b) := by rw [h]
theorem wraps64 (n : Int) (h₀ : 0 ≤ n) (h₁ : n < 2 ^ 64) : IntKind.u64.wrap n = n := by simp [IntKind.wrap, IntKind.bits, IntKind.signed]; omega
theorem or_parts (s u : Int) (hs0 : 0 ≤ s) (hs : s < 4294967296) (hu0 : 0 ≤ u) (hu : u < 4294967296) :
 bits BinOp.or IntKind.u64 (u * 4294967296) s = u * 4294967296 + s :=
 bits_join .u64 64 (by decide) wraps64 32 (u * 4294967296) s (by omega) (by omega) (by omega) hs0 (by omega) (by omega)
theorem of_any (s u : Int) (hs0 : 0 ≤ s) (hs : s < 4294967296) (hu0 : 0 ≤ u) (hu : u < 4294967296) (w : World) :
 Calls Tryz.prog 157 #[.int .u32 s, .int .u32 u] w fun e w' => e = .returned (.int .u64 (u * 4294967296 + s)) ∧ w' = w := by
 go_enter Tryz.func157, Tryz.ntmps157
 go_wp2
 go_ret
 exact ⟨ret_int (or_parts s u hs0 hs hu0 hu), rfl⟩
theorem slot_any (n : Int) (hs0 : 0 ≤ n) (hs : n ≤ 18446744073709551615) (w : World) :
 Calls Tryz.prog 158 #[.int .u64 n] w fun e w' => e = .returned (.int .u32 (n % 4294967296)) ∧ w' = w := by
 go_enter Tryz.func158, Tryz.ntmps158
 go_wp2
 go_ret
 exact ⟨rfl, rfl⟩
theorem uses_any (n : Int) (hs0 : 0 ≤ n) (hs : n ≤ 18446744073709551615) (w : World) :
 Calls Tryz.prog 159 #[.int .u64 n] w fun e w' => e = .returned (.int .u32 (n / 4294967296)) ∧ w' = w := by
 go_enter Tryz.func159, Tryz.ntmps159
 go_wp2
 go_ret
 exact ⟨rfl, rfl⟩
theorem awake1 (w : World) : Calls Tryz.prog 150 #[] w fun e w' => e = .returned (.bool true) ∧ w' = w := by
 go_enter Tryz.func150, Tryz.ntmps150
 go_wp2_with (first | (go_at_call 157; refine (of_any _ _ (by decide) (by decide) (by decide) (by decide) _).mono ?_; rintro e w' ⟨rfl, rfl⟩) | (go_at_call 159; refine (uses_any _ (by decide) (by decide) _).mono ?_; rintro e w' ⟨rfl, rfl⟩))
 go_ret
 exact ⟨rfl, rfl⟩
theorem awake2 (w : World) : Calls Tryz.prog 117 #[] w fun e w' => e = .returned (.bool true) ∧ w' = (w.alloc (.cells #[.int .u8 2, .int .i64 (-5), .string { data := #[] }] 176)).alloc (.cells #[.int .u8 0, .int .i64 0, .string { data := #[] }] 176) := by
 go_enter Tryz.func117, Tryz.ntmps117
 go_wp2_with (first | (go_at_call 150; refine (awake1 _).mono ?_; rintro e w' ⟨rfl, rfl⟩) | (go_at_call 124; refine (number_any _ _).mono ?_; rintro e w' ⟨rfl, rfl⟩) | (go_at_call 151; refine (true_nil _ _ _).mono ?_; rintro e w' ⟨rfl, rfl⟩))
 go_ret
 exact ⟨rfl, rfl⟩
end Go.Proofs.YtenfphbhofibjaaGreatDoor

/-
  Contracts of the small functions of package ref (Of, Slot, Uses) and of Awake: each returns the number that the document gives, and leaves the world as it was.
  Conditions: the arguments fit their kinds.
-/
import Derived.Test.YtiianjnjjginiaaRows
import Derived.WalkKit
import Derived.ProofKit
import Derived.OpenShut
import Derived.Laws.BitsLemmas
namespace Go.Proofs.Ytiianjnjjginiaa
open Go.ChangeShapes Go.WideShapes Go.ChangeAt Go.RowKit
set_option linter.unusedVariables false

theorem wraps64 (n : Int) (h₀ : 0 ≤ n) (h₁ : n < 2 ^ 64) : IntKind.u64.wrap n = n := by simp [IntKind.wrap, IntKind.bits, IntKind.signed]; omega

theorem or_parts (s u : Int) (hs0 : 0 ≤ s) (hs : s < 4294967296) (hu0 : 0 ≤ u) (hu : u < 4294967296) :
    bits BinOp.or IntKind.u64 (u * 4294967296) s = u * 4294967296 + s :=
  bits_join .u64 64 (by decide) wraps64 32 (u * 4294967296) s (by omega) (by omega) (by omega) hs0 (by omega) (by omega)

theorem ret_int {k : IntKind} {a b : Int} (h : a = b) : Ending.returned (.int k a) = .returned (.int k b) := by rw [h]

theorem of_any (s u : Int) (hs0 : 0 ≤ s) (hs : s < 4294967296) (hu0 : 0 ≤ u) (hu : u < 4294967296) (w : World) :
    Calls Try.prog 8 #[.int .u32 s, .int .u32 u] w fun e w' => e = .returned (.int .u64 (u * 4294967296 + s)) ∧ w' = w := by
  go_enter Try.func8, Try.ntmps8
  go_wp2
  go_ret
  exact ⟨ret_int (or_parts s u hs0 hs hu0 hu), rfl⟩
theorem slot_any (n : Int) (hs0 : 0 ≤ n) (hs : n ≤ 18446744073709551615) (w : World) :
    Calls Try.prog 9 #[.int .u64 n] w fun e w' => e = .returned (.int .u32 (n % 4294967296)) ∧ w' = w := by
  go_enter Try.func9, Try.ntmps9
  go_wp2
  go_ret
  exact ⟨rfl, rfl⟩
theorem uses_any (n : Int) (hs0 : 0 ≤ n) (hs : n ≤ 18446744073709551615) (w : World) :
    Calls Try.prog 10 #[.int .u64 n] w fun e w' => e = .returned (.int .u32 (n / 4294967296)) ∧ w' = w := by
  go_enter Try.func10, Try.ntmps10
  go_wp2
  go_ret
  exact ⟨rfl, rfl⟩
theorem awake_any (w : World) :
    Calls Try.prog 7 #[] w fun e w' => e = .returned (.bool true) ∧ w' = w := by
  go_enter Try.func7, Try.ntmps7
  go_wp2_with (first | (go_at_call 8; refine (of_any _ _ (by decide) (by decide) (by decide) (by decide) _).mono ?_; rintro e w' ⟨rfl, rfl⟩) | (go_at_call 10; refine (uses_any _ (by decide) (by decide) _).mono ?_; rintro e w' ⟨rfl, rfl⟩))
  go_ret
  exact ⟨rfl, rfl⟩
theorem slot_of (s u : Int) (hs0 : 0 ≤ s) (hs : s < 4294967296) (hu0 : 0 ≤ u) (hu : u < 4294967296) (w : World) :
    Calls Try.prog 9 #[.int .u64 (u * 4294967296 + s)] w fun e w' => e = .returned (.int .u32 s) ∧ w' = w := by
  have h := slot_any (u * 4294967296 + s) (by omega) (by omega) w
  rw [show (u * 4294967296 + s) % 4294967296 = s from by omega] at h
  exact h
theorem uses_of (s u : Int) (hs0 : 0 ≤ s) (hs : s < 4294967296) (hu0 : 0 ≤ u) (hu : u < 4294967296) (w : World) :
    Calls Try.prog 10 #[.int .u64 (u * 4294967296 + s)] w fun e w' => e = .returned (.int .u32 u) ∧ w' = w := by
  have h := uses_any (u * 4294967296 + s) (by omega) (by omega) w
  rw [show (u * 4294967296 + s) / 4294967296 = u from by omega] at h
  exact h
theorem bounds32 {a : Int} (w : (Lit.int .u32 a).wf = true) : 0 ≤ a ∧ a < 4294967296 := by
  have := bounds_u32 w
  omega
theorem bounds64 {a : Int} (w : (Lit.int .u64 a).wf = true) : 0 ≤ a ∧ a ≤ 18446744073709551615 := by
  have := bounds_u64 w
  omega
end Go.Proofs.Ytiianjnjjginiaa

/-
  The walk of ValueAsks (promise P2.1): it returns true for every value that Make makes and every Ref, and writes nothing that was there before the call; and what a struct argument of the laws' type V reads as.
  Conditions: as each theorem says (numbers that fit their kinds).
-/
import Derived.Test.YtgdjdbbjfnhdeaaMakes
import Derived.Deep.Strs
import Derived.Carry
namespace Go.Proofs.Ytgdjdbbjfnhdeaa
open Go.ChangeShapes Go.WideShapes Go.ChangeAt Go.RowKit
set_option linter.unusedVariables false
theorem and_one (n : Int) : bits .and .i64 n 1 = n % 2 := by
  have e1 : (BitVec.ofInt 64 (1 : Int)).toNat = 1 := by decide
  have e2 : (((BitVec.ofInt 64 n).toNat : Nat) : Int) = n % 18446744073709551616 := by
    simp [BitVec.toNat_ofInt]; omega
  have e3 : bits .and .i64 n 1 = IntKind.i64.wrap (((BitVec.ofInt 64 n).toNat &&& 1 : Nat) : Int) := by
    show IntKind.i64.wrap (((BitVec.ofInt 64 n &&& BitVec.ofInt 64 1).toNat : Nat) : Int) = _
    rw [BitVec.toNat_and, e1]
  rw [e3, Nat.and_one_is_mod, IntKind.wrap_i64]
  omega
theorem and_bit (n : Int) : bits .and .i64 n 1 = 0 ∨ bits .and .i64 n 1 = 1 := by
  rw [and_one]; omega

theorem cells35 : Try.prog.cellsOf 35 = 3 := by kernel_rfl
theorem cells5 : Try.prog.cellsOf 5 = 1 := by kernel_rfl
theorem cells2 : Try.prog.cellsOf 2 = 1 := by kernel_rfl
theorem cells9 : Try.prog.cellsOf 9 = 1 := by kernel_rfl

theorem open_V {H : Type} {enc : TypeId × Value → H} {W : World} {r : Reach} {b0 base : Nat} {sp : Nat → Bool} {held : Bool} {v : Value} {d : DataW H} {p : List MemPlace}
    (hv : Value.okWide Try.prog W r b0 35 v) (h : DataW.Trod enc Try.prog W base sp held 35 v d p) :
    ∃ (k n : Int) (s : ByteArray), v = .agg #[.int .u8 k, .int .i64 n, .string s] ∧ 0 ≤ k ∧ k ≤ 255 ∧ -9223372036854775808 ≤ n ∧ n ≤ 9223372036854775807 ∧ s.size ≤ maxLen := by
  obtain ⟨cs, rfl, hsz⟩ := okWide_struct Try.underlying35 hv
  rw [cells35] at hsz
  obtain ⟨c0, c1, c2, rfl⟩ : ∃ a b c, cs = #[a, b, c] := by
    obtain ⟨l⟩ := cs
    match l, hsz with
    | [a, b, c], _ => exact ⟨a, b, c, rfl⟩
  obtain ⟨fuel, hf⟩ := h
  obtain ⟨y0, y1, y2, n, hx, _, h0, h1, h2⟩ := Deep.trod_struct3 Try.underlying35 hf
  simp [Value.cells, cells5, cells2, cells9] at h0 h1 h2
  obtain ⟨k, hk, _, wk⟩ := DataW.trod_int Try.underlying5 h0
  obtain ⟨m, hm, _, wm⟩ := DataW.trod_int Try.underlying2 h1
  obtain ⟨s, hs, _, ws⟩ := DataW.trod_string Try.underlying9 h2
  simp at hk hm hs
  subst hk hm hs
  have b1 := bounds_u8 wk
  have b2 := bounds_i64 wm
  exact ⟨k, m, s, rfl, b1.1, b1.2, b2.1, b2.2, ws⟩

theorem make_is (k n c m : Int) (s t : ByteArray) (w : World) (hk0 : 0 ≤ k) (hk1 : k ≤ 255) (hn0 : -9223372036854775808 ≤ n) (hn1 : n ≤ 9223372036854775807) (h1 : k % 5 = c) (h2 : mkN k n = m) (h3 : mkS k s = t) :
    Calls Try.prog 13 #[.agg #[.int .u8 k, .int .i64 n, .string s]] w fun e w' => e = .returned (.agg #[.int .u8 c, .int .i64 m, .string t]) ∧ w' = (w.alloc (.cells #[.int .u8 k, .int .i64 n, .string s] 35)).alloc (.cells #[.int .u8 c, .int .i64 m, .string t] 26) := by
  subst h1 h2 h3
  exact make_any k n s w hk0 hk1 hn0 hn1
set_option maxHeartbeats 1000000 in
theorem asks_0 (k n : Int) (s : ByteArray) (r : Int) (w : World) (hk0 : 0 ≤ k) (hk1 : k ≤ 255) (hn0 : -9223372036854775808 ≤ n) (hn1 : n ≤ 9223372036854775807) (hc : k % 5 = 0) :
    Calls Try.prog 4 #[.agg #[.int .u8 k, .int .i64 n, .string s], .int .u64 r] w fun e w' => e = .returned (.bool true) ∧ Below w.heap.size w w' := by
  have e1 : mkN k n = 0 := by simp [mkN, hc]
  have e2 : mkS k s = { data := #[] } := by simp [mkS, hc]
  have HN : Hid (mkN k n = 0) := e1
  have HS : Hid (mkS k s = { data := #[] }) := e2
  clear e1 e2
  go_enter Try.func4, Try.ntmps4
  go_wp2_with fail
  refine (awake_any _).mono ?_
  rintro e w' ⟨rfl, rfl⟩
  go_wp2_with fail
  refine (make_is k n _ _ s _ _ hk0 hk1 hn0 hn1 hc HN.out HS.out).mono ?_
  rintro e w' ⟨rfl, rfl⟩
  go_wp2_with fail
  refine (object_any _ _).mono ?_
  rintro e w' ⟨rfl, rfl⟩
  go_wp2_with fail
  refine (true_nil _ _ _).mono ?_
  rintro e w' ⟨rfl, rfl⟩
  go_wp2_with fail
  refine (key_any _ _ _ _).mono ?_
  rintro e w' ⟨rfl, rfl⟩
  go_wp2_with fail
  refine (true_other _ _ _ _ (by decide) (by decide)).mono ?_
  rintro e w' ⟨rfl, rfl⟩
  go_wp2_with fail
  refine (key_any _ _ _ _).mono ?_
  rintro e w' ⟨rfl, rfl⟩
  go_wp2
  go_ret
  exact ⟨rfl, by repeat (first | exact Below.refl _ _ | (refine Below.alloc ?_ (by simp <;> omega) _))⟩
set_option maxHeartbeats 1000000 in
theorem asks_1f (k n : Int) (s : ByteArray) (r : Int) (w : World) (hk0 : 0 ≤ k) (hk1 : k ≤ 255) (hn0 : -9223372036854775808 ≤ n) (hn1 : n ≤ 9223372036854775807) (hc : k % 5 = 1) (hb : bits .and .i64 n 1 = 0) :
    Calls Try.prog 4 #[.agg #[.int .u8 k, .int .i64 n, .string s], .int .u64 r] w fun e w' => e = .returned (.bool true) ∧ Below w.heap.size w w' := by
  have e1 : mkN k n = 0 := by simp [mkN, hc, hb]
  have e2 : mkS k s = { data := #[] } := by simp [mkS, hc]
  have HN : Hid (mkN k n = 0) := e1
  have HS : Hid (mkS k s = { data := #[] }) := e2
  clear e1 e2
  go_enter Try.func4, Try.ntmps4
  go_wp2_with fail
  refine (awake_any _).mono ?_
  rintro e w' ⟨rfl, rfl⟩
  go_wp2_with fail
  refine (make_is k n _ _ s _ _ hk0 hk1 hn0 hn1 hc HN.out HS.out).mono ?_
  rintro e w' ⟨rfl, rfl⟩
  go_wp2_with fail
  refine (object_any _ _).mono ?_
  rintro e w' ⟨rfl, rfl⟩
  go_wp2_with fail
  refine (true_bool _ _ _).mono ?_
  rintro e w' ⟨rfl, rfl⟩
  go_wp2_with fail
  refine (key_any _ _ _ _).mono ?_
  rintro e w' ⟨rfl, rfl⟩
  go_wp2_with fail
  refine (true_other _ _ _ _ (by decide) (by decide)).mono ?_
  rintro e w' ⟨rfl, rfl⟩
  go_wp2_with fail
  refine (key_any _ _ _ _).mono ?_
  rintro e w' ⟨rfl, rfl⟩
  go_wp2
  go_ret
  exact ⟨rfl, by repeat (first | exact Below.refl _ _ | (refine Below.alloc ?_ (by simp <;> omega) _))⟩
set_option maxHeartbeats 1000000 in
theorem asks_1t (k n : Int) (s : ByteArray) (r : Int) (w : World) (hk0 : 0 ≤ k) (hk1 : k ≤ 255) (hn0 : -9223372036854775808 ≤ n) (hn1 : n ≤ 9223372036854775807) (hc : k % 5 = 1) (hb : bits .and .i64 n 1 = 1) :
    Calls Try.prog 4 #[.agg #[.int .u8 k, .int .i64 n, .string s], .int .u64 r] w fun e w' => e = .returned (.bool true) ∧ Below w.heap.size w w' := by
  have e1 : mkN k n = 1 := by simp [mkN, hc, hb]
  have e2 : mkS k s = { data := #[] } := by simp [mkS, hc]
  have HN : Hid (mkN k n = 1) := e1
  have HS : Hid (mkS k s = { data := #[] }) := e2
  clear e1 e2
  go_enter Try.func4, Try.ntmps4
  go_wp2_with fail
  refine (awake_any _).mono ?_
  rintro e w' ⟨rfl, rfl⟩
  go_wp2_with fail
  refine (make_is k n _ _ s _ _ hk0 hk1 hn0 hn1 hc HN.out HS.out).mono ?_
  rintro e w' ⟨rfl, rfl⟩
  go_wp2_with fail
  refine (object_any _ _).mono ?_
  rintro e w' ⟨rfl, rfl⟩
  go_wp2_with fail
  refine (true_bool _ _ _).mono ?_
  rintro e w' ⟨rfl, rfl⟩
  go_wp2_with fail
  refine (key_any _ _ _ _).mono ?_
  rintro e w' ⟨rfl, rfl⟩
  go_wp2_with fail
  refine (true_other _ _ _ _ (by decide) (by decide)).mono ?_
  rintro e w' ⟨rfl, rfl⟩
  go_wp2_with fail
  refine (key_any _ _ _ _).mono ?_
  rintro e w' ⟨rfl, rfl⟩
  go_wp2
  go_ret
  exact ⟨rfl, by repeat (first | exact Below.refl _ _ | (refine Below.alloc ?_ (by simp <;> omega) _))⟩
set_option maxHeartbeats 1000000 in
theorem asks_2 (k n : Int) (s : ByteArray) (r : Int) (w : World) (hk0 : 0 ≤ k) (hk1 : k ≤ 255) (hn0 : -9223372036854775808 ≤ n) (hn1 : n ≤ 9223372036854775807) (hc : k % 5 = 2) :
    Calls Try.prog 4 #[.agg #[.int .u8 k, .int .i64 n, .string s], .int .u64 r] w fun e w' => e = .returned (.bool true) ∧ Below w.heap.size w w' := by
  have e1 : mkN k n = n := by simp [mkN, hc]
  have e2 : mkS k s = { data := #[] } := by simp [mkS, hc]
  have HN : Hid (mkN k n = n) := e1
  have HS : Hid (mkS k s = { data := #[] }) := e2
  clear e1 e2
  go_enter Try.func4, Try.ntmps4
  go_wp2_with fail
  refine (awake_any _).mono ?_
  rintro e w' ⟨rfl, rfl⟩
  go_wp2_with fail
  refine (make_is k n _ _ s _ _ hk0 hk1 hn0 hn1 hc HN.out HS.out).mono ?_
  rintro e w' ⟨rfl, rfl⟩
  go_wp2_with fail
  refine (object_any _ _).mono ?_
  rintro e w' ⟨rfl, rfl⟩
  go_wp2_with fail
  refine (true_other _ _ _ _ (by decide) (by decide)).mono ?_
  rintro e w' ⟨rfl, rfl⟩
  go_wp2_with fail
  refine (key_any _ _ _ _).mono ?_
  rintro e w' ⟨rfl, rfl⟩
  go_wp2_with fail
  refine (true_other _ _ _ _ (by decide) (by decide)).mono ?_
  rintro e w' ⟨rfl, rfl⟩
  go_wp2_with fail
  refine (key_any _ _ _ _).mono ?_
  rintro e w' ⟨rfl, rfl⟩
  go_wp2
  go_ret
  exact ⟨rfl, by repeat (first | exact Below.refl _ _ | (refine Below.alloc ?_ (by simp <;> omega) _))⟩
set_option maxHeartbeats 1000000 in
theorem asks_3 (k n : Int) (s : ByteArray) (r : Int) (w : World) (hk0 : 0 ≤ k) (hk1 : k ≤ 255) (hn0 : -9223372036854775808 ≤ n) (hn1 : n ≤ 9223372036854775807) (hc : k % 5 = 3) :
    Calls Try.prog 4 #[.agg #[.int .u8 k, .int .i64 n, .string s], .int .u64 r] w fun e w' => e = .returned (.bool true) ∧ Below w.heap.size w w' := by
  have e1 : mkN k n = 0 := by simp [mkN, hc]
  have e2 : mkS k s = s := by simp [mkS, hc]
  have HN : Hid (mkN k n = 0) := e1
  have HS : Hid (mkS k s = s) := e2
  clear e1 e2
  go_enter Try.func4, Try.ntmps4
  go_wp2_with fail
  refine (awake_any _).mono ?_
  rintro e w' ⟨rfl, rfl⟩
  go_wp2_with fail
  refine (make_is k n _ _ s _ _ hk0 hk1 hn0 hn1 hc HN.out HS.out).mono ?_
  rintro e w' ⟨rfl, rfl⟩
  go_wp2_with fail
  refine (object_any _ _).mono ?_
  rintro e w' ⟨rfl, rfl⟩
  go_wp2_with fail
  refine (true_other _ _ _ _ (by decide) (by decide)).mono ?_
  rintro e w' ⟨rfl, rfl⟩
  go_wp2_with fail
  refine (key_any _ _ _ _).mono ?_
  rintro e w' ⟨rfl, rfl⟩
  go_wp2_with fail
  refine (true_other _ _ _ _ (by decide) (by decide)).mono ?_
  rintro e w' ⟨rfl, rfl⟩
  go_wp2_with fail
  refine (key_any _ _ _ _).mono ?_
  rintro e w' ⟨rfl, rfl⟩
  go_wp2
  go_ret
  exact ⟨rfl, by repeat (first | exact Below.refl _ _ | (refine Below.alloc ?_ (by simp <;> omega) _))⟩
set_option maxHeartbeats 1000000 in
theorem asks_4 (k n : Int) (s : ByteArray) (r : Int) (w : World) (hk0 : 0 ≤ k) (hk1 : k ≤ 255) (hn0 : -9223372036854775808 ≤ n) (hn1 : n ≤ 9223372036854775807) (hc : k % 5 = 4) :
    Calls Try.prog 4 #[.agg #[.int .u8 k, .int .i64 n, .string s], .int .u64 r] w fun e w' => e = .returned (.bool true) ∧ Below w.heap.size w w' := by
  have e1 : mkN k n = (wrap64 (n.tmod 6 + 6)).tmod 6 := by simp [mkN, hc]
  have e2 : mkS k s = { data := #[] } := by simp [mkS, hc]
  have HN : Hid (mkN k n = (wrap64 (n.tmod 6 + 6)).tmod 6) := e1
  have HS : Hid (mkS k s = { data := #[] }) := e2
  clear e1 e2
  go_enter Try.func4, Try.ntmps4
  go_wp2_with fail
  refine (awake_any _).mono ?_
  rintro e w' ⟨rfl, rfl⟩
  go_wp2_with fail
  refine (make_is k n _ _ s _ _ hk0 hk1 hn0 hn1 hc HN.out HS.out).mono ?_
  rintro e w' ⟨rfl, rfl⟩
  go_wp2_with fail
  refine (object_any _ _).mono ?_
  rintro e w' ⟨rfl, rfl⟩
  go_wp2_with fail
  refine (true_other _ _ _ _ (by decide) (by decide)).mono ?_
  rintro e w' ⟨rfl, rfl⟩
  go_wp2_with fail
  refine (key_any _ _ _ _).mono ?_
  rintro e w' ⟨rfl, rfl⟩
  go_wp2_with fail
  refine (true_other _ _ _ _ (by decide) (by decide)).mono ?_
  rintro e w' ⟨rfl, rfl⟩
  go_wp2_with fail
  refine (key_any _ _ _ _).mono ?_
  rintro e w' ⟨rfl, rfl⟩
  go_wp2
  go_ret
  exact ⟨rfl, by repeat (first | exact Below.refl _ _ | (refine Below.alloc ?_ (by simp <;> omega) _))⟩
theorem asks_any (k n : Int) (s : ByteArray) (r : Int) (w : World) (hk0 : 0 ≤ k) (hk1 : k ≤ 255) (hn0 : -9223372036854775808 ≤ n) (hn1 : n ≤ 9223372036854775807) :
    Calls Try.prog 4 #[.agg #[.int .u8 k, .int .i64 n, .string s], .int .u64 r] w fun e w' => e = .returned (.bool true) ∧ Below w.heap.size w w' := by
  have hc : k % 5 = 0 ∨ k % 5 = 1 ∨ k % 5 = 2 ∨ k % 5 = 3 ∨ k % 5 = 4 := by omega
  rcases hc with hc | hc | hc | hc | hc
  · exact asks_0 k n s r w hk0 hk1 hn0 hn1 hc
  · rcases and_bit n with hb | hb
    · exact asks_1f k n s r w hk0 hk1 hn0 hn1 hc hb
    · exact asks_1t k n s r w hk0 hk1 hn0 hn1 hc hb
  · exact asks_2 k n s r w hk0 hk1 hn0 hn1 hc
  · exact asks_3 k n s r w hk0 hk1 hn0 hn1 hc
  · exact asks_4 k n s r w hk0 hk1 hn0 hn1 hc
end Go.Proofs.Ytgdjdbbjfnhdeaa

/-
  A step of ArenaPlays whatever it is, and the walk of the law (promises P3.1, P3.2): it returns true for every slice of steps, and writes nothing that was there before the call.
  Conditions: the steps' numbers fit their kinds.
-/
import Derived.Test.YtbbmcggalffecaaPlaysDo1
namespace Go.Proofs.Ytbbmcggalffecaa
open Go.ChangeShapes Go.WideShapes Go.ChangeAt Go.RowKit
set_option linter.unusedVariables false
theorem wrap_i8 (n : Int) (h0 : -128 ≤ n) (h1 : n ≤ 127) : IntKind.i64.wrap n = n := by simp [IntKind.wrap, IntKind.bits, IntKind.signed]; omega
theorem wrap_u8 (n : Int) (h0 : 0 ≤ n) (h1 : n ≤ 255) : IntKind.i64.wrap n = n := by simp [IntKind.wrap, IntKind.bits, IntKind.signed]; omega
theorem do_any {base ab mb k : Nat} {w : World} {s : St} {qs : List Int} {L : List Lv} {G : List (Nat × Nat)} (hA : Arn base ab w s) (hM : MI base mb w qs L G) (hS : PS s qs L G k) (hk : k ≤ 1000) (hbw : base ≤ w.heap.size) (d a b n : Int) (hd0 : 0 ≤ d) (hd1 : d ≤ 255) (ha0 : 0 ≤ a) (ha1 : a ≤ 255) (hB0 : 0 ≤ b) (hB1 : b ≤ 255) (hn0 : -128 ≤ n) (hn1 : n ≤ 127) :
    Calls Try.prog 11 #[.pointer (some ⟨mb, 0, none⟩), .pointer (some ⟨ab, 0, none⟩), .agg #[.int .u8 d, .int .u8 a, .int .u8 b, .int .i8 n]] w fun e w' => e = .returned (.bool true) ∧ PO base ab mb (k + 1) w w' := by
  have hw := wrap_i8 n hn0 hn1
  have hw2 : wrap64 n = n := by rw [← IntWalk.i64_left]; exact hw
  have hwa := wrap_u8 a ha0 ha1
  rcases (show d % 4 = 0 ∨ d % 4 = 1 ∨ d % 4 = 2 ∨ d % 4 = 3 from by omega) with hd | hd | hd | hd
  · by_cases hq : 5 < qs.length
    · exact do_0full hA hM hS d a b n hd hd0 hd1 hbw hq
    · have e1 : 0 ≤ n → n.tmod 12 = n % 12 := fun h => Int.tmod_eq_emod_of_nonneg h
      have e2 := Int.tmod_lt_of_pos n (show (0 : Int) < 12 by decide)
      have e3 : n < 0 → n.tmod 12 ≤ 0 := fun h => by
        have h2 := Int.neg_tmod (a := n) (b := 12)
        have h3 : (-n).tmod 12 = (-n) % 12 := Int.tmod_eq_emod_of_nonneg (by omega)
        omega
      refine do_0 hA hM hS d a b n ((max n 0) % 12) (n.tmod 12) hd hd0 hd1 hbw (by omega) ?_ (by rw [hw]) ?_ (by omega) (by omega)
      · rw [hw]
        exact Int.tmod_eq_emod_of_nonneg (by omega)
      · by_cases h : 0 ≤ n
        · rw [e1 h]; omega
        · have := e3 (by omega); omega
  · by_cases hx : a % 8 = 0 ∨ (0 < a % 8 ∧ (qs.length : Int) < a % 8)
    · exact do_1no hA hM hS d a b n hd hd0 hd1 ha0 ha1 hB0 hB1 hbw hk hx
    · obtain ⟨i, hi⟩ : ∃ i : Nat, a % 8 - 1 = (i : Int) := ⟨(a % 8 - 1).toNat, by omega⟩
      obtain ⟨q, hq⟩ : ∃ q, qs[i]? = some q := ⟨_, List.getElem?_eq_getElem (by omega)⟩
      by_cases hc : q ≤ (cntO L i : Int)
      · exact do_1full hA hM hS d a b n hd hd0 hd1 ha0 ha1 hB0 hB1 hbw hk i q hi hq hc
      · exact do_1 hA hM hS d a b n hd hd0 hd1 ha0 ha1 hB0 hB1 hbw hk i q hi hq (by omega) (by omega) (by omega)
  · by_cases hL : L.length = 0 ∨ (0 < L.length ∧ b % 5 = 0)
    · exact do_2not hA hM hS d a b n hd hd0 hd1 ha0 ha1 hB0 hB1 hbw hk hL
    · have hpos : (0 : Int) < (L.length : Int) := by omega
      have h1 := Int.emod_lt_of_pos a hpos
      have h2 := Int.emod_nonneg a (show (L.length : Int) ≠ 0 by omega)
      have h3 : a.tmod (L.length : Int) = a % (L.length : Int) := Int.tmod_eq_emod_of_nonneg ha0
      refine do_2 hA hM hS d a b n hd hd0 hd1 (by omega) hbw hk (a % (L.length : Int)).toNat (by omega) ?_ hB0 hB1
      rw [hwa, h3]
      omega
  · by_cases hL : L.length = 0
    · exact do_3none hA hM hS d a b n hd hd0 hd1 hbw hL
    · have hpos : (0 : Int) < (L.length : Int) := by omega
      have h1 := Int.emod_lt_of_pos a hpos
      have h2 := Int.emod_nonneg a (show (L.length : Int) ≠ 0 by omega)
      have h3 : a.tmod (L.length : Int) = a % (L.length : Int) := Int.tmod_eq_emod_of_nonneg ha0
      refine do_3 hA hM hS d a b n hd hd0 hd1 hbw hk (a % (L.length : Int)).toNat (by omega) ?_ (by omega) (by omega)
      rw [hwa, h3]
      omega
theorem MI.made {base : Nat} (w : World) (h : base ≤ w.heap.size) : MI base w.heap.size (w.alloc (.cells #[.slice none 0 0, .slice none 0 0, .slice none 0 0, .slice none 0 0, .slice none 0 0] 31)) [] [] [] :=
  ⟨h, _, _, _, _, _, heap_alloc_new w _, World.ownsRow_nil _ _ _ _, World.ownsRow_nil _ _ _ _, World.ownsRow_nil _ _ _ _, World.ownsRow_nil _ _ _ _, World.ownsRow_nil _ _ _ _, .inl rfl, .inl rfl⟩
theorem PS.start : PS ⟨[], [], []⟩ [] [] [] 0 :=
  ⟨⟨by simp, by simp, by simp, by simp, by simp, by simp, by simp⟩, rfl, by simp, by simp, by simp, by simp, by simp, Nat.le_refl _, Nat.le_refl _, by simp, Nat.le_refl _, by simp, Nat.le_refl _, by simp⟩
theorem plays_long (a : Option Addr) (len cap : Nat) (w : World) (hl : 120 < len) (hm : len ≤ maxLen) :
    Calls Try.prog 3 #[.slice a len cap] w fun e w' => e = .returned (.bool true) ∧ Below w.heap.size w w' := by
  unfold maxLen at hm
  go_enter Try.func3, Try.ntmps3
  go_wp2_with (go_at_call 9; refine (awake3 _).mono ?_; rintro e w1 ⟨rfl, B1⟩)
  go_ret
  exact ⟨rfl, B1⟩
theorem plays_none (a : Option Addr) (cap : Nat) (w : World) :
    Calls Try.prog 3 #[.slice a 0 cap] w fun e w' => e = .returned (.bool true) ∧ Below w.heap.size w w' := by
  go_enter Try.func3, Try.ntmps3
  go_wp2_with fail
  refine (awake3 _).mono ?_
  rintro e w1 ⟨rfl, B1⟩
  go_wp2_with fail
  refine (new_any _).mono ?_
  rintro e w2 ⟨rfl, hw2⟩
  have B2 : Below w.heap.size w w2 := by rw [hw2]; exact B1.alloc B1.size _
  have B3 := B2.alloc B2.size (.cells #[.slice none 0 0, .slice none 0 0, .slice none 0 0, .slice none 0 0, .slice none 0 0] 31)
  clear hw2 B1 B2
  go_wp2_with fail
  refine wp_loop_rounds 1 ?_
  rw [rounds_succ]
  go_wp2
  go_ret
  exact ⟨rfl, B3⟩
set_option maxHeartbeats 2000000 in
theorem plays_any (b off len cap : Nat) (ds as1 bs ns : Nat → Int) (w : World) (hm : len ≤ 120) (hlc : len ≤ cap) (hcm : cap ≤ maxLen) (hbw : b < w.heap.size)
    (hcell : ∀ j, j < len → w.cell? ⟨b, off + j * 4, none⟩ = some (.int .u8 (ds j)) ∧ w.cell? ⟨b, off + j * 4 + 1, none⟩ = some (.int .u8 (as1 j)) ∧ w.cell? ⟨b, off + j * 4 + 2, none⟩ = some (.int .u8 (bs j)) ∧ w.cell? ⟨b, off + j * 4 + 3, none⟩ = some (.int .i8 (ns j)))
    (hd : ∀ j, j < len → (0 ≤ ds j ∧ ds j ≤ 255) ∧ (0 ≤ as1 j ∧ as1 j ≤ 255) ∧ (0 ≤ bs j ∧ bs j ≤ 255) ∧ (-128 ≤ ns j ∧ ns j ≤ 127)) :
    Calls Try.prog 3 #[.slice (some ⟨b, off, none⟩) len cap] w fun e w' => e = .returned (.bool true) ∧ Below w.heap.size w w' := by
  have hd120 : decide ((120 : Int) < (len : Int)) = false := by simp; omega
  unfold maxLen at hcm
  go_enter Try.func3, Try.ntmps3
  go_wp2_with fail
  refine (awake3 _).mono ?_
  rintro e w1 ⟨rfl, B1⟩
  go_wp2_with fail
  refine (new_any _).mono ?_
  rintro e w2 ⟨rfl, hw2⟩
  have A2 : Arn w.heap.size w1.heap.size w2 ⟨[], [], []⟩ := by rw [hw2]; exact Arn.made w1 B1.size
  have B2 : Below w.heap.size w w2 := by rw [hw2]; exact B1.alloc B1.size _
  have A3 := A2.alloc (.cells #[.slice none 0 0, .slice none 0 0, .slice none 0 0, .slice none 0 0, .slice none 0 0] 31)
  have M3 := MI.made w2 B2.size
  have B3 := B2.alloc B2.size (.cells #[.slice none 0 0, .slice none 0 0, .slice none 0 0, .slice none 0 0, .slice none 0 0] 31)
  clear hw2 B1 A2 B2
  generalize w1.heap.size = ab at *
  go_wp2_with fail
  generalize w2.alloc (.cells #[.slice none 0 0, .slice none 0 0, .slice none 0 0, .slice none 0 0, .slice none 0 0] 31) = w3 at *
  generalize w2.heap.size = mb at *
  go_loopw [17] (fun i wr => ∃ k : Nat, k ≤ len ∧ i = .int .i64 k ∧ (∃ s qs L G, Arn w.heap.size ab wr s ∧ MI w.heap.size mb wr qs L G ∧ PS s qs L G k) ∧ Below w.heap.size w wr) (fun i _ => len - (intOf i).toNat)
  case atStart => exact ⟨0, by omega, rfl, ⟨_, _, _, _, A3, M3, PS.start⟩, B3⟩
  case round =>
    obtain ⟨k, hk, rfl, ⟨s, qs, L, G, A, M, S⟩, hnx⟩ := hrel
    by_cases hkl : k < len
    · obtain ⟨e0, e1, e2, e3⟩ := hcell k hkl
      obtain ⟨⟨d0, d1⟩, ⟨d2, d3⟩, ⟨d4, d5⟩, d6, d7⟩ := hd k hkl
      have f0 := (hnx.cell (p := ⟨b, off + k * 4, none⟩) hbw).trans e0
      have f1 := (hnx.cell (p := ⟨b, off + k * 4 + 1, none⟩) hbw).trans e1
      have f2 := (hnx.cell (p := ⟨b, off + k * 4 + 2, none⟩) hbw).trans e2
      have f3 := (hnx.cell (p := ⟨b, off + k * 4 + 3, none⟩) hbw).trans e3
      generalize ds k = d at *
      generalize as1 k = a at *
      generalize bs k = bb at *
      generalize ns k = n at *
      clear e0 e1 e2 e3 hcell hd A3 M3 B3
      have A4 := A.alloc (.cells #[.int .u8 d, .int .u8 a, .int .u8 bb, .int .i8 n] 34)
      have M4 := M.below ((Below.refl _ wr).alloc (Nat.le_refl _) (.cells #[.int .u8 d, .int .u8 a, .int .u8 bb, .int .i8 n] 34))
      have B4 := hnx.alloc hnx.size (.cells #[.int .u8 d, .int .u8 a, .int .u8 bb, .int .i8 n] 34)
      go_wp2_with fail
      refine (do_any A4 M4 S (by omega) B4.size d a bb n d0 d1 d2 d3 d4 d5 d6 d7).mono ?_
      rintro e w5 ⟨rfl, s5, qs5, L5, G5, A5, M5, S5, B5⟩
      have B6 := B4.trans B5
      clear A4 M4 B4 B5 A M S hnx f0 f1 f2 f3
      go_wp2_with fail
      refine (is_any A5 M5 S5 (by omega)).mono ?_
      rintro e w6 ⟨rfl, B7⟩
      have A6 := A5.kept (w' := w6) (fun q cs t hq _ => B7.block q (lt_of_block hq))
      have M6 := M5.below B7
      have B8 := B6.trans (B7.mono B6.size)
      clear A5 M5 B6 B7
      go_wp2
      go_roundw
      case rel => exact ⟨k + 1, by omega, by go_num, ⟨_, _, _, _, A6, M6, S5⟩, B8⟩
      case measure => simp [intOf]; omega
    · have hkl2 : decide ((k : Int) < (len : Int)) = false := by simp; omega
      clear A M S hcell hd
      go_wp2
      go_ret
      exact ⟨rfl, hnx⟩
end Go.Proofs.Ytbbmcggalffecaa

/-
  The contract of M.Do, a step of kind 1 that the arena refuses.
  Conditions: as each theorem says.
-/
import Derived.Test.YtbbmcggalffecaaPlaysDo2a
namespace Go.Proofs.Ytbbmcggalffecaa
open Go.ChangeShapes Go.WideShapes Go.ChangeAt Go.RowKit
set_option linter.unusedVariables false
set_option maxRecDepth 100000 in
set_option maxHeartbeats 4000000 in
/-- Put for an owner that there isn't. -/
theorem do_1no {base ab mb k : Nat} {w : World} {s : St} {qs : List Int} {L : List Lv} {G : List (Nat × Nat)} (hA : Arn base ab w s) (hM : MI base mb w qs L G) (hS : PS s qs L G k) (d a b n : Int) (hd : d % 4 = 1) (hd0 : 0 ≤ d) (hd1 : d ≤ 255) (ha0 : 0 ≤ a) (ha1 : a ≤ 255) (hB0 : 0 ≤ b) (hB1 : b ≤ 255) (hbw : base ≤ w.heap.size) (hk : k ≤ 1000) (hx : a % 8 = 0 ∨ (0 < a % 8 ∧ (qs.length : Int) < a % 8)) :
    Calls Try.prog 11 #[.pointer (some ⟨mb, 0, none⟩), .pointer (some ⟨ab, 0, none⟩), .agg #[.int .u8 d, .int .u8 a, .int .u8 b, .int .i8 n]] w fun e w' => e = .returned (.bool true) ∧ PO base ab mb (k + 1) w w' := by
  have hb0 : (d % 4 == 0) = false := by rw [hd]; rfl
  have hb1 : (d % 4 == 1) = true := by rw [hd]; rfl
  have hM1 := hM.below ((Below.refl _ w).alloc (Nat.le_refl _) (.cells #[.int .u8 d, .int .u8 a, .int .u8 b, .int .i8 n] 34))
  have hA1 := hA.alloc (.cells #[.int .u8 d, .int .u8 a, .int .u8 b, .int .i8 n] 34)
  have s0 := heap_alloc_new w (.cells #[.int .u8 d, .int .u8 a, .int .u8 b, .int .i8 n] 34)
  have B1 : Below base w (w.alloc (.cells #[.int .u8 d, .int .u8 a, .int .u8 b, .int .i8 n] 34)) := (Below.refl _ _).alloc hbw _
  obtain ⟨s1, s2, s3, s4, sf⟩ := four s0
  have hbw1 : base ≤ (w.alloc (.cells #[.int .u8 d, .int .u8 a, .int .u8 b, .int .i8 n] 34)).heap.size := Nat.le_trans hbw B1.size
  have HN : Hid (ownB (a % 8 - 1) s.accs.length = false) := by show ownB _ _ = false; unfold ownB; rw [hS.al]; simp; omega
  have hx2 : (decide (a % 8 - 1 < 0)) = true ∨ ((decide (a % 8 - 1 < 0)) = false ∧ decide ((qs.length : Int) ≤ a % 8 - 1) = true) := by
    rcases hx with h | ⟨h1, h2⟩
    · left; simp; omega
    · right; simp; omega
  have HX : Hid ((decide (a % 8 - 1 < 0)) = true ∨ ((decide (a % 8 - 1 < 0)) = false ∧ decide ((qs.length : Int) ≤ a % 8 - 1) = true)) := hx2
  have HS : Hid (PS s qs L G k) := hS
  clear hd hA s1 hx hx2 hM hS
  go_enter Try.func11, Try.ntmps11
  go_wp2_with fail
  refine (put_no hA1 (b % 8) (a % 8 - 1) (wrap64 n) 0 hbw1 HN.out).mono ?_
  rintro e w2 ⟨rfl, hA2, F2⟩
  have R2 : PO base ab mb (k + 1) w w2 := ⟨s, qs, L, G, hA2, hM1.fr F2 rfl rfl rfl rfl, HS.out.more, B1.trans (F2.below hbw1)⟩
  obtain ⟨vq, vr, vo, vm, vg, m0, m1, m2, m3, m4, m5, m6, m7⟩ := (hM1.fr F2 rfl rfl rfl rfl).rows
  obtain ⟨c0, c1, c2, c3, c4, cf⟩ := five m0
  obtain ⟨aq, cq, hvq, hq1, hq2⟩ := row_shape m1
  rw [hvq] at c0
  unfold maxLen at hq2
  clear hA1 hA2 F2 hM1 m0 m1 m2 m3 m4 m5 m6 m7 c1 c2 c3 c4 s0 s2 s3 s4 sf B1 hbw1
  rcases HX.out with h1 | ⟨h1, h2⟩
  · have hlt : a % 8 - 1 < 0 := by simpa using h1
    go_wp2
    go_ret
    exact ⟨rfl, R2⟩
  · have hlt : ¬ (a % 8 - 1 < 0) := by simpa using h1
    have hge : (qs.length : Int) ≤ a % 8 - 1 := by simpa using h2
    go_wp2
    go_ret
    exact ⟨rfl, R2⟩
set_option maxRecDepth 100000 in
set_option maxHeartbeats 4000000 in
/-- Put for an owner who has as much as his quota. -/
theorem do_1full {base ab mb k : Nat} {w : World} {s : St} {qs : List Int} {L : List Lv} {G : List (Nat × Nat)} (hA : Arn base ab w s) (hM : MI base mb w qs L G) (hS : PS s qs L G k) (d a b n : Int) (hd : d % 4 = 1) (hd0 : 0 ≤ d) (hd1 : d ≤ 255) (ha0 : 0 ≤ a) (ha1 : a ≤ 255) (hB0 : 0 ≤ b) (hB1 : b ≤ 255) (hbw : base ≤ w.heap.size) (hk : k ≤ 1000) (i : Nat) (q : Int) (hi : a % 8 - 1 = (i : Int)) (hq : qs[i]? = some q) (hc : q ≤ (cntO L i : Int)) :
    Calls Try.prog 11 #[.pointer (some ⟨mb, 0, none⟩), .pointer (some ⟨ab, 0, none⟩), .agg #[.int .u8 d, .int .u8 a, .int .u8 b, .int .i8 n]] w fun e w' => e = .returned (.bool true) ∧ PO base ab mb (k + 1) w w' := by
  have hb0 : (d % 4 == 0) = false := by rw [hd]; rfl
  have hb1 : (d % 4 == 1) = true := by rw [hd]; rfl
  have hM1 := hM.below ((Below.refl _ w).alloc (Nat.le_refl _) (.cells #[.int .u8 d, .int .u8 a, .int .u8 b, .int .i8 n] 34))
  have hA1 := hA.alloc (.cells #[.int .u8 d, .int .u8 a, .int .u8 b, .int .i8 n] 34)
  have s0 := heap_alloc_new w (.cells #[.int .u8 d, .int .u8 a, .int .u8 b, .int .i8 n] 34)
  have B1 : Below base w (w.alloc (.cells #[.int .u8 d, .int .u8 a, .int .u8 b, .int .i8 n] 34)) := (Below.refl _ _).alloc hbw _
  obtain ⟨s1, s2, s3, s4, sf⟩ := four s0
  have hbw1 : base ≤ (w.alloc (.cells #[.int .u8 d, .int .u8 a, .int .u8 b, .int .i8 n] 34)).heap.size := Nat.le_trans hbw B1.size
  have hil := lt_of_get hq
  have hqq : (cntO L i : Int) = q := Int.le_antisymm (hS.many i q hq) hc
  have HP : Hid (s.accs[i]? = some (q, q)) := by
    show s.accs[i]? = some (q, q)
    rw [hS.accs i q hq, hqq]
  have HI : Hid (a % 8 - 1 = (i : Int)) := hi
  have HQ : Hid (qs[i]? = some q) := hq
  have HQQ : Hid ((cntO L i : Int) = q) := hqq
  have hle : (owL L).length ≤ 1000000 := by have := hS.le; simp [owL]; omega
  have HS : Hid (PS s qs L G k) := hS
  clear hd hA s1 hM hS hq hqq hc hi
  go_enter Try.func11, Try.ntmps11
  go_wp2_with fail
  refine (put_full hA1 (b % 8) (a % 8 - 1) (wrap64 n) 0 hbw1 i HI.out.symm HP.out).mono ?_
  rintro e w2 ⟨rfl, hA2, F2⟩
  have R2 : PO base ab mb (k + 1) w w2 := ⟨s, qs, L, G, hA2, hM1.fr F2 rfl rfl rfl rfl, HS.out.more, B1.trans (F2.below hbw1)⟩
  obtain ⟨vq, vr, vo, vm, vg, m0, m1, m2, m3, m4, m5, m6, m7⟩ := (hM1.fr F2 rfl rfl rfl rfl).rows
  have HMa : Hid (∀ m, Calls Try.prog 29 #[.pointer (some ⟨mb, 0, none⟩), .int .i64 (i : Int)] (w2.drewN m) fun e w' => e = .returned (.int .i64 q) ∧ w' = w2.drewN m) := by
    show ∀ m, Calls Try.prog 29 _ _ _
    intro m
    rw [← HQQ.out]
    exact many_cnt (w := w2.drewN m) m0 (row_below m3 (below_drewN (Below.refl _ _) m)) hle i
  obtain ⟨c0, c1, c2, c3, c4, cf⟩ := five m0
  obtain ⟨gq, cq, _, hvq, hq1, hq2, hq3, hq4⟩ := row_at m1 (by omega)
  rw [hvq] at c0 m1
  unfold maxLen at hq2
  have e0 := (m1.cellAt i (by omega)).trans (by simp [HQ.out] : _ = some (.int .i64 q))
  have hidx : 0 ≤ (i : Int) ∧ (i : Int) < (qs.length : Int) := ⟨by omega, by omega⟩
  clear hA1 hA2 F2 hM1 m0 m1 m2 m3 m4 m5 m6 m7 c1 c2 c3 c4 s0 s2 s3 s4 sf B1 hbw1 hq4
  rw [HI.out]
  have hlt : ¬ ((i : Int) < 0) := by omega
  have hge : ¬ ((qs.length : Int) ≤ (i : Int)) := by omega
  have hqq : q ≤ q := Int.le_refl _
  go_wp2_with fail
  go_quiet ((go_at_call 29; exact Calls.quiet_of_same (HMa.out _)))
  have R3 := R2.drewN nq
  clear R2
  go_wp2
  go_ret
  exact ⟨rfl, R3⟩
end Go.Proofs.Ytbbmcggalffecaa

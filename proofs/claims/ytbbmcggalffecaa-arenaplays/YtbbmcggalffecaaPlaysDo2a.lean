/-
  The contract of M.Do, a step of kind 2 that drops a Ref which isn't there.
  Conditions: as each theorem says.
-/
import Derived.Test.YtbbmcggalffecaaPlaysDo3
namespace Go.Proofs.Ytbbmcggalffecaa
open Go.ChangeShapes Go.WideShapes Go.ChangeAt Go.RowKit
set_option linter.unusedVariables false
theorem look_not {s : St} {L : List Lv} (h : Live s L) {r : Int} (hr0 : 0 ≤ r) (hc : (refL L).contains r = false) : look s.slots r = none := by
  rw [look]
  cases hs : s.slots[(r % 4294967296).toNat]? with
  | none => rfl
  | some sl =>
    simp only
    split
    · rename_i hu
      cases ho : sl.obj with
      | none => rfl
      | some x =>
        exfalso
        obtain ⟨p, hp, e⟩ := h.all _ sl x hs ho
        obtain ⟨b, k, hb⟩ := h.at_ p hp
        rw [e, hs] at hb
        simp at hb
        have hm : r ∈ refL L := List.mem_map.2 ⟨p, hp, by subst hb; simp only at hu; unfold refN; omega⟩
        rw [← List.contains_iff_mem] at hm
        rw [hm] at hc
        cases hc
    · rfl
theorem PO.drewN {base ab mb k : Nat} {w w' : World} (h : PO base ab mb k w w') (n : Nat) : PO base ab mb k w (w'.drewN n) := by
  obtain ⟨s, qs, L, G, h1, h2, h3, h4⟩ := h
  exact ⟨s, qs, L, G, h1.drewN n, h2.below (below_drewN (Below.refl _ _) n), h3, below_drewN h4 n⟩
set_option maxRecDepth 100000 in
set_option maxHeartbeats 4000000 in
/-- A Ref that isn't there is dropped. -/
theorem do_2not {base ab mb k : Nat} {w : World} {s : St} {qs : List Int} {L : List Lv} {G : List (Nat × Nat)} (hA : Arn base ab w s) (hM : MI base mb w qs L G) (hS : PS s qs L G k) (d a b n : Int) (hd : d % 4 = 2) (hd0 : 0 ≤ d) (hd1 : d ≤ 255) (ha0 : 0 ≤ a) (ha1 : a ≤ 255) (hB0 : 0 ≤ b) (hB1 : b ≤ 255) (hbw : base ≤ w.heap.size) (hk : k ≤ 1000) (hL : L.length = 0 ∨ (0 < L.length ∧ b % 5 = 0)) :
    Calls Try.prog 11 #[.pointer (some ⟨mb, 0, none⟩), .pointer (some ⟨ab, 0, none⟩), .agg #[.int .u8 d, .int .u8 a, .int .u8 b, .int .i8 n]] w fun e w' => e = .returned (.bool true) ∧ PO base ab mb (k + 1) w w' := by
  have hb0 : (d % 4 == 0) = false := by rw [hd]; rfl
  have hb1 : (d % 4 == 1) = false := by rw [hd]; rfl
  have hb2 : (d % 4 == 2) = true := by rw [hd]; rfl
  have hrl : (refL L).length = L.length := by simp [refL]
  have hle := hS.le
  have R0 : PO base ab mb (k + 1) w (w.alloc (.cells #[.int .u8 d, .int .u8 a, .int .u8 b, .int .i8 n] 34)) := ⟨s, qs, L, G, hA.alloc _, hM.below ((Below.refl _ _).alloc (Nat.le_refl _) _), hS.more, (Below.refl _ _).alloc hbw _⟩
  have hM1 := hM.below ((Below.refl _ w).alloc (Nat.le_refl _) (.cells #[.int .u8 d, .int .u8 a, .int .u8 b, .int .i8 n] 34))
  have hA1 := hA.alloc (.cells #[.int .u8 d, .int .u8 a, .int .u8 b, .int .i8 n] 34)
  have s0 := heap_alloc_new w (.cells #[.int .u8 d, .int .u8 a, .int .u8 b, .int .i8 n] 34)
  obtain ⟨s1, s2, s3, s4, sf⟩ := four s0
  obtain ⟨vq, vr, vo, vm, vg, m0, m1, m2, m3, m4, m5, m6, m7⟩ := hM1.rows
  obtain ⟨c0, c1, c2, c3, c4, cf⟩ := five m0
  obtain ⟨ar, cr, hvr, hr1, hr2⟩ := row_shape m2
  rw [hvr, hrl] at c1
  rw [hvr] at m2
  rw [hrl] at hr1
  unfold maxLen at hr2
  have HL : Hid (Live s L) := hS.live
  have hof := of_any a (b + 9) (by omega) (by omega) (by omega) (by omega)
  obtain ⟨r, hr⟩ : ∃ r, (b + 9) * 4294967296 + a = r := ⟨_, rfl⟩
  rw [hr] at hof
  have hr0 : 0 ≤ r ∧ r ≤ 18446744073709551615 := by omega
  have HO : Hid (∀ w, Calls Try.prog 31 #[.int .u32 a, .int .u32 (b + 9)] w fun e w' => e = .returned (.int .u64 r) ∧ w' = w) := hof
  have m2' : (w.alloc (.cells #[.int .u8 d, .int .u8 a, .int .u8 b, .int .i8 n] 34)).ownsRow base 51 1 (.slice ar L.length cr) (refL L).length ((refL L).map (Value.int .u64)) := by rw [← hrl]; exact m2
  clear hd hr hof m0 m1 m3 m4 m5 m6 m7 c0 c2 c3 c4 s1 s4 hM hA hM1 hS m2
  rcases hL with hL | ⟨hL, hb5⟩
  · rw [hL] at c1 m2'
    clear hL hle hrl
    go_enter Try.func11, Try.ntmps11
    go_wp2_with fail
    refine (HO.out _).mono ?_
    rintro e w2 ⟨rfl, rfl⟩
    go_wp2_with fail
    cases hcon : (refL L).contains r with
    | true =>
      refine (contains_row m2' r true hcon).mono ?_
      rintro e w2 ⟨rfl, rfl⟩
      go_wp2
      go_ret
      exact ⟨rfl, R0⟩
    | false =>
      refine (contains_row m2' r false hcon).mono ?_
      rintro e w2 ⟨rfl, rfl⟩
      go_wp2_with fail
      refine (drop_none hA1 r (by omega) (by omega) (look_not HL.out hr0.1 hcon)).mono ?_
      rintro e w2 ⟨rfl, q, hw2⟩
      have R1 := R0.drewN q
      rw [← hw2] at R1
      clear hw2
      go_wp2
      go_ret
      exact ⟨rfl, R1⟩
  · have hz : ((L.length : Int) == 0) = false := by rw [beq_eq_false_iff_ne]; omega
    have h5 : (b % 5 == 0) = true := by rw [hb5]; rfl
    clear hb5
    go_enter Try.func11, Try.ntmps11
    go_wp2_with fail
    refine (HO.out _).mono ?_
    rintro e w2 ⟨rfl, rfl⟩
    go_wp2_with fail
    cases hcon : (refL L).contains r with
    | true =>
      refine (contains_row m2' r true hcon).mono ?_
      rintro e w2 ⟨rfl, rfl⟩
      go_wp2
      go_ret
      exact ⟨rfl, R0⟩
    | false =>
      refine (contains_row m2' r false hcon).mono ?_
      rintro e w2 ⟨rfl, rfl⟩
      go_wp2_with fail
      refine (drop_none hA1 r (by omega) (by omega) (look_not HL.out hr0.1 hcon)).mono ?_
      rintro e w2 ⟨rfl, q, hw2⟩
      have R1 := R0.drewN q
      rw [← hw2] at R1
      clear hw2
      go_wp2
      go_ret
      exact ⟨rfl, R1⟩
end Go.Proofs.Ytbbmcggalffecaa

/-
  The contract of M.Do, a step of kind 1 that puts an object.
  Conditions: as each theorem says.
-/
import Derived.Test.YtbbmcggalffecaaPlaysNew
import Derived.Test.YtbbmcggalffecaaPlaysDo2
import Derived.Deep.DeepCutAuto
namespace Go.Proofs.Ytbbmcggalffecaa
open Go.ChangeShapes Go.WideShapes Go.ChangeAt Go.RowKit
set_option linter.unusedVariables false
def val22 (mb sb : Nat) (R i n : Int) (vr vo vm : Value) : Nat → Option Value
  | 0 => some (.pointer (some ⟨mb, 0, none⟩))
  | 1 => some (.pointer (some ⟨mb, 0, none⟩))
  | 2 => some (.pointer (some ⟨mb, 0, none⟩))
  | 3 => some (.pointer (some ⟨mb, 0, none⟩))
  | 4 => some (.pointer (some ⟨mb, 0, none⟩))
  | 5 => some (.pointer (some ⟨mb, 1, none⟩))
  | 6 => some (vr)
  | 7 => some (.int .u64 R)
  | 10 => some (.pointer (some ⟨mb, 0, none⟩))
  | 11 => some (.pointer (some ⟨mb, 0, none⟩))
  | 12 => some (.pointer (some ⟨mb, 2, none⟩))
  | 13 => some (vo)
  | 14 => some (.int .i64 i)
  | 17 => some (.pointer (some ⟨mb, 0, none⟩))
  | 18 => some (.pointer (some ⟨mb, 0, none⟩))
  | 19 => some (.pointer (some ⟨mb, 3, none⟩))
  | 20 => some (vm)
  | 21 => some (.pointer (some ⟨sb, 3, none⟩))
  | 22 => some (.int .i8 n)
  | 23 => some (.int .i64 (wrap64 n))
  | 26 => some (.pointer (some ⟨mb, 0, none⟩))
  | 27 => some (.pointer (some ⟨mb, 1, none⟩))
  | 29 => some (.pointer (some ⟨mb, 0, none⟩))
  | 30 => some (.pointer (some ⟨mb, 2, none⟩))
  | 32 => some (.pointer (some ⟨mb, 0, none⟩))
  | 33 => some (.pointer (some ⟨mb, 3, none⟩))
  | _ => none
theorem one_new {w : World} {b : Nat} {c : Value} {e : TypeId} (h : w.heap[b]? = some (.cells #[c] e (0, 0))) : ∀ (j : Nat) (u : Value), [c][j]? = some u → w.cell? ((⟨b, 0, none⟩ : Addr).add j) = some u := by
  intro j u hu
  cases j with
  | zero => simp at hu; subst hu; rw [show (⟨b, 0, none⟩ : Addr).add 0 = ⟨b, 0, none⟩ from rfl, cell_of_row _ _ _ _ _ _ h]; rfl
  | succ j => simp at hu
set_option maxRecDepth 100000 in
set_option maxHeartbeats 4000000 in
/-- Put, for an owner who has room. -/
theorem do_1 {base ab mb k : Nat} {w : World} {s : St} {qs : List Int} {L : List Lv} {G : List (Nat × Nat)} (hA : Arn base ab w s) (hM : MI base mb w qs L G) (hS : PS s qs L G k) (d a b n : Int) (hd : d % 4 = 1) (hd0 : 0 ≤ d) (hd1 : d ≤ 255) (ha0 : 0 ≤ a) (ha1 : a ≤ 255) (hB0 : 0 ≤ b) (hB1 : b ≤ 255) (hbw : base ≤ w.heap.size) (hk : k ≤ 1000) (i : Nat) (q : Int) (hi : a % 8 - 1 = (i : Int)) (hq : qs[i]? = some q) (hc : (cntO L i : Int) < q) (hn0 : -128 ≤ wrap64 n) (hn1 : wrap64 n ≤ 127) :
    Calls Try.prog 11 #[.pointer (some ⟨mb, 0, none⟩), .pointer (some ⟨ab, 0, none⟩), .agg #[.int .u8 d, .int .u8 a, .int .u8 b, .int .i8 n]] w fun e w' => e = .returned (.bool true) ∧ PO base ab mb (k + 1) w w' := by
  have hb0 : (d % 4 == 0) = false := by rw [hd]; rfl
  have hb1 : (d % 4 == 1) = true := by rw [hd]; rfl
  have hM1 := hM.below ((Below.refl _ w).alloc (Nat.le_refl _) (.cells #[.int .u8 d, .int .u8 a, .int .u8 b, .int .i8 n] 34))
  have hA1 := hA.alloc (.cells #[.int .u8 d, .int .u8 a, .int .u8 b, .int .i8 n] 34)
  have s0 := heap_alloc_new w (.cells #[.int .u8 d, .int .u8 a, .int .u8 b, .int .i8 n] 34)
  have B1 : Below base w (w.alloc (.cells #[.int .u8 d, .int .u8 a, .int .u8 b, .int .i8 n] 34)) := (Below.refl _ _).alloc hbw _
  obtain ⟨s1, s2, s3, s4, sf⟩ := four s0
  have hbw1 : base ≤ (w.alloc (.cells #[.int .u8 d, .int .u8 a, .int .u8 b, .int .i8 n] 34)).heap.size := Nat.le_trans hbw B1.size
  have hil := lt_of_get hq
  have hquo := hS.quo q (List.mem_of_getElem? hq)
  obtain ⟨nn, u, l, un, hf, _⟩ := hS.live.frees
  obtain ⟨b1, b2, b3, b4⟩ := Frees.bounds hS hf
  obtain ⟨P1, P2, P3⟩ := hS.put hk hf hq hc (w.alloc (.cells #[.int .u8 d, .int .u8 a, .int .u8 b, .int .i8 n] 34)).heap.size (b % 8) (wrap64 n) hn0 hn1 (fun j sl bb o e1 e2 => Nat.ne_of_lt (lt_of_block (hA1.objs j sl bb o e1 e2).2))
  have hsl := hS.sl
  have hun := hS.un
  have hle := hS.le
  have hgle := hS.gl
  have hrl : (refL L).length = L.length := by simp [refL]
  have hgl : (goneL G).length = G.length := by simp [goneL]
  have hol : (owL L).length ≤ 1000000 := by simp [owL]; omega
  obtain ⟨R, hRR⟩ : ∃ R, refN (u + 1) nn = R := ⟨_, rfl⟩
  have hR0 : 0 < R := by rw [← hRR]; unfold refN; omega
  rw [hRR] at P2 P3
  have hR1 : (R == 0) = false := by rw [beq_eq_false_iff_ne]; omega
  have HPu : Hid (∀ W, Arn base ab W s → base ≤ W.heap.size → Calls Try.prog 23 #[.pointer (some ⟨ab, 0, none⟩), .agg #[.int .u8 (b % 8), .int .i64 (a % 8 - 1), .bool false, .map none, .int .i64 (wrap64 n), .int .i64 0, .slice none 0 0, .int .u64 0, .int .u8 0, .int .i64 0, .string ⟨#[]⟩, .int .i64 0, .int .u64 0, .int .i64 0]] W
      fun e w' => e = .returned (.tuple #[.int .u64 R, .int .i64 0]) ∧ Arn base ab w' ⟨s.accs.set i ((cntO L i : Int) + 1, q), l.set nn ⟨u + 1, some (W.heap.size, ⟨b % 8, (i : Int), wrap64 n, 0⟩)⟩, un⟩ ∧ Fr isA base W w' ∧ W.heap.size < w'.heap.size) := by
    show ∀ W, Arn base ab W s → _
    intro W hW hWb
    have h := put_is hW (b % 8) (a % 8 - 1) (wrap64 n) 0 hWb i hi.symm (hS.accs i q hq) (by omega) hc (by omega) hf (by omega) (by omega) (by omega) R (by rw [← hRR]; unfold refN; omega)
    rw [hi] at h ⊢
    exact h
  have HI : Hid (a % 8 - 1 = (i : Int)) := hi
  have HQ : Hid (qs[i]? = some q) := hq
  have HS : Hid (PS ⟨s.accs.set i ((cntO L i : Int) + 1, q), l.set nn ⟨u + 1, some ((w.alloc (.cells #[.int .u8 d, .int .u8 a, .int .u8 b, .int .i8 n] 34)).heap.size, ⟨b % 8, (i : Int), wrap64 n, 0⟩)⟩, un⟩ qs (L ++ [⟨nn, u + 1, (i : Int), wrap64 n, 0⟩]) G (k + 1)) := P1
  have H2 : Hid ((refL L).contains R = false) := P2
  have H3 : Hid ((goneL G).contains R = false) := P3
  have HR : Hid (refN (u + 1) nn = R) := hRR
  clear hd hA s1 hM hS hq hi P1 P2 P3 hf hRR
  go_enter Try.func11, Try.ntmps11
  go_wp2_with fail
  refine (HPu.out _ hA1 hbw1).mono ?_
  rintro e w2 ⟨rfl, hA2, F2, hlt2⟩
  have hM2 := hM1.fr F2 rfl rfl rfl rfl
  have B2 := B1.trans (F2.below hbw1)
  have t0 := F2.block s0 rfl
  have hbw2 := Nat.le_trans hbw1 F2.size
  obtain ⟨vq, vr, vo, vm, vg, m0, m1, m2, m3, m4, m5, m6, m7⟩ := hM2.rows
  have HMa : Hid (∀ m, Calls Try.prog 29 #[.pointer (some ⟨mb, 0, none⟩), .int .i64 (i : Int)] (w2.drewN m) fun e w' => e = .returned (.int .i64 (cntO L i : Int)) ∧ w' = w2.drewN m) := by
    show ∀ m, Calls Try.prog 29 _ _ _
    intro m
    exact many_cnt (w := w2.drewN m) m0 (row_below m3 (below_drewN (Below.refl _ _) m)) hol i
  obtain ⟨gq, cq, _, hvq, hq1, hq2, hq3, hq4⟩ := row_at m1 (by omega)
  obtain ⟨ar, cr, hvr, hr1, hr2⟩ := row_shape m2
  obtain ⟨ag, cg, hvg, hg1, hg2⟩ := row_shape m5
  rw [hrl] at hvr hr1
  rw [hgl] at hvg hg1
  subst hvq hvr hvg
  obtain ⟨c0, c1, c2, c3, c4, cf⟩ := five m0
  unfold maxLen at hq2 hr2 hg2
  have e0 := (m1.cellAt i (by omega)).trans (by simp [HQ.out] : _ = some (.int .i64 q))
  have hidx : 0 ≤ (i : Int) ∧ (i : Int) < (qs.length : Int) := ⟨by omega, by omega⟩
  generalize w.alloc (.cells #[.int .u8 d, .int .u8 a, .int .u8 b, .int .i8 n] 34) = w1 at *
  generalize w.heap.size = sb at *
  clear hA1 F2 hM1 m0 m1 m3 m4 m6 m7 c2 c3 s0 s2 s3 s4 sf B1 hbw1 hq4
  rw [HI.out]
  have hlt : ¬ ((i : Int) < 0) := by omega
  have hge : ¬ ((qs.length : Int) ≤ (i : Int)) := by omega
  have hqc : ¬ (q ≤ (cntO L i : Int)) := by omega
  go_wp2_with fail
  go_quiet ((go_at_call 29; exact Calls.quiet_of_same (HMa.out _)))
  go_wp2_with fail
  refine (contains_row (w := w2.drewN nq) (row_below m2 (below_drewN (Below.refl _ _) nq)) R false H2.out).mono ?_
  rintro e w3 ⟨rfl, rfl⟩
  go_wp2_with fail
  refine (contains_row (w := w2.drewN nq) (row_below m5 (below_drewN (Below.refl _ _) nq)) R false H3.out).mono ?_
  rintro e w3 ⟨rfl, rfl⟩
  go_upto_region 22 with fail
  have hM3 := hM2.below (below_drewN (Below.refl _ _) nq)
  have hA3 := hA2.drewN nq
  have B3 := below_drewN B2 nq
  have t3 : (w2.drewN nq).heap[sb]? = some (.cells #[.int .u8 d, .int .u8 a, .int .u8 b, .int .i8 n] 34 (0, 0)) := t0
  generalize w2.drewN nq = w4 at hM3 hA3 B3 t3 ⊢
  obtain ⟨vq, vr, vo, vm, vg, W5⟩ := hM3.toWR
  have hl1 : (refL L).length ≤ 1000000 := by omega
  have hl3 : (moL L).length ≤ 1000000 := by simp [moL]; omega
  have hbc : base ≤ w4.heap.size := Nat.le_trans W5.hb (Nat.le_of_lt (lt_of_block W5.cell))
  clear HMa HPu H2 H3 HQ HI hM2 hA2 B2 t0 hM3 m2 m5 c0 c1 c4 cf e0 hq1 hq2 hq3 hr1 hr2 hg1 hg2 hbw2 hlt hge hqc hidx hsl hun hle hgle hrl hgl b1 b2 b3 b4 hquo hil hc hR0 hR1
  refine region_sh (val22 mb sb R i n vr vo vm) (NI base mb qs (goneL G) vq vg vr vo vm (refL L) (owL L) (moL L) R i (wrap64 n) w4) (by kernel_rfl) (by kernel_rfl) (by kernel_rfl) (NI.start W5.drew) ?_ ?_
  · intro hon k hk l a w hC hl hB hS hJ K hK
    have hk35 : k < 35 := hk
    clear hk HS hA3 B3
    rcases (show k = 0 ∨ k = 1 ∨ k = 2 ∨ k = 3 ∨ k = 4 ∨ k = 5 ∨ k = 6 ∨ k = 7 ∨ k = 8 ∨ k = 9 ∨ k = 10 ∨ k = 11 ∨ k = 12 ∨ k = 13 ∨ k = 14 ∨ k = 15 ∨ k = 16 ∨ k = 17 ∨ k = 18 ∨ k = 19 ∨ k = 20 ∨ k = 21 ∨ k = 22 ∨ k = 23 ∨ k = 24 ∨ k = 25 ∨ k = 26 ∨ k = 27 ∨ k = 28 ∨ k = 29 ∨ k = 30 ∨ k = 31 ∨ k = 32 ∨ k = 33 ∨ k = 34 from by omega) with rfl | rfl | rfl | rfl | rfl | rfl | rfl | rfl | rfl | rfl | rfl | rfl | rfl | rfl | rfl | rfl | rfl | rfl | rfl | rfl | rfl | rfl | rfl | rfl | rfl | rfl | rfl | rfl | rfl | rfl | rfl | rfl | rfl | rfl | rfl
    · have e0 := (eval_tmp a 0).symm.trans ((hS.kept 0 (by kernel_rfl)).trans rfl)
      refine wpOp_step rfl (fun K' hK' => ?_)
      go_simp
      exact hK' _ _ (hK _ _ (hS.put hon (i := 0) rfl rfl (fun u hu => by cases hu; rfl)) (hJ.pure (by decide) (by decide)))
    · have e0 := (eval_tmp a 0).symm.trans ((hS.kept 0 (by kernel_rfl)).trans rfl)
      refine wpOp_step rfl (fun K' hK' => ?_)
      go_simp
      exact hK' _ _ (hK _ _ (hS.put hon (i := 1) rfl rfl (fun u hu => by cases hu; rfl)) (hJ.pure (by decide) (by decide)))
    · have e0 := (eval_tmp a 0).symm.trans ((hS.kept 0 (by kernel_rfl)).trans rfl)
      refine wpOp_step rfl (fun K' hK' => ?_)
      go_simp
      exact hK' _ _ (hK _ _ (hS.put hon (i := 2) rfl rfl (fun u hu => by cases hu; rfl)) (hJ.pure (by decide) (by decide)))
    · have e0 := (eval_tmp a 0).symm.trans ((hS.kept 0 (by kernel_rfl)).trans rfl)
      refine wpOp_step rfl (fun K' hK' => ?_)
      go_simp
      exact hK' _ _ (hK _ _ (hS.put hon (i := 3) rfl rfl (fun u hu => by cases hu; rfl)) (hJ.pure (by decide) (by decide)))
    · have e174 := (eval_tmp a 174).symm.trans (hS.get hB (i := 4) rfl 3 (by simp) rfl rfl rfl)
      refine wpOp_step rfl (fun K' hK' => ?_)
      go_simp
      exact hK' _ _ (hK _ _ (hS.put hon (i := 4) rfl rfl (fun u hu => by cases hu; rfl)) (hJ.pure (by decide) (by decide)))
    · have e175 := (eval_tmp a 175).symm.trans (hS.get hB (i := 5) rfl 4 (by simp) rfl rfl rfl)
      refine wpOp_step rfl (fun K' hK' => ?_)
      go_simp
      exact hK' _ _ (hK _ _ (hS.put hon (i := 5) rfl rfl (fun u hu => by cases hu; rfl)) (hJ.pure (by decide) (by decide)))
    · have e176 := (eval_tmp a 176).symm.trans (hS.get hB (i := 6) rfl 5 (by simp) rfl rfl rfl)
      have hl28 : l 28 = false := closed_not hC hl (i := 28) (j := 6) rfl (g := .phase) (by simp) rfl
      have hc := hJ.wi.cells.1 hl28
      refine wpOp_step rfl (fun K' hK' => ?_)
      go_simp
      exact hK' _ _ (hK _ _ (hS.put hon (i := 6) rfl rfl (fun u hu => by cases hu; rfl)) (hJ.pure (by decide) (by decide)))
    · have e8 := (eval_tmp a 8).symm.trans ((hS.kept 8 (by kernel_rfl)).trans rfl)
      refine wpOp_step rfl (fun K' hK' => ?_)
      go_simp
      exact hK' _ _ (hK _ _ (hS.put hon (i := 7) rfl rfl (fun u hu => by cases hu; rfl)) (hJ.pure (by decide) (by decide)))
    · have e178 := (eval_tmp a 178).symm.trans (hS.get hB (i := 8) rfl 7 (by simp) rfl rfl rfl)
      refine wpOp_step rfl (fun K' hK' => ?_)
      go_simp
      exact hK' _ _ (hK _ _ (hS.put hon (i := 8) rfl rfl (fun u hu => by cases hu)) (hJ.made1 (Nat.lt_of_lt_of_eq (by decide : 179 < 311) hS.size.symm)))
    · have e177 := hS.get hB (i := 9) rfl 6 (by simp) rfl rfl rfl
      have hl28 : l 28 = false := closed_not hC hl (i := 28) (j := 9) rfl (g := .data) (by simp) rfl
      obtain ⟨b, eb, hcb⟩ := hJ.n1 (hB _ rfl ⟨8, .data⟩ (by simp) rfl) hl
      have hr := hJ.wi.rows.1 hl
      obtain ⟨ti, hti, hz0, hz1, hz2⟩ := info_parts Try.info51
      refine wpOp_step rfl (fun K' hK' => step_append_own2 rfl (.tmp 177) (.tmp 179) 28 rfl base 51 ti (.int .u64 0) 1 8 Try.underlying28 hti hz0 hz1 hz2 rfl (by decide) _ (refL L).length ((refL L).map (Value.int .u64)) e177 hr ⟨b, 0, none⟩ 1 1 [.int .u64 R] eb rfl (one_new hcb) (by intro u hu; simp at hu; subst hu; rfl) (by decide) (by unfold maxLen; omega) (by omega) (Nat.le_trans (WR.hb hJ.wi) (Nat.le_of_lt (lt_of_block (WR.cell hJ.wi)))) (fun v' w' ho hg hb => hK' _ _ (hK _ _ (hS.put hon (i := 9) rfl rfl (fun u hu => by cases hu)) ?_)))
      exact hJ.call1 (Nat.lt_of_lt_of_eq (by decide : 180 < 311) hS.size.symm) hl hl28 hg (by simpa using ho) hb
    · have e0 := (eval_tmp a 0).symm.trans ((hS.kept 0 (by kernel_rfl)).trans rfl)
      refine wpOp_step rfl (fun K' hK' => ?_)
      go_simp
      exact hK' _ _ (hK _ _ (hS.put hon (i := 10) rfl rfl (fun u hu => by cases hu; rfl)) (hJ.pure (by decide) (by decide)))
    · have e181 := (eval_tmp a 181).symm.trans (hS.get hB (i := 11) rfl 10 (by simp) rfl rfl rfl)
      refine wpOp_step rfl (fun K' hK' => ?_)
      go_simp
      exact hK' _ _ (hK _ _ (hS.put hon (i := 11) rfl rfl (fun u hu => by cases hu; rfl)) (hJ.pure (by decide) (by decide)))
    · have e182 := (eval_tmp a 182).symm.trans (hS.get hB (i := 12) rfl 11 (by simp) rfl rfl rfl)
      refine wpOp_step rfl (fun K' hK' => ?_)
      go_simp
      exact hK' _ _ (hK _ _ (hS.put hon (i := 12) rfl rfl (fun u hu => by cases hu; rfl)) (hJ.pure (by decide) (by decide)))
    · have e183 := (eval_tmp a 183).symm.trans (hS.get hB (i := 13) rfl 12 (by simp) rfl rfl rfl)
      have hl31 : l 31 = false := closed_not hC hl (i := 31) (j := 13) rfl (g := .phase) (by simp) rfl
      have hc := hJ.wi.cells.2.1 hl31
      refine wpOp_step rfl (fun K' hK' => ?_)
      go_simp
      exact hK' _ _ (hK _ _ (hS.put hon (i := 13) rfl rfl (fun u hu => by cases hu; rfl)) (hJ.pure (by decide) (by decide)))
    · have e7 := (eval_tmp a 7).symm.trans ((hS.kept 7 (by kernel_rfl)).trans rfl)
      refine wpOp_step rfl (fun K' hK' => ?_)
      go_simp
      exact hK' _ _ (hK _ _ (hS.put hon (i := 14) rfl rfl (fun u hu => by cases hu; rfl)) (hJ.pure (by decide) (by decide)))
    · have e185 := (eval_tmp a 185).symm.trans (hS.get hB (i := 15) rfl 14 (by simp) rfl rfl rfl)
      refine wpOp_step rfl (fun K' hK' => ?_)
      go_simp
      exact hK' _ _ (hK _ _ (hS.put hon (i := 15) rfl rfl (fun u hu => by cases hu)) (hJ.made2 (Nat.lt_of_lt_of_eq (by decide : 186 < 311) hS.size.symm)))
    · have e184 := hS.get hB (i := 16) rfl 13 (by simp) rfl rfl rfl
      have hl31 : l 31 = false := closed_not hC hl (i := 31) (j := 16) rfl (g := .data) (by simp) rfl
      obtain ⟨b, eb, hcb⟩ := hJ.n2 (hB _ rfl ⟨15, .data⟩ (by simp) rfl) hl
      have hr := hJ.wi.rows.2.1 hl
      obtain ⟨ti, hti, hz0, hz1, hz2⟩ := info_parts Try.info3
      refine wpOp_step rfl (fun K' hK' => step_append_own2 rfl (.tmp 184) (.tmp 186) 27 rfl base 3 ti (.int .i64 0) 1 8 Try.underlying27 hti hz0 hz1 hz2 rfl (by decide) _ (owL L).length ((owL L).map (Value.int .i64)) e184 hr ⟨b, 0, none⟩ 1 1 [.int .i64 i] eb rfl (one_new hcb) (by intro u hu; simp at hu; subst hu; rfl) (by decide) (by unfold maxLen; omega) (by omega) (Nat.le_trans (WR.hb hJ.wi) (Nat.le_of_lt (lt_of_block (WR.cell hJ.wi)))) (fun v' w' ho hg hb => hK' _ _ (hK _ _ (hS.put hon (i := 16) rfl rfl (fun u hu => by cases hu)) ?_)))
      exact hJ.call2 (Nat.lt_of_lt_of_eq (by decide : 187 < 311) hS.size.symm) hl hl31 hg (by simpa using ho) hb
    · have e0 := (eval_tmp a 0).symm.trans ((hS.kept 0 (by kernel_rfl)).trans rfl)
      refine wpOp_step rfl (fun K' hK' => ?_)
      go_simp
      exact hK' _ _ (hK _ _ (hS.put hon (i := 17) rfl rfl (fun u hu => by cases hu; rfl)) (hJ.pure (by decide) (by decide)))
    · have e188 := (eval_tmp a 188).symm.trans (hS.get hB (i := 18) rfl 17 (by simp) rfl rfl rfl)
      refine wpOp_step rfl (fun K' hK' => ?_)
      go_simp
      exact hK' _ _ (hK _ _ (hS.put hon (i := 18) rfl rfl (fun u hu => by cases hu; rfl)) (hJ.pure (by decide) (by decide)))
    · have e189 := (eval_tmp a 189).symm.trans (hS.get hB (i := 19) rfl 18 (by simp) rfl rfl rfl)
      refine wpOp_step rfl (fun K' hK' => ?_)
      go_simp
      exact hK' _ _ (hK _ _ (hS.put hon (i := 19) rfl rfl (fun u hu => by cases hu; rfl)) (hJ.pure (by decide) (by decide)))
    · have e190 := (eval_tmp a 190).symm.trans (hS.get hB (i := 20) rfl 19 (by simp) rfl rfl rfl)
      have hl34 : l 34 = false := closed_not hC hl (i := 34) (j := 20) rfl (g := .phase) (by simp) rfl
      have hc := hJ.wi.cells.2.2.1 hl34
      refine wpOp_step rfl (fun K' hK' => ?_)
      go_simp
      exact hK' _ _ (hK _ _ (hS.put hon (i := 20) rfl rfl (fun u hu => by cases hu; rfl)) (hJ.pure (by decide) (by decide)))
    · have e5 := (eval_tmp a 5).symm.trans ((hS.kept 5 (by kernel_rfl)).trans rfl)
      refine wpOp_step rfl (fun K' hK' => ?_)
      go_simp
      exact hK' _ _ (hK _ _ (hS.put hon (i := 21) rfl rfl (fun u hu => by cases hu; rfl)) (hJ.pure (by decide) (by decide)))
    · have e192 := (eval_tmp a 192).symm.trans (hS.get hB (i := 22) rfl 21 (by simp) rfl rfl rfl)
      have hc := cell_of_row _ sb 3 _ _ _ ((WR.fr hJ.wi).block t3 rfl)
      refine wpOp_step rfl (fun K' hK' => ?_)
      go_simp
      exact hK' _ _ (hK _ _ (hS.put hon (i := 22) rfl rfl (fun u hu => by cases hu; rfl)) (hJ.pure (by decide) (by decide)))
    · have e193 := (eval_tmp a 193).symm.trans (hS.get hB (i := 23) rfl 22 (by simp) rfl rfl rfl)
      refine wpOp_step rfl (fun K' hK' => ?_)
      go_simp
      exact hK' _ _ (hK _ _ (hS.put hon (i := 23) rfl rfl (fun u hu => by cases hu; rw [IntWalk.i64_left])) (hJ.pure (by decide) (by decide)))
    · have e194 := (eval_tmp a 194).symm.trans (hS.get hB (i := 24) rfl 23 (by simp) rfl rfl rfl)
      refine wpOp_step rfl (fun K' hK' => ?_)
      go_simp
      exact hK' _ _ (hK _ _ (hS.put hon (i := 24) rfl rfl (fun u hu => by cases hu)) (hJ.made3 (Nat.lt_of_lt_of_eq (by decide : 195 < 311) hS.size.symm)))
    · have e191 := hS.get hB (i := 25) rfl 20 (by simp) rfl rfl rfl
      have hl34 : l 34 = false := closed_not hC hl (i := 34) (j := 25) rfl (g := .data) (by simp) rfl
      obtain ⟨b, eb, hcb⟩ := hJ.n3 (hB _ rfl ⟨24, .data⟩ (by simp) rfl) hl
      have hr := hJ.wi.rows.2.2 hl
      obtain ⟨ti, hti, hz0, hz1, hz2⟩ := info_parts Try.info2
      refine wpOp_step rfl (fun K' hK' => step_append_own2 rfl (.tmp 191) (.tmp 195) 29 rfl base 2 ti (.int .i64 0) 1 8 Try.underlying29 hti hz0 hz1 hz2 rfl (by decide) _ (moL L).length ((moL L).map (Value.int .i64)) e191 hr ⟨b, 0, none⟩ 1 1 [.int .i64 (wrap64 n)] eb rfl (one_new hcb) (by intro u hu; simp at hu; subst hu; rfl) (by decide) (by unfold maxLen; omega) (by omega) (Nat.le_trans (WR.hb hJ.wi) (Nat.le_of_lt (lt_of_block (WR.cell hJ.wi)))) (fun v' w' ho hg hb => hK' _ _ (hK _ _ (hS.put hon (i := 25) rfl rfl (fun u hu => by cases hu)) ?_)))
      exact hJ.call3 (Nat.lt_of_lt_of_eq (by decide : 196 < 311) hS.size.symm) hl hl34 hg (by simpa using ho) 
    · have e171 := (eval_tmp a 171).symm.trans (hS.get hB (i := 26) rfl 0 (by simp) rfl rfl rfl)
      refine wpOp_step rfl (fun K' hK' => ?_)
      go_simp
      exact hK' _ _ (hK _ _ (hS.put hon (i := 26) rfl rfl (fun u hu => by cases hu; rfl)) (hJ.pure (by decide) (by decide)))
    · have e197 := (eval_tmp a 197).symm.trans (hS.get hB (i := 27) rfl 26 (by simp) rfl rfl rfl)
      refine wpOp_step rfl (fun K' hK' => ?_)
      go_simp
      exact hK' _ _ (hK _ _ (hS.put hon (i := 27) rfl rfl (fun u hu => by cases hu; rfl)) (hJ.pure (by decide) (by decide)))
    · have e198 := (eval_tmp a 198).symm.trans (hS.get hB (i := 28) rfl 27 (by simp) rfl rfl rfl)
      obtain ⟨ao, cap, hv, _, _⟩ := row_shape (hJ.wi.now.1 (hB _ rfl ⟨9, .data⟩ (by simp) rfl))
      have ev := (eval_tmp a 180).symm.trans hv
      obtain ⟨_, _, _, ⟨u1, hu1⟩, ⟨u2, hu2⟩, ⟨u3, hu3⟩, cf⟩ := hJ.wi.cells
      have hj := hJ.store1
      rw [hv] at hj
      simp only [List.length_append, List.length_cons, List.length_nil, Nat.zero_add] at hj
      refine wpOp_step rfl (fun K' hK' => ?_)
      go_simp
      exact hK' _ _ (hK _ _ (hS.none (i := 28) rfl rfl) hj)
    · have e172 := (eval_tmp a 172).symm.trans (hS.get hB (i := 29) rfl 1 (by simp) rfl rfl rfl)
      refine wpOp_step rfl (fun K' hK' => ?_)
      go_simp
      exact hK' _ _ (hK _ _ (hS.put hon (i := 29) rfl rfl (fun u hu => by cases hu; rfl)) (hJ.pure (by decide) (by decide)))
    · have e199 := (eval_tmp a 199).symm.trans (hS.get hB (i := 30) rfl 29 (by simp) rfl rfl rfl)
      refine wpOp_step rfl (fun K' hK' => ?_)
      go_simp
      exact hK' _ _ (hK _ _ (hS.put hon (i := 30) rfl rfl (fun u hu => by cases hu; rfl)) (hJ.pure (by decide) (by decide)))
    · have e200 := (eval_tmp a 200).symm.trans (hS.get hB (i := 31) rfl 30 (by simp) rfl rfl rfl)
      obtain ⟨ao, cap, hv, _, _⟩ := row_shape (hJ.wi.now.2.1 (hB _ rfl ⟨16, .data⟩ (by simp) rfl))
      have ev := (eval_tmp a 187).symm.trans hv
      obtain ⟨_, _, _, ⟨u1, hu1⟩, ⟨u2, hu2⟩, ⟨u3, hu3⟩, cf⟩ := hJ.wi.cells
      have hj := hJ.store2
      rw [hv] at hj
      simp only [List.length_append, List.length_cons, List.length_nil, Nat.zero_add] at hj
      refine wpOp_step rfl (fun K' hK' => ?_)
      go_simp
      exact hK' _ _ (hK _ _ (hS.none (i := 31) rfl rfl) hj)
    · have e173 := (eval_tmp a 173).symm.trans (hS.get hB (i := 32) rfl 2 (by simp) rfl rfl rfl)
      refine wpOp_step rfl (fun K' hK' => ?_)
      go_simp
      exact hK' _ _ (hK _ _ (hS.put hon (i := 32) rfl rfl (fun u hu => by cases hu; rfl)) (hJ.pure (by decide) (by decide)))
    · have e201 := (eval_tmp a 201).symm.trans (hS.get hB (i := 33) rfl 32 (by simp) rfl rfl rfl)
      refine wpOp_step rfl (fun K' hK' => ?_)
      go_simp
      exact hK' _ _ (hK _ _ (hS.put hon (i := 33) rfl rfl (fun u hu => by cases hu; rfl)) (hJ.pure (by decide) (by decide)))
    · have e202 := (eval_tmp a 202).symm.trans (hS.get hB (i := 34) rfl 33 (by simp) rfl rfl rfl)
      obtain ⟨ao, cap, hv, _, _⟩ := row_shape (hJ.wi.now.2.2 (hB _ rfl ⟨25, .data⟩ (by simp) rfl))
      have ev := (eval_tmp a 196).symm.trans hv
      obtain ⟨_, _, _, ⟨u1, hu1⟩, ⟨u2, hu2⟩, ⟨u3, hu3⟩, cf⟩ := hJ.wi.cells
      have hj := hJ.store3
      rw [hv] at hj
      simp only [List.length_append, List.length_cons, List.length_nil, Nat.zero_add] at hj
      refine wpOp_step rfl (fun K' hK' => ?_)
      go_simp
      exact hK' _ _ (hK _ _ (hS.none (i := 34) rfl rfl) hj)
  · intro l a w' hl hS hJ
    have hF := hJ.wi.final ⟨hl 9 (by decide), hl 16 (by decide), hl 25 (by decide), hl 28 (by decide), hl 31 (by decide), hl 34 (by decide)⟩
    have hMF : MI base mb w' qs (L ++ [⟨nn, u + 1, (i : Int), wrap64 n, 0⟩]) G := WR.done (by rw [show refL (L ++ [⟨nn, u + 1, (i : Int), wrap64 n, 0⟩]) = refL L ++ [R] from by simp [refL, HR.out], show owL (L ++ [⟨nn, u + 1, (i : Int), wrap64 n, 0⟩]) = owL L ++ [(i : Int)] from by simp [owL], show moL (L ++ [⟨nn, u + 1, (i : Int), wrap64 n, 0⟩]) = moL L ++ [wrap64 n] from by simp [moL]]; exact hF)
    exact (‹∀ (a : Act) (w : World), Code.wp Try.prog _ _ a w → _› a w' (ret_true hS.size hS.defers (show Ending.returned (.bool true) = .returned (.bool true) ∧ PO base ab mb (k + 1) w w' from ⟨rfl, _, _, _, _, hA3.fr hF.fr (by intro t ht; simp [isA] at ht; simp [isM, only]; omega), hMF, HS.out, B3.trans (hF.fr.below hbc)⟩)))
end Go.Proofs.Ytbbmcggalffecaa

/-
  The contract of M.Do, a step of kind 2 that drops an object.
  Conditions: as each theorem says.
-/
import Derived.Test.YtbbmcggalffecaaPlaysReg
import Derived.Deep.DeepCutAuto
namespace Go.Proofs.Ytbbmcggalffecaa
open Go.ChangeShapes Go.WideShapes Go.ChangeAt Go.RowKit
set_option linter.unusedVariables false
theorem map_erase {α β : Type} (f : α → β) (l : List α) (i : Nat) : (l.eraseIdx i).map f = (l.map f).eraseIdx i := by
  induction l generalizing i with
  | nil => simp
  | cons x l ih =>
    cases i with
    | zero => simp
    | succ i => simpa using ih i
theorem refL_erase (L : List Lv) (i : Nat) : refL (L.eraseIdx i) = (refL L).eraseIdx i := map_erase _ _ _
theorem owL_erase (L : List Lv) (i : Nat) : owL (L.eraseIdx i) = (owL L).eraseIdx i := map_erase _ _ _
theorem moL_erase (L : List Lv) (i : Nat) : moL (L.eraseIdx i) = (moL L).eraseIdx i := map_erase _ _ _
def val33 (mb i : Nat) (vr vo vm : Value) : Nat → Option Value
  | 0 => some (.pointer (some ⟨mb, 0, none⟩))
  | 1 => some (.pointer (some ⟨mb, 0, none⟩))
  | 2 => some (.pointer (some ⟨mb, 0, none⟩))
  | 3 => some (.pointer (some ⟨mb, 0, none⟩))
  | 4 => some (.pointer (some ⟨mb, 0, none⟩))
  | 5 => some (.pointer (some ⟨mb, 1, none⟩))
  | 6 => some (vr)
  | 7 => some (.int .i64 i)
  | 8 => some (.int .i64 i)
  | 9 => some (.int .i64 ((i : Int) + 1))
  | 11 => some (.pointer (some ⟨mb, 0, none⟩))
  | 12 => some (.pointer (some ⟨mb, 0, none⟩))
  | 13 => some (.pointer (some ⟨mb, 2, none⟩))
  | 14 => some (vo)
  | 15 => some (.int .i64 i)
  | 16 => some (.int .i64 i)
  | 17 => some (.int .i64 ((i : Int) + 1))
  | 19 => some (.pointer (some ⟨mb, 0, none⟩))
  | 20 => some (.pointer (some ⟨mb, 0, none⟩))
  | 21 => some (.pointer (some ⟨mb, 3, none⟩))
  | 22 => some (vm)
  | 23 => some (.int .i64 i)
  | 24 => some (.int .i64 i)
  | 25 => some (.int .i64 ((i : Int) + 1))
  | 27 => some (.pointer (some ⟨mb, 0, none⟩))
  | 28 => some (.pointer (some ⟨mb, 1, none⟩))
  | 30 => some (.pointer (some ⟨mb, 0, none⟩))
  | 31 => some (.pointer (some ⟨mb, 2, none⟩))
  | 33 => some (.pointer (some ⟨mb, 0, none⟩))
  | 34 => some (.pointer (some ⟨mb, 3, none⟩))
  | _ => none

theorem wrap_one (i : Nat) (h : i < 1000000) : IntKind.i64.wrap ((i : Int) + 1) = (i : Int) + 1 := by simp [IntKind.wrap, IntKind.bits, IntKind.signed]; omega
theorem enters26 (args : Array Value) (w : World) : (callFunc 26 args).run Try.prog w = .ok (.enter 26 args) w := by kernel_rfl
theorem enters32 (args : Array Value) (w : World) : (callFunc 32 args).run Try.prog w = .ok (.enter 32 args) w := by kernel_rfl
theorem enters33 (args : Array Value) (w : World) : (callFunc 33 args).run Try.prog w = .ok (.enter 33 args) w := by kernel_rfl
set_option maxRecDepth 100000 in
theorem ret_true {a : Act} {w : World} (hsz : a.tmps.size = 311) (hd : a.defers = []) {post : Ending → World → Prop} (hp : post (.returned (.bool true)) w) : Code.wp Try.prog ((Code.region 34 #[{dst := some 6, op := .assign (.const (.bool true)), type := 4, pos := "law.go:85", after := #[], guard := none}] false).seq Code.ret) (bodyPost Try.prog Try.f11 post) a w := by
  obtain ⟨tmps, defers⟩ := a
  simp only at hsz hd
  subst hd
  refine wp_seq ?_
  refine wp_region_list ?_
  simp [wpList, Region.wanted, Oper.wp, execOp, Oper.upon_value, Exit.then]
  left
  refine wp_ret ?_
  refine bodyPost_ret (v := .bool true) ?_ rfl hp
  simp [results, Try.results11, go_sem, hsz, Act.put, Act.eval]
set_option maxRecDepth 100000 in
set_option maxHeartbeats 4000000 in
/-- An object is dropped. -/
theorem do_2 {base ab mb k : Nat} {w : World} {s : St} {qs : List Int} {L : List Lv} {G : List (Nat × Nat)} (hA : Arn base ab w s) (hM : MI base mb w qs L G) (hS : PS s qs L G k) (d a b n : Int) (hd : d % 4 = 2) (hd0 : 0 ≤ d) (hd1 : d ≤ 255) (hb5 : b % 5 ≠ 0) (hbw : base ≤ w.heap.size) (hk : k ≤ 1000) (i : Nat) (hi : i < L.length)
    (hx : (IntKind.i64.wrap a).tmod (L.length : Int) = (i : Int)) (hB0 : 0 ≤ b) (hB1 : b ≤ 255) :
    Calls Try.prog 11 #[.pointer (some ⟨mb, 0, none⟩), .pointer (some ⟨ab, 0, none⟩), .agg #[.int .u8 d, .int .u8 a, .int .u8 b, .int .i8 n]] w fun e w' => e = .returned (.bool true) ∧ PO base ab mb (k + 1) w w' := by
  have hb0 : (d % 4 == 0) = false := by rw [hd]; rfl
  have hb1 : (d % 4 == 1) = false := by rw [hd]; rfl
  have hb2 : (d % 4 == 2) = true := by rw [hd]; rfl
  have hz : ((L.length : Int) == 0) = false := by rw [beq_eq_false_iff_ne]; omega
  have h5 : (b % 5 == 0) = false := by rw [beq_eq_false_iff_ne]; exact hb5
  have HX : Hid ((IntKind.i64.wrap a).tmod (L.length : Int) = (i : Int)) := hx
  have hrl : (refL L).length = L.length := by simp [refL]
  have hgl : (goneL G).length = G.length := by simp [goneL]
  have hle := hS.le
  have hgle := hS.gl
  have hsl := hS.sl
  have hun := hS.un
  clear hd hx hb5
  have hM1 := hM.below ((Below.refl _ w).alloc (Nat.le_refl _) (.cells #[.int .u8 d, .int .u8 a, .int .u8 b, .int .i8 n] 34))
  have hA1 := hA.alloc (.cells #[.int .u8 d, .int .u8 a, .int .u8 b, .int .i8 n] 34)
  have s0 := heap_alloc_new w (.cells #[.int .u8 d, .int .u8 a, .int .u8 b, .int .i8 n] 34)
  have B1 : Below base w (w.alloc (.cells #[.int .u8 d, .int .u8 a, .int .u8 b, .int .i8 n] 34)) := (Below.refl _ _).alloc hbw _
  have hbw1 : base ≤ (w.alloc (.cells #[.int .u8 d, .int .u8 a, .int .u8 b, .int .i8 n] 34)).heap.size := Nat.le_trans hbw B1.size
  obtain ⟨p, hp⟩ : ∃ p, L[i]? = some p := ⟨_, List.getElem?_eq_getElem hi⟩
  have hpm := List.mem_of_getElem? hp
  obtain ⟨bo, ko, hbo⟩ := hS.live.at_ p hpm
  have hus := hS.us _ _ hbo
  have hnl := lt_of_get hbo
  simp only at hus
  obtain ⟨o1, o2⟩ := hS.own p hpm
  obtain ⟨j, hj⟩ : ∃ j : Nat, (j : Int) = p.ow := ⟨p.ow.toNat, by omega⟩
  obtain ⟨q, hq⟩ : ∃ q, qs[j]? = some q := ⟨_, List.getElem?_eq_getElem (by omega)⟩
  obtain ⟨PD, hone⟩ := hS.drop hp hj hq
  have hacc := hS.accs j q hq
  have hmany := hS.many j q hq
  have hquo := hS.quo q (List.mem_of_getElem? hq)
  have HPD : Hid (PS ⟨s.accs.set j ((cntO L j : Int) - 1, q), s.slots.set p.n ⟨p.u, none⟩, s.unused ++ [p.n]⟩ qs (L.eraseIdx i) (G ++ [(p.n, p.u)]) (k + 1)) := PD
  have HST : Hid (Stale ⟨s.accs.set j ((cntO L j : Int) - 1, q), s.slots.set p.n ⟨p.u, none⟩, s.unused ++ [p.n]⟩ (p.n, p.u)) := PD.stale _ (by simp)
  have HP : Hid (L[i]? = some p) := hp
  have hR : 0 ≤ refN p.u p.n ∧ refN p.u p.n ≤ 18446744073709551615 := by unfold refN; omega
  obtain ⟨R, hRR⟩ : ∃ R, refN p.u p.n = R := ⟨_, rfl⟩
  have HR : Hid (refN p.u p.n = R) := hRR
  rw [hRR] at hR
  -- the first Drop, in every world
  have HD1 : Hid (∀ W, Arn base ab W s → Calls Try.prog 24 #[.pointer (some ⟨ab, 0, none⟩), .int .u64 R] W fun e w' => e = .returned (.tuple #[]) ∧ Arn base ab w' ⟨s.accs.set j ((cntO L j : Int) - 1, q), s.slots.set p.n ⟨p.u, none⟩, s.unused ++ [p.n]⟩ ∧ Fr isA base W w') := by
    show ∀ W, Arn base ab W s → _
    intro W hW
    exact drop_some hW R p.n p.u bo j _ _ _ (by rw [← hRR]; rfl) (by omega) (by omega) hbo hj hacc (by omega) (by omega) (by omega)
  obtain ⟨vq, vr, vo, vm, vg, m0, m1, m2, m3, m4, m5, m6, m7⟩ := hM1.rows
  have hbm := hM.hb
  obtain ⟨gr, cr, _, hvr, hr1, hr2, hr3, hr4⟩ := row_at m2 (by omega)
  rw [hrl] at hvr
  subst hvr
  unfold maxLen at hr2
  have q2 := m2
  rw [hrl] at q2
  have e0 := (q2.cellAt i (by omega)).trans (by simp [refL, hp, hRR] : _ = some (.int .u64 R))
  obtain ⟨c0, c1, c2, c3, c4, cf⟩ := five m0
  obtain ⟨s1, s2, s3, s4, sf⟩ := four s0
  clear hM hA hp hbo hRR hS q2 PD hpm hj hq hacc
  go_enter Try.func11, Try.ntmps11
  go_upto_region 29 with fail
  generalize w.alloc (.cells #[.int .u8 d, .int .u8 a, .int .u8 b, .int .i8 n] 34) = w1 at *
  generalize w.heap.size = sb at *
  go_quiet (fail)
  rw [show (wrap64 a).tmod (L.length : Int) = (i : Int) from by rw [← IntWalk.i64_left]; exact HX.out]
  have hidx : 0 ≤ (i : Int) ∧ (i : Int) < (L.length : Int) := ⟨by omega, by omega⟩
  clear s1 s2 s3 s4 sf s0 c0 c2 c4
  go_wp2_with fail
  refine (HD1.out _ (hA1.drewN nq)).mono ?_
  rintro e w3 ⟨rfl, hA3, F3⟩
  have hM3 := (hM1.below (below_drewN (Below.refl _ _) nq)).fr F3 rfl rfl rfl rfl
  have B3 : Below base w w3 := B1.trans ((below_drewN (Below.refl _ _) nq).trans (F3.below hbw1))
  have n0 := F3.block (w := w1.drewN nq) m0 rfl
  have n2 := F3.row (w := w1.drewN nq) (row_below m2 (below_drewN (Below.refl _ _) nq)) rfl
  have hbw3 := Nat.le_trans hbw1 F3.size
  clear m0 m1 m2 m3 m4 m5 m6 m7 c1 c3 cf e0 hr4 hM1 hA1 F3 hbw1
  rw [hrl] at n2
  have e0 := (n2.cellAt i (by omega)).trans (by simp [refL, HP.out, HR.out] : _ = some (.int .u64 R))
  obtain ⟨c0, c1, c2, c3, c4, cf⟩ := five n0
  clear c0 c2 c3 c4
  go_wp2_with fail
  refine (drop_none hA3 R (by omega) (by omega) (look_stale (g := (p.n, p.u)) HR.out (by simp only; omega) HST.out)).mono ?_
  rintro e w4 ⟨rfl, q4, hw4⟩
  have hM4 := hM3.below (below_drewN (Below.refl _ _) q4)
  have hA4 := hA3.drewN q4
  have B4 := below_drewN B3 q4
  have hbw4 : base ≤ (w3.drewN q4).heap.size := hbw3
  rw [← hw4] at hM4 hA4 B4 hbw4
  clear hw4 hM3 hA3 B3 n0 n2 c1 cf e0 hbw3 hr1 hr2 hr3 B1
  obtain ⟨vq, vr, vo, vm, vg, m0, m1, m2, m3, m4, m5, m6, m7⟩ := hM4.rows
  obtain ⟨gr, cr, _, hvr, hr1, hr2, hr3, hr4⟩ := row_at m2 (by omega)
  rw [hrl] at hvr
  subst hvr
  unfold maxLen at hr2
  have q2 := m2
  rw [hrl] at q2
  have e0 := (q2.cellAt i (by omega)).trans (by simp [refL, HP.out, HR.out] : _ = some (.int .u64 R))
  obtain ⟨ag, cg, hvg, hg1, hg2⟩ := row_shape m5
  rw [hgl] at hvg hg1
  subst hvg
  unfold maxLen at hg2
  have m5g := m5
  rw [hgl] at m5g
  obtain ⟨c0, c1, c2, c3, c4, cf⟩ := five m0
  obtain ⟨ti, hti, hz0, hz1, hz2⟩ := info_parts Try.info51
  have hmb := lt_of_block m0
  clear c0 c2 c3 hM4 q2 hr4
  go_upto_region 32 with fail
  go_cut [275] (fun _ wc => MI base mb wc qs L (G ++ [(p.n, p.u)]) ∧ Arn base ab wc ⟨s.accs.set j ((cntO L j : Int) - 1, q), s.slots.set p.n ⟨p.u, none⟩, s.unused ++ [p.n]⟩ ∧ Below base w wc)
  case first =>
    go_region_law (refine step_append_own2 rfl (.tmp 266) (.tmp 274) 28 rfl base 51 ti (.int .u64 0) 1 8 Try.underlying28 hti hz0 hz1 hz2 rfl (by decide) (.slice ag G.length cg) G.length ((goneL G).map (Value.int .u64)) (by simp [Act.eval]) (by exact m5g.alloc _) ⟨w4.heap.size, 0, none⟩ 1 1 [.int .u64 _] (by simp [Act.eval]) rfl (by exact fun j u hj => one_news j u hj) (by intro u hu; simp at hu; subst hu; rfl) (by decide) (by unfold maxLen; omega) (by omega) (by simp; omega) ?_; intro v' w2 hown' hgrow hloc; obtain ⟨A1, A2, A3⟩ := MI.gone (g := (p.n, p.u)) HR.out hbm m0 m1 m2 m3 m4 m5 m6 m7 (((Below.refl _ _).alloc (Nat.le_refl _) _).drew) hgrow (by rw [hgl]; exact hown') hloc; obtain ⟨au, cu, hv, hcu1, hcu2⟩ := row_shape hown'; rw [hv] at A1 A3; rw [hv]; obtain ⟨d0, d1, d2, d3, d4, df⟩ := five A2; clear hown' hgrow hloc)
    all_goals
      go_wp2_with fail
      go_meet
      case rel => exact ⟨A1, hA4.fr A3 (by intro t ht; simp [isA] at ht; simp [only]; omega), B4.trans (A3.below hbw4)⟩
  case rest =>
    obtain ⟨hM5, hA5, B5⟩ := hcut
    clear m0 m1 m2 m3 m4 m5 m6 m7 c1 c4 cf e0 hA4 B4 hbw4 hg1 hg2 hti hz0 hz1 hz2 hr1 hr2 hr3 hmb m5g
    obtain ⟨vq, vr, vo, vm, vg, W5⟩ := hM5.toWR
    have hi1 : i < (refL L).length := by simp [refL]; omega
    have hi2 : i < (owL L).length := by simp [owL]; omega
    have hi3 : i < (moL L).length := by simp [moL]; omega
    have hib : i < 1000000 := by omega
    have hbc : base ≤ wc.heap.size := Nat.le_trans hbm (Nat.le_of_lt (lt_of_block W5.cell))
    clear HST HP hR HR HD1 hM5 hun hsl hgle hle hone hmany hquo hidx hrl hgl hus o1 o2 hnl
    go_upto_region 33 with fail
    refine region_sh (val33 mb i vr vo vm) (WI 10 18 26 288 296 304 29 32 35 base mb qs (goneL (G ++ [(p.n, p.u)])) vq vg vr vo vm (refL L) (owL L) (moL L) ((refL L).eraseIdx i) ((owL L).eraseIdx i) ((moL L).eraseIdx i) wc) (by kernel_rfl) (by kernel_rfl) (by kernel_rfl) (WI.start W5.drew) ?_ ?_
    · intro hon i' hi' l a w hC hl hB hS hJ K hK
      have hi36 : i' < 36 := hi'
      clear hi' HPD hA5 B5
      rcases (show i' = 0 ∨ i' = 1 ∨ i' = 2 ∨ i' = 3 ∨ i' = 4 ∨ i' = 5 ∨ i' = 6 ∨ i' = 7 ∨ i' = 8 ∨ i' = 9 ∨ i' = 10 ∨ i' = 11 ∨ i' = 12 ∨ i' = 13 ∨ i' = 14 ∨ i' = 15 ∨ i' = 16 ∨ i' = 17 ∨ i' = 18 ∨ i' = 19 ∨ i' = 20 ∨ i' = 21 ∨ i' = 22 ∨ i' = 23 ∨ i' = 24 ∨ i' = 25 ∨ i' = 26 ∨ i' = 27 ∨ i' = 28 ∨ i' = 29 ∨ i' = 30 ∨ i' = 31 ∨ i' = 32 ∨ i' = 33 ∨ i' = 34 ∨ i' = 35 from by omega) with rfl | rfl | rfl | rfl | rfl | rfl | rfl | rfl | rfl | rfl | rfl | rfl | rfl | rfl | rfl | rfl | rfl | rfl | rfl | rfl | rfl | rfl | rfl | rfl | rfl | rfl | rfl | rfl | rfl | rfl | rfl | rfl | rfl | rfl | rfl | rfl
      · have e0 := (eval_tmp a 0).symm.trans ((hS.kept 0 (by kernel_rfl)).trans rfl)
        refine wpOp_step rfl (fun K' hK' => ?_)
        go_simp
        exact hK' _ _ (hK _ _ (hS.put hon (i := 0) rfl rfl (fun u hu => by cases hu; rfl)) (hJ.pure (by decide) (by decide)))
      · have e0 := (eval_tmp a 0).symm.trans ((hS.kept 0 (by kernel_rfl)).trans rfl)
        refine wpOp_step rfl (fun K' hK' => ?_)
        go_simp
        exact hK' _ _ (hK _ _ (hS.put hon (i := 1) rfl rfl (fun u hu => by cases hu; rfl)) (hJ.pure (by decide) (by decide)))
      · have e0 := (eval_tmp a 0).symm.trans ((hS.kept 0 (by kernel_rfl)).trans rfl)
        refine wpOp_step rfl (fun K' hK' => ?_)
        go_simp
        exact hK' _ _ (hK _ _ (hS.put hon (i := 2) rfl rfl (fun u hu => by cases hu; rfl)) (hJ.pure (by decide) (by decide)))
      · have e0 := (eval_tmp a 0).symm.trans ((hS.kept 0 (by kernel_rfl)).trans rfl)
        refine wpOp_step rfl (fun K' hK' => ?_)
        go_simp
        exact hK' _ _ (hK _ _ (hS.put hon (i := 3) rfl rfl (fun u hu => by cases hu; rfl)) (hJ.pure (by decide) (by decide)))
      · have e281 := (eval_tmp a 281).symm.trans (hS.get hB (i := 4) rfl 3 (by simp) rfl rfl rfl)
        refine wpOp_step rfl (fun K' hK' => ?_)
        go_simp
        exact hK' _ _ (hK _ _ (hS.put hon (i := 4) rfl rfl (fun u hu => by cases hu; rfl)) (hJ.pure (by decide) (by decide)))
      · have e282 := (eval_tmp a 282).symm.trans (hS.get hB (i := 5) rfl 4 (by simp) rfl rfl rfl)
        refine wpOp_step rfl (fun K' hK' => ?_)
        go_simp
        exact hK' _ _ (hK _ _ (hS.put hon (i := 5) rfl rfl (fun u hu => by cases hu; rfl)) (hJ.pure (by decide) (by decide)))
      · have e283 := (eval_tmp a 283).symm.trans (hS.get hB (i := 6) rfl 5 (by simp) rfl rfl rfl)
        have hl29 : l 29 = false := closed_not hC hl (i := 29) (j := 6) rfl (g := .phase) (by simp) rfl
        have hc := hJ.cells.1 hl29
        refine wpOp_step rfl (fun K' hK' => ?_)
        go_simp
        exact hK' _ _ (hK _ _ (hS.put hon (i := 6) rfl rfl (fun u hu => by cases hu; rfl)) (hJ.pure (by decide) (by decide)))
      · have e11 := (eval_tmp a 11).symm.trans ((hS.kept 11 (by kernel_rfl)).trans rfl)
        refine wpOp_step rfl (fun K' hK' => ?_)
        go_simp
        exact hK' _ _ (hK _ _ (hS.put hon (i := 7) rfl rfl (fun u hu => by cases hu; rfl)) (hJ.pure (by decide) (by decide)))
      · have e11 := (eval_tmp a 11).symm.trans ((hS.kept 11 (by kernel_rfl)).trans rfl)
        refine wpOp_step rfl (fun K' hK' => ?_)
        go_simp
        exact hK' _ _ (hK _ _ (hS.put hon (i := 8) rfl rfl (fun u hu => by cases hu; rfl)) (hJ.pure (by decide) (by decide)))
      · have e286 := (eval_tmp a 286).symm.trans (hS.get hB (i := 9) rfl 8 (by simp) rfl rfl rfl)
        refine wpOp_step rfl (fun K' hK' => ?_)
        go_simp
        exact hK' _ _ (hK _ _ (hS.put hon (i := 9) rfl rfl (fun u hu => by cases hu; rw [show IntKind.i64.wrap ((i : Int) + 1) = (i : Int) + 1 from wrap_one i hib])) (hJ.pure (by decide) (by decide)))
      · have e284 := (hS.get hB (i := 10) rfl 6 (by simp) rfl rfl rfl)
        have e285 := (hS.get hB (i := 10) rfl 7 (by simp) rfl rfl rfl)
        have e287 := (hS.get hB (i := 10) rfl 9 (by simp) rfl rfl rfl)
        have hl29 : l 29 = false := closed_not hC hl (i := 29) (j := 10) rfl (g := .data) (by simp) rfl
        refine wpOp_step rfl (fun K' hK' => step_call3R rfl (.tmp 284) (.tmp 285) (.tmp 287) 26 _ _ _ rfl _ _ _ e284 e285 e287 enters26 (del26 (hJ.rows.1 hl) hi1 _ _ rfl rfl) (fun v' w' hR => hK' _ _ (hK _ _ (hS.put hon (i := 10) rfl rfl (fun u hu => by cases hu)) ?_)))
        exact hJ.call1 (Nat.lt_of_lt_of_eq (by decide : 288 < 311) hS.size.symm) hl hl29 (by decide) (by decide) hR.2.1 hR.1 (.inl hR.2.2)
      · have e0 := (eval_tmp a 0).symm.trans ((hS.kept 0 (by kernel_rfl)).trans rfl)
        refine wpOp_step rfl (fun K' hK' => ?_)
        go_simp
        exact hK' _ _ (hK _ _ (hS.put hon (i := 11) rfl rfl (fun u hu => by cases hu; rfl)) (hJ.pure (by decide) (by decide)))
      · have e289 := (eval_tmp a 289).symm.trans (hS.get hB (i := 12) rfl 11 (by simp) rfl rfl rfl)
        refine wpOp_step rfl (fun K' hK' => ?_)
        go_simp
        exact hK' _ _ (hK _ _ (hS.put hon (i := 12) rfl rfl (fun u hu => by cases hu; rfl)) (hJ.pure (by decide) (by decide)))
      · have e290 := (eval_tmp a 290).symm.trans (hS.get hB (i := 13) rfl 12 (by simp) rfl rfl rfl)
        refine wpOp_step rfl (fun K' hK' => ?_)
        go_simp
        exact hK' _ _ (hK _ _ (hS.put hon (i := 13) rfl rfl (fun u hu => by cases hu; rfl)) (hJ.pure (by decide) (by decide)))
      · have e291 := (eval_tmp a 291).symm.trans (hS.get hB (i := 14) rfl 13 (by simp) rfl rfl rfl)
        have hl32 : l 32 = false := closed_not hC hl (i := 32) (j := 14) rfl (g := .phase) (by simp) rfl
        have hc := hJ.cells.2.1 hl32
        refine wpOp_step rfl (fun K' hK' => ?_)
        go_simp
        exact hK' _ _ (hK _ _ (hS.put hon (i := 14) rfl rfl (fun u hu => by cases hu; rfl)) (hJ.pure (by decide) (by decide)))
      · have e11 := (eval_tmp a 11).symm.trans ((hS.kept 11 (by kernel_rfl)).trans rfl)
        refine wpOp_step rfl (fun K' hK' => ?_)
        go_simp
        exact hK' _ _ (hK _ _ (hS.put hon (i := 15) rfl rfl (fun u hu => by cases hu; rfl)) (hJ.pure (by decide) (by decide)))
      · have e11 := (eval_tmp a 11).symm.trans ((hS.kept 11 (by kernel_rfl)).trans rfl)
        refine wpOp_step rfl (fun K' hK' => ?_)
        go_simp
        exact hK' _ _ (hK _ _ (hS.put hon (i := 16) rfl rfl (fun u hu => by cases hu; rfl)) (hJ.pure (by decide) (by decide)))
      · have e294 := (eval_tmp a 294).symm.trans (hS.get hB (i := 17) rfl 16 (by simp) rfl rfl rfl)
        refine wpOp_step rfl (fun K' hK' => ?_)
        go_simp
        exact hK' _ _ (hK _ _ (hS.put hon (i := 17) rfl rfl (fun u hu => by cases hu; rw [show IntKind.i64.wrap ((i : Int) + 1) = (i : Int) + 1 from wrap_one i hib])) (hJ.pure (by decide) (by decide)))
      · have e292 := (hS.get hB (i := 18) rfl 14 (by simp) rfl rfl rfl)
        have e293 := (hS.get hB (i := 18) rfl 15 (by simp) rfl rfl rfl)
        have e295 := (hS.get hB (i := 18) rfl 17 (by simp) rfl rfl rfl)
        have hl32 : l 32 = false := closed_not hC hl (i := 32) (j := 18) rfl (g := .data) (by simp) rfl
        refine wpOp_step rfl (fun K' hK' => step_call3R rfl (.tmp 292) (.tmp 293) (.tmp 295) 32 _ _ _ rfl _ _ _ e292 e293 e295 enters32 (del32 (hJ.rows.2.1 hl) hi2 _ _ rfl rfl) (fun v' w' hR => hK' _ _ (hK _ _ (hS.put hon (i := 18) rfl rfl (fun u hu => by cases hu)) ?_)))
        exact hJ.call2 (Nat.lt_of_lt_of_eq (by decide : 296 < 311) hS.size.symm) hl hl32 (by decide) (by decide) hR.2.1 hR.1 (.inl hR.2.2)
      · have e0 := (eval_tmp a 0).symm.trans ((hS.kept 0 (by kernel_rfl)).trans rfl)
        refine wpOp_step rfl (fun K' hK' => ?_)
        go_simp
        exact hK' _ _ (hK _ _ (hS.put hon (i := 19) rfl rfl (fun u hu => by cases hu; rfl)) (hJ.pure (by decide) (by decide)))
      · have e297 := (eval_tmp a 297).symm.trans (hS.get hB (i := 20) rfl 19 (by simp) rfl rfl rfl)
        refine wpOp_step rfl (fun K' hK' => ?_)
        go_simp
        exact hK' _ _ (hK _ _ (hS.put hon (i := 20) rfl rfl (fun u hu => by cases hu; rfl)) (hJ.pure (by decide) (by decide)))
      · have e298 := (eval_tmp a 298).symm.trans (hS.get hB (i := 21) rfl 20 (by simp) rfl rfl rfl)
        refine wpOp_step rfl (fun K' hK' => ?_)
        go_simp
        exact hK' _ _ (hK _ _ (hS.put hon (i := 21) rfl rfl (fun u hu => by cases hu; rfl)) (hJ.pure (by decide) (by decide)))
      · have e299 := (eval_tmp a 299).symm.trans (hS.get hB (i := 22) rfl 21 (by simp) rfl rfl rfl)
        have hl35 : l 35 = false := closed_not hC hl (i := 35) (j := 22) rfl (g := .phase) (by simp) rfl
        have hc := hJ.cells.2.2.1 hl35
        refine wpOp_step rfl (fun K' hK' => ?_)
        go_simp
        exact hK' _ _ (hK _ _ (hS.put hon (i := 22) rfl rfl (fun u hu => by cases hu; rfl)) (hJ.pure (by decide) (by decide)))
      · have e11 := (eval_tmp a 11).symm.trans ((hS.kept 11 (by kernel_rfl)).trans rfl)
        refine wpOp_step rfl (fun K' hK' => ?_)
        go_simp
        exact hK' _ _ (hK _ _ (hS.put hon (i := 23) rfl rfl (fun u hu => by cases hu; rfl)) (hJ.pure (by decide) (by decide)))
      · have e11 := (eval_tmp a 11).symm.trans ((hS.kept 11 (by kernel_rfl)).trans rfl)
        refine wpOp_step rfl (fun K' hK' => ?_)
        go_simp
        exact hK' _ _ (hK _ _ (hS.put hon (i := 24) rfl rfl (fun u hu => by cases hu; rfl)) (hJ.pure (by decide) (by decide)))
      · have e302 := (eval_tmp a 302).symm.trans (hS.get hB (i := 25) rfl 24 (by simp) rfl rfl rfl)
        refine wpOp_step rfl (fun K' hK' => ?_)
        go_simp
        exact hK' _ _ (hK _ _ (hS.put hon (i := 25) rfl rfl (fun u hu => by cases hu; rw [show IntKind.i64.wrap ((i : Int) + 1) = (i : Int) + 1 from wrap_one i hib])) (hJ.pure (by decide) (by decide)))
      · have e300 := (hS.get hB (i := 26) rfl 22 (by simp) rfl rfl rfl)
        have e301 := (hS.get hB (i := 26) rfl 23 (by simp) rfl rfl rfl)
        have e303 := (hS.get hB (i := 26) rfl 25 (by simp) rfl rfl rfl)
        have hl35 : l 35 = false := closed_not hC hl (i := 35) (j := 26) rfl (g := .data) (by simp) rfl
        refine wpOp_step rfl (fun K' hK' => step_call3R rfl (.tmp 300) (.tmp 301) (.tmp 303) 33 _ _ _ rfl _ _ _ e300 e301 e303 enters33 (del33 (hJ.rows.2.2 hl) hi3 _ _ rfl rfl) (fun v' w' hR => hK' _ _ (hK _ _ (hS.put hon (i := 26) rfl rfl (fun u hu => by cases hu)) ?_)))
        exact hJ.call3 (Nat.lt_of_lt_of_eq (by decide : 304 < 311) hS.size.symm) hl hl35 (by decide) (by decide) hR.2.1 hR.1 
      · have e278 := (eval_tmp a 278).symm.trans (hS.get hB (i := 27) rfl 0 (by simp) rfl rfl rfl)
        refine wpOp_step rfl (fun K' hK' => ?_)
        go_simp
        exact hK' _ _ (hK _ _ (hS.put hon (i := 27) rfl rfl (fun u hu => by cases hu; rfl)) (hJ.pure (by decide) (by decide)))
      · have e305 := (eval_tmp a 305).symm.trans (hS.get hB (i := 28) rfl 27 (by simp) rfl rfl rfl)
        refine wpOp_step rfl (fun K' hK' => ?_)
        go_simp
        exact hK' _ _ (hK _ _ (hS.put hon (i := 28) rfl rfl (fun u hu => by cases hu; rfl)) (hJ.pure (by decide) (by decide)))
      · have e306 := (eval_tmp a 306).symm.trans (hS.get hB (i := 29) rfl 28 (by simp) rfl rfl rfl)
        obtain ⟨ao, cap, hv, _, _⟩ := row_shape (hJ.now.1 (hB _ rfl ⟨10, .data⟩ (by simp) rfl))
        have ev := (eval_tmp a 288).symm.trans hv
        obtain ⟨_, _, _, ⟨u1, hu1⟩, ⟨u2, hu2⟩, ⟨u3, hu3⟩, cf⟩ := hJ.cells
        have hj := hJ.store1 (by decide)
        rw [hv] at hj
        refine wpOp_step rfl (fun K' hK' => ?_)
        go_simp
        exact hK' _ _ (hK _ _ (hS.none (i := 29) rfl rfl) hj)
      · have e279 := (eval_tmp a 279).symm.trans (hS.get hB (i := 30) rfl 1 (by simp) rfl rfl rfl)
        refine wpOp_step rfl (fun K' hK' => ?_)
        go_simp
        exact hK' _ _ (hK _ _ (hS.put hon (i := 30) rfl rfl (fun u hu => by cases hu; rfl)) (hJ.pure (by decide) (by decide)))
      · have e307 := (eval_tmp a 307).symm.trans (hS.get hB (i := 31) rfl 30 (by simp) rfl rfl rfl)
        refine wpOp_step rfl (fun K' hK' => ?_)
        go_simp
        exact hK' _ _ (hK _ _ (hS.put hon (i := 31) rfl rfl (fun u hu => by cases hu; rfl)) (hJ.pure (by decide) (by decide)))
      · have e308 := (eval_tmp a 308).symm.trans (hS.get hB (i := 32) rfl 31 (by simp) rfl rfl rfl)
        obtain ⟨ao, cap, hv, _, _⟩ := row_shape (hJ.now.2.1 (hB _ rfl ⟨18, .data⟩ (by simp) rfl))
        have ev := (eval_tmp a 296).symm.trans hv
        obtain ⟨_, _, _, ⟨u1, hu1⟩, ⟨u2, hu2⟩, ⟨u3, hu3⟩, cf⟩ := hJ.cells
        have hj := hJ.store2 (by decide)
        rw [hv] at hj
        refine wpOp_step rfl (fun K' hK' => ?_)
        go_simp
        exact hK' _ _ (hK _ _ (hS.none (i := 32) rfl rfl) hj)
      · have e280 := (eval_tmp a 280).symm.trans (hS.get hB (i := 33) rfl 2 (by simp) rfl rfl rfl)
        refine wpOp_step rfl (fun K' hK' => ?_)
        go_simp
        exact hK' _ _ (hK _ _ (hS.put hon (i := 33) rfl rfl (fun u hu => by cases hu; rfl)) (hJ.pure (by decide) (by decide)))
      · have e309 := (eval_tmp a 309).symm.trans (hS.get hB (i := 34) rfl 33 (by simp) rfl rfl rfl)
        refine wpOp_step rfl (fun K' hK' => ?_)
        go_simp
        exact hK' _ _ (hK _ _ (hS.put hon (i := 34) rfl rfl (fun u hu => by cases hu; rfl)) (hJ.pure (by decide) (by decide)))
      · have e310 := (eval_tmp a 310).symm.trans (hS.get hB (i := 35) rfl 34 (by simp) rfl rfl rfl)
        obtain ⟨ao, cap, hv, _, _⟩ := row_shape (hJ.now.2.2 (hB _ rfl ⟨26, .data⟩ (by simp) rfl))
        have ev := (eval_tmp a 304).symm.trans hv
        obtain ⟨_, _, _, ⟨u1, hu1⟩, ⟨u2, hu2⟩, ⟨u3, hu3⟩, cf⟩ := hJ.cells
        have hj := hJ.store3 (by decide)
        rw [hv] at hj
        refine wpOp_step rfl (fun K' hK' => ?_)
        go_simp
        exact hK' _ _ (hK _ _ (hS.none (i := 35) rfl rfl) hj)
    · intro l a w' hl hS hJ
      have hF := hJ.final ⟨hl 10 (by decide), hl 18 (by decide), hl 26 (by decide), hl 29 (by decide), hl 32 (by decide), hl 35 (by decide)⟩
      have hMF : MI base mb w' qs (L.eraseIdx i) (G ++ [(p.n, p.u)]) := WR.done (by rw [refL_erase, owL_erase, moL_erase]; exact hF)
      exact (‹∀ (a : Act) (w : World), Code.wp Try.prog _ _ a w → _› a w' (ret_true hS.size hS.defers (show Ending.returned (.bool true) = .returned (.bool true) ∧ PO base ab mb (k + 1) w w' from ⟨rfl, _, _, _, _, hA5.fr hF.fr (by intro t ht; simp [isA] at ht; simp [isM, only]; omega), hMF, HPD.out, B5.trans (hF.fr.below hbc)⟩)))
end Go.Proofs.Ytbbmcggalffecaa

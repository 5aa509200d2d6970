/-
  SweepReaches: what is reached is what going round till nothing changes finds.
  Conditions: as each theorem says.
-/
import Derived.Test.YtebcojkeblpbjaaSwKeep
namespace Go.Proofs.Ytebcojkeblpbjaa
open Go.ChangeShapes Go.WideShapes Go.ChangeAt Go.RowKit Go.Maps Go.Sort Go.Lib
set_option linter.unusedVariables false
set_option maxRecDepth 100000 in
set_option maxHeartbeats 4000000 in
theorem reaches_any {w : World} {a : Option Addr} {len cap : Nat} {L : List OO} {rv : Value} {lr : List Int} {d : Int} (hl : len ≤ maxLen) (hL : (len = 0 ∧ L = []) ∨ (L.length = len ∧ ORowU w (.slice a len cap) L)) (hR : BRow w rv lr) (hd0 : 0 ≤ d) (hd1 : d ≤ 255) :
    Calls Try.prog 4 #[.slice a len cap, rv, .int .u8 d] w fun e w' => e = .returned (.bool true) ∧ Below w.heap.size w w' := by
  have HL : Hid ((len = 0 ∧ L = []) ∨ (L.length = len ∧ ORowU w (.slice a len cap) L)) := hL
  have HR : Hid (BRow w rv lr) := hR
  clear hL hR
  unfold maxLen at hl
  go_enter Try.func4, Try.ntmps4
  go_wp2_with fail
  refine (awake4 _).mono ?_
  rintro e w1 ⟨rfl, hw1⟩
  have hbd : w1.heap[w.heap.size]? = some (.cells #[.int .u8 d] 5 (0, 0)) := (hw1.block _ (by simp)).trans (heap_alloc_new w _)
  have hb0 : Below w.heap.size w w1 := ((Below.refl _ w).alloc (Nat.le_refl _) _).trans (hw1.mono (by simp))
  clear hw1
  go_wp2_with fail
  have hL1 : (len = 0 ∧ L = []) ∨ (L.length = len ∧ ORowU w1 (.slice a len cap) L) := HL.out.imp id (fun h => ⟨h.1, h.2.below hb0⟩)
  refine (light_any (by unfold maxLen; exact hl) hL1 (HR.out.below hb0)).mono ?_
  rintro e w2 ⟨rfl, hw2⟩
  cases hlt : lightB L lr with
  | false =>
    go_wp2
    go_ret
    exact ⟨rfl, hb0.trans (hw2.mono hb0.size)⟩
  | true =>
    obtain ⟨n10, l30, l0, r10⟩ := light_facts hlt
    have hb2' := hb0.trans (hw2.mono hb0.size)
    rcases HL.out with ⟨_, h⟩ | ⟨rfl, hO⟩
    · rw [h] at l0; simp at l0
    · have hO2 : ORow w2 (.slice a L.length cap) L := (hO.below hb2').row n10
      have hmem : ∀ (j : Nat) (oo : OO), L[j]? = some oo → oo.names.length ≤ 10 ∧ 0 ≤ oo.mem := fun j oo hj => ⟨n10 j oo hj, by obtain ⟨_, _, _, _, _, _, h4⟩ := hO; obtain ⟨_, _, _, _, _, _, h0, _⟩ := h4 j oo hj; exact h0⟩
      have hbd2 := (hw2.block _ (lt_of_block hbd)).trans hbd
      clear hL1 hw2 hb0 hbd hO hlt
      go_wp2_with fail
      refine (mkArena hO2 (by omega) l0).mono ?_
      rintro e w3 ⟨fv, B, M, s, rfl, ⟨done, hd, hM⟩, hrow, hc⟩
      obtain ⟨rg, cr, cur, rfl, hcr1, hcr2, _, _⟩ := row_at hrow l0
      have hrgl := (hrow.lt rg rfl)
      have hw3 := hb2'.trans (hM.below.mono hb2'.size)
      have hbd3 := (hM.below.block _ (lt_of_block hbd2)).trans hbd2
      have hJ : Jr w w2 w3 w.heap.size rg cr d (.slice a L.length cap) rv lr w2.heap.size L done B M s :=
        ⟨hw3, hbd3, ⟨hrgl.2, fun j hj => by rw [hrow.cellAt j (by omega)]; simp [refRow, refsTo, hj]⟩, HR.out.below hw3, hO2.below hM.below, hM, hd, hmem, l30, l0, hcr2, hd0, hd1, hw3.size⟩
      clear hrow hc hM hbd3 hbd2 hb2' hO2 hd hmem n10 HL HR hw3 hrgl
      unfold maxLen at hcr2
      obtain ⟨ra, rcap, hrv, hr1, hr2, hr3, hr4⟩ := hJ.row
      subst hrv
      unfold maxLen at hr2
      have HX : Hid (∀ x ∈ lr, 0 ≤ x ∧ x ≤ 255) := hr3
      have HG : Hid (lr ≠ [] → ∃ g off, ra = some ⟨g, off, none⟩ ∧ g < w3.heap.size ∧ ∀ j x, lr[j]? = some x → w3.cell? ⟨g, off + j, none⟩ = some (.int .u8 x)) := hr4
      have HJ : Hid (Jr w w2 w3 w.heap.size rg cr d (.slice a L.length cap) (.slice ra lr.length rcap) lr w2.heap.size L done B M s) := hJ
      clear hr3 hr4 hJ
      go_wp2_with fail
      go_loopw [38, 10, 11] (fun i vf va wr => ∃ k : Nat, k ≤ lr.length ∧ i = .int .i64 k ∧ Hid (wr.ownsRow w3.heap.size 28 1 vf k (refRow (picks L.length (lr.take k)))) ∧ Hid (wr.ownsRow w3.heap.size 3 1 va k (numRow (nums L.length (lr.take k)))) ∧ Hid (Below w3.heap.size w3 wr))
        (fun i _ _ _ => lr.length - (intOf i).toNat)
      case atStart => exact ⟨0, Nat.zero_le _, rfl, World.ownsRow_nil _ _ _ _, World.ownsRow_nil _ _ _ _, Below.refl _ _⟩
      case round =>
        obtain ⟨k, hk, rfl, HF, HA, HB⟩ := hrel
        by_cases hlt : k < lr.length
        · obtain ⟨x, hx⟩ : ∃ x, lr[k]? = some x := ⟨_, List.getElem?_eq_getElem hlt⟩
          have hxr := HX.out x (List.mem_of_getElem? hx)
          obtain ⟨t, rfl⟩ : ∃ t : Nat, x = (t : Int) := ⟨x.toNat, by omega⟩
          obtain ⟨g, off, hga, hgl, hgc⟩ := HG.out (by rintro e; rw [e] at hlt; simp at hlt)
          subst hga
          have q0 := (HB.out.cell (p := ⟨g, off + k, none⟩) hgl).trans (hgc k _ hx)
          have htl : t % L.length < L.length := Nat.mod_lt _ l0
          have hR2 := HJ.out.refs
          have hrl := hR2.1
          have hidx : 0 ≤ (k : Int) ∧ (k : Int) < (lr.length : Int) := ⟨by omega, by omega⟩
          have ht255 : t ≤ 255 := by omega
          have HS : Hid (picks L.length (lr.take (k + 1)) = picks L.length (lr.take k) ++ [refI (t % L.length)]) := by show _ = _; rw [picks_snoc hx, atN_nat]
          have HN : Hid (nums L.length (lr.take (k + 1)) = nums L.length (lr.take k) ++ [t % L.length]) := by show _ = _; rw [nums_snoc hx, atN_nat]
          have HR2 : Hid (RefsAt w3 rg L.length) := hR2
          clear hx hgc hR2
          go_wp2_with fail
          --REGION
          have hne : ¬ L.length = 0 := by omega
          have hn0 : ((L.length : Int) == 0) = false := by rw [beq_eq_false_iff_ne]; omega
          have hwt : IntKind.i64.wrap (t : Int) = (t : Int) := by simp [IntKind.wrap, IntKind.bits, IntKind.signed]; omega
          have htm : ((t : Int)).tmod (L.length : Int) = ((t % L.length : Nat) : Int) := by rw [Int.tmod_eq_emod_of_nonneg (by omega)]; omega
          have hix : 0 ≤ (t : Int) % (L.length : Int) ∧ (t : Int) % (L.length : Int) < (L.length : Int) := ⟨by omega, by omega⟩
          have htn : ((t : Int) % (L.length : Int)).toNat = t % L.length := by omega
          have hkk : k ≤ 10 := by omega
          refine region_sh (valP u10 u11 a rg cr L.length cap t) (Tx w3.heap.size w3 28 3 u10 u11 k k (refRow (picks L.length (lr.take k))) (numRow (nums L.length (lr.take k))) (.int .u64 (refI (t % L.length))) (.int .i64 ((t : Int) % (L.length : Int))) 9 10 17 18 51 52 59 60 10 11 19 20) (by kernel_rfl) (by kernel_rfl) (by kernel_rfl) ⟨Tw.start HB.out HF.out HA.out (apart_of HF.out HA.out (by decide)), rfl, rfl⟩ ?_ ?_
          · intro hon q hq l a1 w hC hl hB hS hJ K hK
            have hq21 : q < 21 := hq
            clear hq HF HA HB HS HN HX HG HJ
            rcases (show q = 0 ∨ q = 1 ∨ q = 2 ∨ q = 3 ∨ q = 4 ∨ q = 5 ∨ q = 6 ∨ q = 7 ∨ q = 8 ∨ q = 9 ∨ q = 10 ∨ q = 11 ∨ q = 12 ∨ q = 13 ∨ q = 14 ∨ q = 15 ∨ q = 16 ∨ q = 17 ∨ q = 18 ∨ q = 19 ∨ q = 20 from by omega) with rfl | rfl | rfl | rfl | rfl | rfl | rfl | rfl | rfl | rfl | rfl | rfl | rfl | rfl | rfl | rfl | rfl | rfl | rfl | rfl | rfl
            · have hl19 : l 19 = false := closed_not hC hl (i := 19) (j := 0) rfl (g := .phase) (by simp) rfl
              have e10 := (eval_tmp a1 10).symm.trans (show a1.eval (.tmp 10) = u10 from by have h := hJ.2.1; rw [hl19] at h; exact h)
              refine wpOp_step rfl (fun K' hK' => ?_)
              go_simp
              exact hK' _ _ (hK _ _ (hS.put hon (i := 0) rfl rfl (fun u hu => by cases hu; rfl)) (hJ.pure (by decide) (by decide)))
            · have e8 := (eval_tmp a1 8).symm.trans ((hS.kept 8 (by kernel_rfl)).trans rfl)
              refine wpOp_step rfl (fun K' hK' => ?_)
              go_simp
              exact hK' _ _ (hK _ _ (hS.put hon (i := 1) rfl rfl (fun u hu => by cases hu; rfl)) (hJ.pure (by decide) (by decide)))
            · have e13 := (eval_tmp a1 13).symm.trans ((hS.kept 13 (by kernel_rfl)).trans rfl)
              refine wpOp_step rfl (fun K' hK' => ?_)
              go_simp
              exact hK' _ _ (hK _ _ (hS.put hon (i := 2) rfl rfl (fun u hu => by cases hu; rfl)) (hJ.pure (by decide) (by decide)))
            · have e44 := (eval_tmp a1 44).symm.trans (hS.get hB (i := 3) rfl 2 (by simp) rfl rfl rfl)
              refine wpOp_step rfl (fun K' hK' => ?_)
              go_simp
              exact hK' _ _ (hK _ _ (hS.put hon (i := 3) rfl rfl (fun u hu => by cases hu; rfl)) (hJ.pure (by decide) (by decide)))
            · have e0 := (eval_tmp a1 0).symm.trans ((hS.kept 0 (by kernel_rfl)).trans rfl)
              refine wpOp_step rfl (fun K' hK' => ?_)
              go_simp
              exact hK' _ _ (hK _ _ (hS.put hon (i := 4) rfl rfl (fun u hu => by cases hu; rfl)) (hJ.pure (by decide) (by decide)))
            · have e46 := (eval_tmp a1 46).symm.trans (hS.get hB (i := 5) rfl 4 (by simp) rfl rfl rfl)
              refine wpOp_step rfl (fun K' hK' => ?_)
              go_simp
              exact hK' _ _ (hK _ _ (hS.put hon (i := 5) rfl rfl (fun u hu => by cases hu; rfl)) (hJ.pure (by decide) (by decide)))
            · have e45 := (eval_tmp a1 45).symm.trans (hS.get hB (i := 6) rfl 3 (by simp) rfl rfl rfl)
              have e47 := (eval_tmp a1 47).symm.trans (hS.get hB (i := 6) rfl 5 (by simp) rfl rfl rfl)
              refine wpOp_step rfl (fun K' hK' => ?_)
              go_simp
              exact hK' _ _ (hK _ _ (hS.put hon (i := 6) rfl rfl (fun u hu => by cases hu; rfl)) (hJ.pure (by decide) (by decide)))
            · have e43 := (eval_tmp a1 43).symm.trans (hS.get hB (i := 7) rfl 1 (by simp) rfl rfl rfl)
              have e48 := (eval_tmp a1 48).symm.trans (hS.get hB (i := 7) rfl 6 (by simp) rfl rfl rfl)
              refine wpOp_step rfl (fun K' hK' => ?_)
              go_simp
              exact hK' _ _ (hK _ _ (hS.put hon (i := 7) rfl rfl (fun u hu => by cases hu; rfl)) (hJ.pure (by decide) (by decide)))
            · have e49 := (eval_tmp a1 49).symm.trans (hS.get hB (i := 8) rfl 7 (by simp) rfl rfl rfl)
              have hc := (hJ.1.below.cell (p := ⟨rg, t % L.length, none⟩) HR2.out.1).trans (HR2.out.2 _ htl)
              refine wpOp_step rfl (fun K' hK' => ?_)
              go_simp
              exact hK' _ _ (hK _ _ (hS.put hon (i := 8) rfl rfl (fun u hu => by cases hu; rfl)) (hJ.pure (by decide) (by decide)))
            · have e50 := (eval_tmp a1 50).symm.trans (hS.get hB (i := 9) rfl 8 (by simp) rfl rfl rfl)
              have hl10 : l 10 = false := closed_not hC hl (i := 10) (j := 9) rfl (g := .data) (by simp) rfl
              refine wpOp_step rfl (fun K' hK' => ?_)
              go_simp
              exact hK' _ _ (hK _ _ (hS.put hon (i := 9) rfl rfl (fun u hu => by cases hu)) (hJ.alloc1 (Nat.le_refl _) hl hl10 (by decide) (by decide) (by rw [hS.size]; exact (by decide : (51 : Nat) < 100))))
            · have e42 := hS.get hB (i := 10) rfl 0 (by simp) rfl rfl rfl
              have hl19 : l 19 = false := closed_not hC hl (i := 19) (j := 10) rfl (g := .data) (by simp) rfl
              have hli : l 9 = true := hB _ rfl ⟨9, .data⟩ (by simp) rfl
              obtain ⟨ti, hti, hz0, hz1, hz2⟩ := info_parts Try.info28
              obtain ⟨gb, v', w', g1, hrun, hT⟩ := hJ.app1 (Pg := Try.prog) (t := 44) (ty := 44) (Nat.le_refl _) Try.underlying44 hti hz0 hz1 hz2 rfl rfl (by unfold maxLen; omega) (by omega) hli hl hl19 (by decide) (by decide) (by rw [hS.size]; exact (by decide : (52 : Nat) < 100))
              refine wpOp_run rfl rfl (v := v') (w' := w') ?_ (hK _ _ (hS.put hon (i := 10) rfl rfl (fun u hu => by cases hu)) hT)
              simp [execOp, resolve, invoke, builtin, e42, g1, hrun, Result.andThen]
            · have hl20 : l 20 = false := closed_not hC hl (i := 20) (j := 11) rfl (g := .phase) (by simp) rfl
              have e11 := (eval_tmp a1 11).symm.trans (show a1.eval (.tmp 11) = u11 from by have h := hJ.2.2; rw [hl20] at h; exact h)
              refine wpOp_step rfl (fun K' hK' => ?_)
              go_simp
              exact hK' _ _ (hK _ _ (hS.put hon (i := 11) rfl rfl (fun u hu => by cases hu; rfl)) (hJ.pure (by decide) (by decide)))
            · have e13 := (eval_tmp a1 13).symm.trans ((hS.kept 13 (by kernel_rfl)).trans rfl)
              refine wpOp_step rfl (fun K' hK' => ?_)
              go_simp
              exact hK' _ _ (hK _ _ (hS.put hon (i := 12) rfl rfl (fun u hu => by cases hu; rfl)) (hJ.pure (by decide) (by decide)))
            · have e54 := (eval_tmp a1 54).symm.trans (hS.get hB (i := 13) rfl 12 (by simp) rfl rfl rfl)
              refine wpOp_step rfl (fun K' hK' => ?_)
              go_simp
              exact hK' _ _ (hK _ _ (hS.put hon (i := 13) rfl rfl (fun u hu => by cases hu; rfl)) (hJ.pure (by decide) (by decide)))
            · have e0 := (eval_tmp a1 0).symm.trans ((hS.kept 0 (by kernel_rfl)).trans rfl)
              refine wpOp_step rfl (fun K' hK' => ?_)
              go_simp
              exact hK' _ _ (hK _ _ (hS.put hon (i := 14) rfl rfl (fun u hu => by cases hu; rfl)) (hJ.pure (by decide) (by decide)))
            · have e56 := (eval_tmp a1 56).symm.trans (hS.get hB (i := 15) rfl 14 (by simp) rfl rfl rfl)
              refine wpOp_step rfl (fun K' hK' => ?_)
              go_simp
              exact hK' _ _ (hK _ _ (hS.put hon (i := 15) rfl rfl (fun u hu => by cases hu; rfl)) (hJ.pure (by decide) (by decide)))
            · have e55 := (eval_tmp a1 55).symm.trans (hS.get hB (i := 16) rfl 13 (by simp) rfl rfl rfl)
              have e57 := (eval_tmp a1 57).symm.trans (hS.get hB (i := 16) rfl 15 (by simp) rfl rfl rfl)
              refine wpOp_step rfl (fun K' hK' => ?_)
              go_simp
              exact hK' _ _ (hK _ _ (hS.put hon (i := 16) rfl rfl (fun u hu => by cases hu; rfl)) (hJ.pure (by decide) (by decide)))
            · have e58 := (eval_tmp a1 58).symm.trans (hS.get hB (i := 17) rfl 16 (by simp) rfl rfl rfl)
              have hl18 : l 18 = false := closed_not hC hl (i := 18) (j := 17) rfl (g := .data) (by simp) rfl
              refine wpOp_step rfl (fun K' hK' => ?_)
              go_simp
              exact hK' _ _ (hK _ _ (hS.put hon (i := 17) rfl rfl (fun u hu => by cases hu)) (hJ.swap.alloc1 (Nat.le_refl _) hl hl18 (by decide) (by decide) (by rw [hS.size]; exact (by decide : (59 : Nat) < 100))).swap)
            · have e53 := hS.get hB (i := 18) rfl 11 (by simp) rfl rfl rfl
              have hl20 : l 20 = false := closed_not hC hl (i := 20) (j := 18) rfl (g := .data) (by simp) rfl
              have hli : l 17 = true := hB _ rfl ⟨17, .data⟩ (by simp) rfl
              obtain ⟨ti, hti, hz0, hz1, hz2⟩ := info_parts info3
              obtain ⟨gb, v', w', g1, hrun, hT⟩ := hJ.swap.app1 (Pg := Try.prog) (t := 58) (ty := 58) (Nat.le_refl _) Try.underlying58 hti hz0 hz1 hz2 rfl rfl (by unfold maxLen; omega) (by omega) hli hl hl20 (by decide) (by decide) (by rw [hS.size]; exact (by decide : (60 : Nat) < 100))
              refine wpOp_run rfl rfl (v := v') (w' := w') ?_ (hK _ _ (hS.put hon (i := 18) rfl rfl (fun u hu => by cases hu)) hT.swap)
              simp [execOp, resolve, invoke, builtin, e53, g1, hrun, Result.andThen]
            · have hj := (hJ.set1 (by decide) (by decide) (by rw [hS.size]; exact (by decide : (10 : Nat) < 100)))
              rw [eval_tmp] at hj
              refine wpOp_step rfl (fun K' hK' => ?_)
              go_simp
              exact hK' _ _ (hK _ _ (hS.put hon (i := 19) rfl rfl (fun u hu => by cases hu)) hj)
            · have hj := (hJ.swap.set1 (by decide) (by decide) (by rw [hS.size]; exact (by decide : (11 : Nat) < 100))).swap
              rw [eval_tmp] at hj
              refine wpOp_step rfl (fun K' hK' => ?_)
              go_simp
              exact hK' _ _ (hK _ _ (hS.put hon (i := 20) rfl rfl (fun u hu => by cases hu)) hj)

          · intro l a1 w' hl hS hJ
            have l10 : l 10 = true := hl 10 (by decide)
            have l18 : l 18 = true := hl 18 (by decide)
            have l19 : l 19 = true := hl 19 (by decide)
            have l20 : l 20 = true := hl 20 (by decide)
            have r1 := hJ.1.row1
            have r2 := hJ.1.row2
            have f10 := hJ.2.1
            have f11 := hJ.2.2
            rw [l19, if_pos rfl] at f10
            rw [l20, if_pos rfl] at f11
            rw [l10] at r1
            rw [l18] at r2
            simp only [if_true] at r1 r2
            rw [← f10, refs_one, ← HS.out] at r1
            rw [← f11, show (t : Int) % (L.length : Int) = ((t % L.length : Nat) : Int) from by omega, numRow_one, ← HN.out] at r2
            have HF2 : Hid (w'.ownsRow w3.heap.size 28 1 (a1.eval (.tmp 10)) (k + 1) (refRow (picks L.length (lr.take (k + 1))))) := r1
            have HA2 : Hid (w'.ownsRow w3.heap.size 3 1 (a1.eval (.tmp 11)) (k + 1) (numRow (nums L.length (lr.take (k + 1))))) := r2
            have HB2 : Hid (Below w3.heap.size w3 w') := hJ.1.below
            have hfr := hS.frame [42, 43, 44, 45, 46, 47, 48, 49, 50, 51, 52, 53, 54, 55, 56, 57, 58, 59, 60, 10, 11] rfl
            refine (‹∀ (a : Act) (w : World), Code.wp Try.prog _ _ a w → _› a1 w' ?_)
            obtain ⟨z, hz⟩ : ∃ z : Nat → Value, z = fun k => a1.eval (.tmp k) := ⟨_, rfl⟩
            rw [← hz] at hfr
            have z10 : a1.eval (.tmp 10) = z 10 := by rw [hz]
            have z11 : a1.eval (.tmp 11) = z 11 := by rw [hz]
            rw [z10] at HF2
            rw [z11] at HA2
            clear hS hJ r1 r2 f10 f11 hz z10 z11 hl l10 l18 l19 l20 HF HA HB
            rw [hfr]
            clear hfr
            simp only [over, List.setIfInBounds_toArray, List.set_cons_zero, List.set_cons_succ]
            go_wp2_with fail
            go_roundw
            case rel => exact ⟨k + 1, by omega, by go_num, HF2, HA2, HB2⟩
            case measure => simp [intOf]; omega
        --REST
        · obtain rfl : k = lr.length := by omega
          have hpl := picks_length L.length lr
          have hnl := nums_length L.length lr
          have HF2 : Hid (wr.ownsRow w3.heap.size 28 1 u10 lr.length (refRow (picks L.length lr))) := by have h := HF.out; rw [List.take_length] at h; exact h
          have HA2 : Hid (wr.ownsRow w3.heap.size 3 1 u11 lr.length (numRow (nums L.length lr))) := by have h := HA.out; rw [List.take_length] at h; exact h
          have HP : Hid (∀ x ∈ picks L.length lr, 0 ≤ x ∧ x ≤ 18446744073709551615) := picks_range l0 (by omega)
          have HQ : Hid (picks L.length lr = picks L.length lr) := rfl
          obtain ⟨P, hP⟩ : ∃ P, P = picks L.length lr := ⟨_, rfl⟩
          have HPP : Hid (P = picks L.length lr) := hP
          rw [← hP] at HF2 hpl HP
          have hw3s : Hid (w3.heap.size ≤ wr.heap.size) := HB.out.size
          clear HF HA HX HG HQ hP
          go_wp2_with fail
          refine (clone_refs (row_roots (by rw [hpl]; exact HF2.out)) (by omega)).mono ?_
          rintro e w5 ⟨vw, rfl, hrw, b5⟩
          have HW5 : Hid (w5.ownsRow wr.heap.size 28 1 vw P.length (refRow P)) := hrw
          have HF5 : Hid (w5.ownsRow w3.heap.size 28 1 u10 lr.length (refRow P)) := row_later HF2.out b5
          have HA5 : Hid (w5.ownsRow w3.heap.size 3 1 u11 lr.length (numRow (nums L.length lr))) := row_later HA2.out b5
          have HB5 : Hid (Below w3.heap.size w3 w5) := HB.out.trans (b5.mono hw3s.out)
          have hap : Hid (vw.ownBlock = none ∨ vw.ownBlock ≠ u10.ownBlock) := rows_two HF2.out hrw
          have hs5 : w3.heap.size ≤ w5.heap.size := HB5.out.size
          clear hrw b5 HB HF2 HA2
          go_wp2_with fail
          refine (of_any 9999 1 (by omega) (by omega) (by omega) (by omega) _).mono ?_
          rintro e w5 ⟨rfl, rfl⟩
          have hri : (1 : Int) * 4294967296 + 9999 = refI 9999 := rfl
          rw [hri]
          obtain ⟨R9, hR9⟩ : ∃ R, R = refI 9999 := ⟨_, rfl⟩
          rw [← hR9]
          have HR9 : Hid (R9 = refI 9999) := hR9
          clear hri hR9
          obtain ⟨ti, hti, hz0, hz1, hz2⟩ := info_parts Try.info28
          go_wp2_with (at_builtin; refine wpList_append_keep rfl (.tmp 65) (.tmp 67) 44 rfl w3.heap.size 28 ti (.int .u64 0) 1 8 Try.underlying44 hti hz0 hz1 hz2 rfl (by decide) u10 lr.length _ rfl (HF5.out.alloc _) ⟨w5.heap.size, 0, none⟩ 2 2 [.int .u64 0, .int .u64 R9] rfl rfl two_news (by intro u hu; simp at hu; rcases hu with rfl | rfl <;> rfl) (by decide) (by unfold maxLen; omega) (by omega) (by simp; omega) ?_)
          intro v6 w6 hown6 hgr6 hkeep6
          have hs6 : w5.heap.size ≤ w6.heap.size := by have := hgr6.size; simp at this; omega
          have HB6 : Hid (Below w3.heap.size w3 w6) := (HB5.out.alloc hs5 _).grown hgr6 (by simp; omega) (fun j e => (HF5.out.lt j e).1)
          have HFR : Hid (RootsAt w6 u10 P) := keep_roots HF5.out hpl.symm hs6 hkeep6
          have HWR : Hid (RootsAt w6 vw P) := row_roots ((HW5.out.alloc _).kept hgr6 hap.out)
          have HA6 : Hid (w6.ownsRow w3.heap.size 3 1 u11 lr.length (numRow (nums L.length lr))) := (HA5.out.alloc _).kept hgr6 (own_own HA5.out HF5.out (by decide))
          have HRT : Hid (RootsAt w6 v6 (P ++ [0, R9])) := row_roots (by rw [List.length_append, hpl]; simpa [refRow] using hown6)
          have HJ6 : Hid (Jr w w2 w6 w.heap.size rg cr d (.slice a L.length cap) (.slice ra lr.length rcap) lr w2.heap.size L done B M s) := HJ.out.later HB6.out
          clear hown6 hgr6 hkeep6 HF5 HW5 HA5 HB5 hap HJ HB6 hs5 hs6
          go_wp2_with fail
          refine (HJ6.out.reach (dead_FR HJ6.out.boxd hd0 hd1) HRT.out (fun x hx => by
            rcases List.mem_append.1 hx with hx | hx
            · exact HP.out x hx
            · simp at hx
              rcases hx with rfl | rfl
              · omega
              · rw [HR9.out]; unfold refI; omega)).mono ?_
          rintro e w7 ⟨sb, S, rfl, hS, hin, b7⟩
          have HJ7 : Hid (Jr w w2 w7 w.heap.size rg cr d (.slice a L.length cap) (.slice ra lr.length rcap) lr w2.heap.size L done B M s) := HJ6.out.later b7
          have HS7 : Hid (RSet w7 sb S) := hS
          have HFR7 : Hid (RootsAt w7 u10 P) := HFR.out.later b7
          have HWR7 : Hid (RootsAt w7 vw P) := HWR.out.later b7
          have HI7 : Hid (IRow w7 u11 (nums L.length lr)) := num_row (row_later HA6.out b7) hnl.symm
          have HM7 : Hid ((∀ i, i < L.length → S.contains (refI i) = rnds (nmL L (ddOf d)) L.length L.length (fun j => (nums L.length lr).contains j) i) ∧ (∀ x ∈ S, ∃ i, i < L.length ∧ x = refI i)) := by
            refine set_marks (roots := P ++ [0, R9]) HJ7.out.made HJ7.out.hd l30 l0 (fun x hx hlv => ?_) (fun x hx => ?_) hin
            · rcases List.mem_append.1 hx with hx | hx
              · rw [← HPP.out]; exact hx
              · exfalso
                obtain ⟨i, hi, e⟩ := (HJ7.out.made.lives (by omega) x).1 hlv
                simp at hx
                rcases hx with rfl | rfl
                · unfold refI at e; omega
                · rw [HR9.out] at e; unfold refI at e; omega
            · rw [← HPP.out] at hx
              exact List.mem_append.2 (.inl hx)
          obtain ⟨cd, cdf⟩ := box1 HJ7.out.boxd
          clear HJ6 hS hin b7 HFR HWR HA6 HRT
          go_wp2_with fail
          refine (reached_any HJ7.out.objs l30 l0 HI7.out (nums_lt l0) (by rw [hnl]; omega) hd0 hd1).mono ?_
          rintro e w8 ⟨gm, rfl, hgm, hin8, b8⟩
          obtain ⟨F, hF⟩ : ∃ F, F = rnds (nmL L (ddOf d)) L.length L.length (fun j => (nums L.length lr).contains j) := ⟨_, rfl⟩
          rw [← hF] at hin8
          have HIN : Hid (InR w8 gm L.length F) := hin8
          have HM8 : Hid ((∀ i, i < L.length → S.contains (refI i) = F i) ∧ (∀ x ∈ S, ∃ i, i < L.length ∧ x = refI i)) := by rw [hF]; exact HM7.out
          have HJ8 : Hid (Jr w w2 w8 w.heap.size rg cr d (.slice a L.length cap) (.slice ra lr.length rcap) lr w2.heap.size L done B M s) := HJ7.out.later b8
          have HS8 : Hid (RSet w8 sb S) := HS7.out.kept (b8.block _ HS7.out.lt)
          have HFR8 : Hid (RootsAt w8 u10 P) := HFR7.out.later b8
          have HWR8 : Hid (RootsAt w8 vw P) := HWR7.out.later b8
          clear hF hin8 HM7 HJ7 HS7 HFR7 HWR7 HI7 b8 cd cdf
          go_wp2_with fail
          go_loopw [77] (fun i wr => ∃ k : Nat, k ≤ L.length ∧ i = .int .i64 k ∧ Hid (Below w8.heap.size w8 wr))
            (fun i _ => L.length - (intOf i).toNat)
          case atStart => exact ⟨0, Nat.zero_le _, rfl, Below.refl _ _⟩
          case round =>
            obtain ⟨k, hk, rfl, HB⟩ := hrel
            by_cases hlt2 : k < L.length
            · have hJ := HJ8.out.later HB.out
              have e0 := hJ.refs.2 k hlt2
              have hrl := hJ.refs.1
              have hidx : 0 ≤ (k : Int) ∧ (k : Int) < (L.length : Int) := ⟨by omega, by omega⟩
              have rr := refI_range k (by omega)
              have HSW : Hid (RSet wr sb S) := HS8.out.kept (HB.out.block _ HS8.out.lt)
              have HIW : Hid (InR wr gm L.length F) := (HB.out.block _ HIN.out.lt).trans HIN.out
              have hgml := HIW.out.lt
              have HC : Hid (S.contains (refI k) = F k) := HM8.out.1 k hlt2
              clear hJ
              go_wp2_with fail
              refine region_sh (valH sb gm L.length k (F k)) (JB wr 96 2) (by kernel_rfl) (by kernel_rfl) (by kernel_rfl) rfl ?_ ?_
              · intro hon q hq l a1 w hC hl hB hS hJ K hK
                have hq9 : q < 9 := hq
                clear hq
                rcases (show q = 0 ∨ q = 1 ∨ q = 2 ∨ q = 3 ∨ q = 4 ∨ q = 5 ∨ q = 6 ∨ q = 7 ∨ q = 8 from by omega) with rfl | rfl | rfl | rfl | rfl | rfl | rfl | rfl | rfl
                · have e15 := (eval_tmp a1 15).symm.trans ((hS.kept 15 (by kernel_rfl)).trans rfl)
                  refine wpOp_step rfl (fun K' hK' => ?_)
                  go_simp
                  exact hK' _ _ (hK _ _ (hS.put hon (i := 0) rfl rfl (fun u hu => by cases hu; rfl)) (hJ.pure (by decide)))
                · have e18 := (eval_tmp a1 18).symm.trans ((hS.kept 18 (by kernel_rfl)).trans rfl)
                  refine wpOp_step rfl (fun K' hK' => ?_)
                  go_simp
                  exact hK' _ _ (hK _ _ (hS.put hon (i := 1) rfl rfl (fun u hu => by cases hu; rfl)) (hJ.pure (by decide)))
                · have e82 := (hS.get hB (i := 2) rfl 0 (by simp) rfl rfl rfl)
                  have e83 := (hS.get hB (i := 2) rfl 1 (by simp) rfl rfl rfl)
                  obtain rfl : w = wr.drew := by have h := hJ; unfold JB at h; rw [hl] at h; exact h
                  refine wpOp_step rfl (fun K' hK' => step_call2R rfl (.tmp 82) (.tmp 83) 24 _ _ rfl _ _ (.bool (F k)) e82 e83 entersHas ((rset_has (w := wr.drew) (HSW.out.kept (w' := wr.drew) rfl) (refI k) rr.1 rr.2).mono fun e w' ⟨h5, h6⟩ => ⟨by rw [h5, HC.out], h6⟩) (R := fun w' => w' = wr.drew.alloc (.cells #[] 96)) (fun w' hR => hK' _ _ (hK _ _ (hS.put hon (i := 2) rfl rfl (fun u hu => by cases hu; rfl)) ?_)))
                  unfold JB; rw [more_self]; exact hR
                · have e16 := (eval_tmp a1 16).symm.trans ((hS.kept 16 (by kernel_rfl)).trans rfl)
                  refine wpOp_step rfl (fun K' hK' => ?_)
                  go_simp
                  exact hK' _ _ (hK _ _ (hS.put hon (i := 3) rfl rfl (fun u hu => by cases hu; rfl)) (hJ.pure (by decide)))
                · have e17 := (eval_tmp a1 17).symm.trans ((hS.kept 17 (by kernel_rfl)).trans rfl)
                  refine wpOp_step rfl (fun K' hK' => ?_)
                  go_simp
                  exact hK' _ _ (hK _ _ (hS.put hon (i := 4) rfl rfl (fun u hu => by cases hu; rfl)) (hJ.pure (by decide)))
                · have e85 := (eval_tmp a1 85).symm.trans (hS.get hB (i := 5) rfl 3 (by simp) rfl rfl rfl)
                  have e86 := (eval_tmp a1 86).symm.trans (hS.get hB (i := 5) rfl 4 (by simp) rfl rfl rfl)
                  refine wpOp_step rfl (fun K' hK' => ?_)
                  go_simp
                  exact hK' _ _ (hK _ _ (hS.put hon (i := 5) rfl rfl (fun u hu => by cases hu; rfl)) (hJ.pure (by decide)))
                · have e87 := (eval_tmp a1 87).symm.trans (hS.get hB (i := 6) rfl 5 (by simp) rfl rfl rfl)
                  have hc := hJ.cell (HIW.out.cell hlt2).1 hgml
                  refine wpOp_step rfl (fun K' hK' => ?_)
                  go_simp
                  exact hK' _ _ (hK _ _ (hS.put hon (i := 6) rfl rfl (fun u hu => by cases hu; rfl)) (hJ.pure (by decide)))
                · have e88 := (eval_tmp a1 88).symm.trans (hS.get hB (i := 7) rfl 6 (by simp) rfl rfl rfl)
                  refine wpOp_step rfl (fun K' hK' => ?_)
                  go_simp
                  exact hK' _ _ (hK _ _ (hS.put hon (i := 7) rfl rfl (fun u hu => by cases hu; cases F k <;> rfl)) (hJ.pure (by decide)))
                · have e84 := (eval_tmp a1 84).symm.trans (hS.get hB (i := 8) rfl 2 (by simp) rfl rfl rfl)
                  have e89 := (eval_tmp a1 89).symm.trans (hS.get hB (i := 8) rfl 7 (by simp) rfl rfl rfl)
                  refine wpOp_step rfl (fun K' hK' => ?_)
                  go_simp
                  exact hK' _ _ (hK _ _ (hS.put hon (i := 8) rfl rfl (fun u hu => by cases hu; cases F k <;> rfl)) (hJ.pure (by decide)))
              · intro l a1 w' hl hS hJ
                have h90 := hS.val 8 _ 90 _ rfl rfl rfl (hl 8 (by decide))
                have hw' : w' = wr.drew.alloc (.cells #[] 96) := by have h := hJ; unfold JB at h; rw [hl 2 (by decide)] at h; exact h
                have HB2 : Hid (Below w8.heap.size w8 w') := by rw [hw']; exact (below_drew HB.out).alloc (by have := HB.out.size; simpa using this) _
                have hfr := hS.frame [82, 83, 84, 85, 86, 87, 88, 89, 90] rfl
                refine (‹∀ (a : Act) (w : World), Code.wp Try.prog _ _ a w → _› a1 w' ?_)
                obtain ⟨z, hz⟩ : ∃ z : Nat → Value, z = fun k => a1.eval (.tmp k) := ⟨_, rfl⟩
                rw [← hz] at hfr
                have z90 : z 90 = .bool false := by rw [hz]; exact h90
                clear hS hJ hz hl hw' h90
                rw [hfr]
                clear hfr
                simp only [over, List.setIfInBounds_toArray, List.set_cons_zero, List.set_cons_succ, z90]
                go_wp2_with fail
                go_roundw
                case rel => exact ⟨k + 1, by omega, by go_num, HB2⟩
                case measure => simp [intOf]; omega
            · obtain rfl : k = L.length := by omega
              have HFW : Hid (RootsAt wr u10 P) := HFR8.out.later HB.out
              have HWW : Hid (RootsAt wr vw P) := HWR8.out.later HB.out
              have HSW : Hid (RSet wr sb S) := HS8.out.kept (HB.out.block _ HS8.out.lt)
              have HW : Hid (Below w.heap.size w wr) := (HJ8.out.later HB.out).below
              have H0 : Hid (S.contains 0 = false) := by
                show _ = _
                cases h : S.contains 0 with
                | false => rfl
                | true =>
                  obtain ⟨i, _, e⟩ := HM8.out.2 0 (by simpa using h)
                  unfold refI at e; omega
              go_wp2_with fail
              refine (equal_same HFW.out HWW.out (by omega)).mono ?_
              rintro e w9 ⟨rfl, q, hq⟩
              have HS9 : Hid (RSet w9 sb S) := HSW.out.kept (by rw [hq]; rfl)
              have HW9 : Hid (Below w.heap.size w w9) := by rw [hq]; exact ⟨HW.out.os, HW.out.tape, HW.out.output, HW.out.size, HW.out.block⟩
              clear hq
              go_wp2_with fail
              refine (rset_has HS9.out 0 (by omega) (by omega)).mono ?_
              rw [H0.out]
              rintro e w10 ⟨rfl, rfl⟩
              go_wp2
              go_ret
              exact ⟨rfl, HW9.out.alloc HW9.out.size _⟩
end Go.Proofs.Ytebcojkeblpbjaa

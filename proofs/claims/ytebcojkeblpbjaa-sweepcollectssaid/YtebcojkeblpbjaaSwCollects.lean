/-
  SweepCollects: behind a collection just those are there that are reached; the cache has just those entries whose proxy is there and whose membrane lives.
  Conditions: as each theorem says.
-/
import Derived.Test.YtebcojkeblpbjaaScKeep
namespace Go.Proofs.Ytebcojkeblpbjaa
open Go.ChangeShapes Go.WideShapes Go.ChangeAt Go.RowKit Go.Maps Go.Sort Go.Lib
set_option linter.unusedVariables false
set_option maxRecDepth 100000 in
set_option maxHeartbeats 4000000 in
theorem collects_any {w : World} {a : Option Addr} {len cap : Nat} {L : List OO} {rv : Value} {lr : List Int} {d : Int} (hl : len ≤ maxLen) (hL : (len = 0 ∧ L = []) ∨ (L.length = len ∧ ORowU w (.slice a len cap) L)) (hR : BRow w rv lr) (hd0 : 0 ≤ d) (hd1 : d ≤ 255) :
    Calls Try.prog 5 #[.slice a len cap, rv, .int .u8 d] w fun e w' => e = .returned (.bool true) ∧ Below w.heap.size w w' := by
  have HL : Hid ((len = 0 ∧ L = []) ∨ (L.length = len ∧ ORowU w (.slice a len cap) L)) := hL
  have HR : Hid (BRow w rv lr) := hR
  clear hL hR
  unfold maxLen at hl
  go_enter Try.func5, Try.ntmps5
  go_wp2_with fail
  refine (awake4 _).mono ?_
  rintro e w1 ⟨rfl, hw1⟩
  have hbd : w1.heap[w.heap.size]? = some (.cells #[.int .u8 d] 5 (0, 0)) := (hw1.block _ (by simp)).trans (heap_alloc_new w _)
  have hb0 : Below w.heap.size w w1 := ((Below.refl _ w).alloc (Nat.le_refl _) _).trans (hw1.mono (by simp))
  clear hw1
  go_wp2_with fail
  have hL1 : (len = 0 ∧ L = []) ∨ (L.length = len ∧ ORowU w1 (.slice a len cap) L) := HL.out.imp id (fun h => ⟨h.1, h.2.below hb0⟩)
  refine (light_any (by unfold maxLen; exact hl) hL1 (HR.out.below hb0)).mono ?_
  rintro e w2 ⟨rfl, hw2⟩
  cases hlt : lightB L lr with
  | false =>
    go_wp2
    go_ret
    exact ⟨rfl, hb0.trans (hw2.mono hb0.size)⟩
  | true =>
    obtain ⟨n10, l30, l0, r10⟩ := light_facts hlt
    have hb2' := hb0.trans (hw2.mono hb0.size)
    rcases HL.out with ⟨_, h⟩ | ⟨rfl, hO⟩
    · rw [h] at l0; simp at l0
    · have hO2 : ORow w2 (.slice a L.length cap) L := (hO.below hb2').row n10
      have hmem : ∀ (j : Nat) (oo : OO), L[j]? = some oo → oo.names.length ≤ 10 ∧ 0 ≤ oo.mem := fun j oo hj => ⟨n10 j oo hj, by obtain ⟨_, _, _, _, _, _, h4⟩ := hO; obtain ⟨_, _, _, _, _, _, h0, _⟩ := h4 j oo hj; exact h0⟩
      have hbd2 := (hw2.block _ (lt_of_block hbd)).trans hbd
      have HOO : Hid (ORowU w (.slice a L.length cap) L) := hO
      have HN10 : Hid (∀ (j : Nat) (oo : OO), L[j]? = some oo → oo.names.length ≤ 10) := n10
      clear hL1 hw2 hb0 hbd hO hlt
      go_wp2_with fail
      refine (mkArena hO2 (by omega) l0).mono ?_
      rintro e wm ⟨fv, B, M, s, rfl, ⟨done, hd, hM⟩, hrow, hc⟩
      obtain ⟨rg, cr, cur, rfl, hcr1, hcr2, _, _⟩ := row_at hrow l0
      have hrgl := (hrow.lt rg rfl)
      have hwm := hb2'.trans (hM.below.mono hb2'.size)
      have hbdm := (hM.below.block _ (lt_of_block hbd2)).trans hbd2
      have hJ : Jr w w2 wm w.heap.size rg cr d (.slice a L.length cap) rv lr w2.heap.size L done B M s :=
        ⟨hwm, hbdm, ⟨hrgl.2, fun j hj => by rw [hrow.cellAt j (by omega)]; simp [refRow, refsTo, hj]⟩, HR.out.below hwm, hO2.below hM.below, hM, hd, hmem, l30, l0, hcr2, hd0, hd1, hwm.size⟩
      have hbig := hM.big
      have HWS : Hid (w.heap.size < w2.heap.size) := Nat.lt_of_lt_of_le (lt_of_block hbd2) (Nat.le_refl _)
      obtain ⟨cb, hcb⟩ : ∃ cb, w2.heap.size + 1 = cb := ⟨_, rfl⟩
      rw [hcb] at hc ⊢
      have HCB : Hid (w2.heap.size + 1 = cb) := hcb
      obtain ⟨D, hCD⟩ := hc
      have HCD : Hid (ChD wm cb _ (cacheF L L.length) D) := hCD
      have HROWM : Hid (wm.ownsRow w2.heap.size 28 1 (.slice (some ⟨rg, 0, none⟩) L.length cr) L.length (refRow (refsTo L.length))) := hrow
      have HJM : Hid (Jr w w2 wm w.heap.size rg cr d (.slice a L.length cap) rv lr w2.heap.size L done B M s) := hJ
      have HOW : Hid (ORow w (.slice a L.length cap) L) := HOO.out.row HN10.out
      clear hrow hCD hM hbdm hbd2 hb2' hO2 hd hmem n10 HL HR hwm hrgl hcb hbig hJ HOO HN10
      unfold maxLen at hcr2
      generalize (L.countP fun oo => oo.proxy) = nc at HCD
      generalize hfc : cacheF L L.length = fc at HCD
      clear hfc
      go_wp2_with fail
      refine (clone_ch HCD.out).mono ?_
      rintro e w3 ⟨rfl, hO3, hC3, b3⟩
      have HNE : Hid (wm.heap.size ≠ cb) := fun e => by have := HCD.out.own.lt; omega
      have HO3 : Hid (ChD w3 wm.heap.size nc fc D) := hO3
      have HC3 : Hid (ChD w3 cb nc fc D) := hC3
      have HROW3 : Hid (w3.ownsRow w2.heap.size 28 1 (.slice (some ⟨rg, 0, none⟩) L.length cr) L.length (refRow (refsTo L.length))) := row_later HROWM.out b3
      have hJ : Jr w w2 w3 w.heap.size rg cr d (.slice a L.length cap) rv lr w2.heap.size L done B M s := HJM.out.later b3
      generalize wm.heap.size = ob at HNE HO3 ⊢
      clear hO3 hC3 b3 HROWM HJM HCD
      obtain ⟨ra, rcap, hrv, hr1, hr2, hr3, hr4⟩ := hJ.row
      subst hrv
      unfold maxLen at hr2
      have HX : Hid (∀ x ∈ lr, 0 ≤ x ∧ x ≤ 255) := hr3
      have HG : Hid (lr ≠ [] → ∃ g off, ra = some ⟨g, off, none⟩ ∧ g < w3.heap.size ∧ ∀ j x, lr[j]? = some x → w3.cell? ⟨g, off + j, none⟩ = some (.int .u8 x)) := hr4
      have HJ : Hid (Jr w w2 w3 w.heap.size rg cr d (.slice a L.length cap) (.slice ra lr.length rcap) lr w2.heap.size L done B M s) := hJ
      clear hr3 hr4 hJ
      go_wp2_with fail
      go_loopw [48, 11, 12] (fun i vf va wr => ∃ k : Nat, k ≤ lr.length ∧ i = .int .i64 k ∧ Hid (wr.ownsRow w3.heap.size 28 1 vf k (refRow (picks L.length (lr.take k)))) ∧ Hid (wr.ownsRow w3.heap.size 3 1 va k (numRow (nums L.length (lr.take k)))) ∧ Hid (Below w3.heap.size w3 wr))
        (fun i _ _ _ => lr.length - (intOf i).toNat)
      case atStart => exact ⟨0, Nat.zero_le _, rfl, World.ownsRow_nil _ _ _ _, World.ownsRow_nil _ _ _ _, Below.refl _ _⟩
      case round =>
        obtain ⟨k, hk, rfl, HF, HA, HB⟩ := hrel
        by_cases hlt : k < lr.length
        · obtain ⟨x, hx⟩ : ∃ x, lr[k]? = some x := ⟨_, List.getElem?_eq_getElem hlt⟩
          have hxr := HX.out x (List.mem_of_getElem? hx)
          obtain ⟨t, rfl⟩ : ∃ t : Nat, x = (t : Int) := ⟨x.toNat, by omega⟩
          obtain ⟨g, off, hga, hgl, hgc⟩ := HG.out (by rintro e; rw [e] at hlt; simp at hlt)
          subst hga
          have q0 := (HB.out.cell (p := ⟨g, off + k, none⟩) hgl).trans (hgc k _ hx)
          have htl : t % L.length < L.length := Nat.mod_lt _ l0
          have hR2 := HJ.out.refs
          have hrl := hR2.1
          have hidx : 0 ≤ (k : Int) ∧ (k : Int) < (lr.length : Int) := ⟨by omega, by omega⟩
          have ht255 : t ≤ 255 := by omega
          have HS : Hid (picks L.length (lr.take (k + 1)) = picks L.length (lr.take k) ++ [refI (t % L.length)]) := by show _ = _; rw [picks_snoc hx, atN_nat]
          have HN : Hid (nums L.length (lr.take (k + 1)) = nums L.length (lr.take k) ++ [t % L.length]) := by show _ = _; rw [nums_snoc hx, atN_nat]
          have HR2 : Hid (RefsAt w3 rg L.length) := hR2
          clear hx hgc hR2
          go_wp2_with fail
          --REGION
          have hne : ¬ L.length = 0 := by omega
          have hn0 : ((L.length : Int) == 0) = false := by rw [beq_eq_false_iff_ne]; omega
          have hwt : IntKind.i64.wrap (t : Int) = (t : Int) := by simp [IntKind.wrap, IntKind.bits, IntKind.signed]; omega
          have htm : ((t : Int)).tmod (L.length : Int) = ((t % L.length : Nat) : Int) := by rw [Int.tmod_eq_emod_of_nonneg (by omega)]; omega
          have hix : 0 ≤ (t : Int) % (L.length : Int) ∧ (t : Int) % (L.length : Int) < (L.length : Int) := ⟨by omega, by omega⟩
          have htn : ((t : Int) % (L.length : Int)).toNat = t % L.length := by omega
          have hkk : k ≤ 10 := by omega
          refine region_sh (valP u11 u12 a rg cr L.length cap t) (Tx w3.heap.size w3 28 3 u11 u12 k k (refRow (picks L.length (lr.take k))) (numRow (nums L.length (lr.take k))) (.int .u64 (refI (t % L.length))) (.int .i64 ((t : Int) % (L.length : Int))) 9 10 17 18 61 62 69 70 11 12 19 20) (by kernel_rfl) (by kernel_rfl) (by kernel_rfl) ⟨Tw.start HB.out HF.out HA.out (apart_of HF.out HA.out (by decide)), rfl, rfl⟩ ?_ ?_
          · intro hon q hq l a1 w hC hl hB hS hJ K hK
            have hq21 : q < 21 := hq
            clear hq HF HA HB HS HN HX HG HJ
            rcases (show q = 0 ∨ q = 1 ∨ q = 2 ∨ q = 3 ∨ q = 4 ∨ q = 5 ∨ q = 6 ∨ q = 7 ∨ q = 8 ∨ q = 9 ∨ q = 10 ∨ q = 11 ∨ q = 12 ∨ q = 13 ∨ q = 14 ∨ q = 15 ∨ q = 16 ∨ q = 17 ∨ q = 18 ∨ q = 19 ∨ q = 20 from by omega) with rfl | rfl | rfl | rfl | rfl | rfl | rfl | rfl | rfl | rfl | rfl | rfl | rfl | rfl | rfl | rfl | rfl | rfl | rfl | rfl | rfl
            · have hl19 : l 19 = false := closed_not hC hl (i := 19) (j := 0) rfl (g := .phase) (by simp) rfl
              have e11 := (eval_tmp a1 11).symm.trans (show a1.eval (.tmp 11) = u11 from by have h := hJ.2.1; rw [hl19] at h; exact h)
              refine wpOp_step rfl (fun K' hK' => ?_)
              go_simp
              exact hK' _ _ (hK _ _ (hS.put hon (i := 0) rfl rfl (fun u hu => by cases hu; rfl)) (hJ.pure (by decide) (by decide)))
            · have e8 := (eval_tmp a1 8).symm.trans ((hS.kept 8 (by kernel_rfl)).trans rfl)
              refine wpOp_step rfl (fun K' hK' => ?_)
              go_simp
              exact hK' _ _ (hK _ _ (hS.put hon (i := 1) rfl rfl (fun u hu => by cases hu; rfl)) (hJ.pure (by decide) (by decide)))
            · have e14 := (eval_tmp a1 14).symm.trans ((hS.kept 14 (by kernel_rfl)).trans rfl)
              refine wpOp_step rfl (fun K' hK' => ?_)
              go_simp
              exact hK' _ _ (hK _ _ (hS.put hon (i := 2) rfl rfl (fun u hu => by cases hu; rfl)) (hJ.pure (by decide) (by decide)))
            · have e54 := (eval_tmp a1 54).symm.trans (hS.get hB (i := 3) rfl 2 (by simp) rfl rfl rfl)
              refine wpOp_step rfl (fun K' hK' => ?_)
              go_simp
              exact hK' _ _ (hK _ _ (hS.put hon (i := 3) rfl rfl (fun u hu => by cases hu; rfl)) (hJ.pure (by decide) (by decide)))
            · have e0 := (eval_tmp a1 0).symm.trans ((hS.kept 0 (by kernel_rfl)).trans rfl)
              refine wpOp_step rfl (fun K' hK' => ?_)
              go_simp
              exact hK' _ _ (hK _ _ (hS.put hon (i := 4) rfl rfl (fun u hu => by cases hu; rfl)) (hJ.pure (by decide) (by decide)))
            · have e56 := (eval_tmp a1 56).symm.trans (hS.get hB (i := 5) rfl 4 (by simp) rfl rfl rfl)
              refine wpOp_step rfl (fun K' hK' => ?_)
              go_simp
              exact hK' _ _ (hK _ _ (hS.put hon (i := 5) rfl rfl (fun u hu => by cases hu; rfl)) (hJ.pure (by decide) (by decide)))
            · have e55 := (eval_tmp a1 55).symm.trans (hS.get hB (i := 6) rfl 3 (by simp) rfl rfl rfl)
              have e57 := (eval_tmp a1 57).symm.trans (hS.get hB (i := 6) rfl 5 (by simp) rfl rfl rfl)
              refine wpOp_step rfl (fun K' hK' => ?_)
              go_simp
              exact hK' _ _ (hK _ _ (hS.put hon (i := 6) rfl rfl (fun u hu => by cases hu; rfl)) (hJ.pure (by decide) (by decide)))
            · have e53 := (eval_tmp a1 53).symm.trans (hS.get hB (i := 7) rfl 1 (by simp) rfl rfl rfl)
              have e58 := (eval_tmp a1 58).symm.trans (hS.get hB (i := 7) rfl 6 (by simp) rfl rfl rfl)
              refine wpOp_step rfl (fun K' hK' => ?_)
              go_simp
              exact hK' _ _ (hK _ _ (hS.put hon (i := 7) rfl rfl (fun u hu => by cases hu; rfl)) (hJ.pure (by decide) (by decide)))
            · have e59 := (eval_tmp a1 59).symm.trans (hS.get hB (i := 8) rfl 7 (by simp) rfl rfl rfl)
              have hc := (hJ.1.below.cell (p := ⟨rg, t % L.length, none⟩) HR2.out.1).trans (HR2.out.2 _ htl)
              refine wpOp_step rfl (fun K' hK' => ?_)
              go_simp
              exact hK' _ _ (hK _ _ (hS.put hon (i := 8) rfl rfl (fun u hu => by cases hu; rfl)) (hJ.pure (by decide) (by decide)))
            · have e60 := (eval_tmp a1 60).symm.trans (hS.get hB (i := 9) rfl 8 (by simp) rfl rfl rfl)
              have hl10 : l 10 = false := closed_not hC hl (i := 10) (j := 9) rfl (g := .data) (by simp) rfl
              refine wpOp_step rfl (fun K' hK' => ?_)
              go_simp
              exact hK' _ _ (hK _ _ (hS.put hon (i := 9) rfl rfl (fun u hu => by cases hu)) (hJ.alloc1 (Nat.le_refl _) hl hl10 (by decide) (by decide) (by rw [hS.size]; exact (by decide : (61 : Nat) < 164))))
            · have e52 := hS.get hB (i := 10) rfl 0 (by simp) rfl rfl rfl
              have hl19 : l 19 = false := closed_not hC hl (i := 19) (j := 10) rfl (g := .data) (by simp) rfl
              have hli : l 9 = true := hB _ rfl ⟨9, .data⟩ (by simp) rfl
              obtain ⟨ti, hti, hz0, hz1, hz2⟩ := info_parts Try.info28
              obtain ⟨gb, v', w', g1, hrun, hT⟩ := hJ.app1 (Pg := Try.prog) (t := 44) (ty := 44) (Nat.le_refl _) Try.underlying44 hti hz0 hz1 hz2 rfl rfl (by unfold maxLen; omega) (by omega) hli hl hl19 (by decide) (by decide) (by rw [hS.size]; exact (by decide : (62 : Nat) < 164))
              refine wpOp_run rfl rfl (v := v') (w' := w') ?_ (hK _ _ (hS.put hon (i := 10) rfl rfl (fun u hu => by cases hu)) hT)
              simp [execOp, resolve, invoke, builtin, e52, g1, hrun, Result.andThen]
            · have hl20 : l 20 = false := closed_not hC hl (i := 20) (j := 11) rfl (g := .phase) (by simp) rfl
              have e12 := (eval_tmp a1 12).symm.trans (show a1.eval (.tmp 12) = u12 from by have h := hJ.2.2; rw [hl20] at h; exact h)
              refine wpOp_step rfl (fun K' hK' => ?_)
              go_simp
              exact hK' _ _ (hK _ _ (hS.put hon (i := 11) rfl rfl (fun u hu => by cases hu; rfl)) (hJ.pure (by decide) (by decide)))
            · have e14 := (eval_tmp a1 14).symm.trans ((hS.kept 14 (by kernel_rfl)).trans rfl)
              refine wpOp_step rfl (fun K' hK' => ?_)
              go_simp
              exact hK' _ _ (hK _ _ (hS.put hon (i := 12) rfl rfl (fun u hu => by cases hu; rfl)) (hJ.pure (by decide) (by decide)))
            · have e64 := (eval_tmp a1 64).symm.trans (hS.get hB (i := 13) rfl 12 (by simp) rfl rfl rfl)
              refine wpOp_step rfl (fun K' hK' => ?_)
              go_simp
              exact hK' _ _ (hK _ _ (hS.put hon (i := 13) rfl rfl (fun u hu => by cases hu; rfl)) (hJ.pure (by decide) (by decide)))
            · have e0 := (eval_tmp a1 0).symm.trans ((hS.kept 0 (by kernel_rfl)).trans rfl)
              refine wpOp_step rfl (fun K' hK' => ?_)
              go_simp
              exact hK' _ _ (hK _ _ (hS.put hon (i := 14) rfl rfl (fun u hu => by cases hu; rfl)) (hJ.pure (by decide) (by decide)))
            · have e66 := (eval_tmp a1 66).symm.trans (hS.get hB (i := 15) rfl 14 (by simp) rfl rfl rfl)
              refine wpOp_step rfl (fun K' hK' => ?_)
              go_simp
              exact hK' _ _ (hK _ _ (hS.put hon (i := 15) rfl rfl (fun u hu => by cases hu; rfl)) (hJ.pure (by decide) (by decide)))
            · have e65 := (eval_tmp a1 65).symm.trans (hS.get hB (i := 16) rfl 13 (by simp) rfl rfl rfl)
              have e67 := (eval_tmp a1 67).symm.trans (hS.get hB (i := 16) rfl 15 (by simp) rfl rfl rfl)
              refine wpOp_step rfl (fun K' hK' => ?_)
              go_simp
              exact hK' _ _ (hK _ _ (hS.put hon (i := 16) rfl rfl (fun u hu => by cases hu; rfl)) (hJ.pure (by decide) (by decide)))
            · have e68 := (eval_tmp a1 68).symm.trans (hS.get hB (i := 17) rfl 16 (by simp) rfl rfl rfl)
              have hl18 : l 18 = false := closed_not hC hl (i := 18) (j := 17) rfl (g := .data) (by simp) rfl
              refine wpOp_step rfl (fun K' hK' => ?_)
              go_simp
              exact hK' _ _ (hK _ _ (hS.put hon (i := 17) rfl rfl (fun u hu => by cases hu)) (hJ.swap.alloc1 (Nat.le_refl _) hl hl18 (by decide) (by decide) (by rw [hS.size]; exact (by decide : (69 : Nat) < 164))).swap)
            · have e63 := hS.get hB (i := 18) rfl 11 (by simp) rfl rfl rfl
              have hl20 : l 20 = false := closed_not hC hl (i := 20) (j := 18) rfl (g := .data) (by simp) rfl
              have hli : l 17 = true := hB _ rfl ⟨17, .data⟩ (by simp) rfl
              obtain ⟨ti, hti, hz0, hz1, hz2⟩ := info_parts info3
              obtain ⟨gb, v', w', g1, hrun, hT⟩ := hJ.swap.app1 (Pg := Try.prog) (t := 58) (ty := 58) (Nat.le_refl _) Try.underlying58 hti hz0 hz1 hz2 rfl rfl (by unfold maxLen; omega) (by omega) hli hl hl20 (by decide) (by decide) (by rw [hS.size]; exact (by decide : (70 : Nat) < 164))
              refine wpOp_run rfl rfl (v := v') (w' := w') ?_ (hK _ _ (hS.put hon (i := 18) rfl rfl (fun u hu => by cases hu)) hT.swap)
              simp [execOp, resolve, invoke, builtin, e63, g1, hrun, Result.andThen]
            · have hj := (hJ.set1 (by decide) (by decide) (by rw [hS.size]; exact (by decide : (11 : Nat) < 164)))
              rw [eval_tmp] at hj
              refine wpOp_step rfl (fun K' hK' => ?_)
              go_simp
              exact hK' _ _ (hK _ _ (hS.put hon (i := 19) rfl rfl (fun u hu => by cases hu)) hj)
            · have hj := (hJ.swap.set1 (by decide) (by decide) (by rw [hS.size]; exact (by decide : (12 : Nat) < 164))).swap
              rw [eval_tmp] at hj
              refine wpOp_step rfl (fun K' hK' => ?_)
              go_simp
              exact hK' _ _ (hK _ _ (hS.put hon (i := 20) rfl rfl (fun u hu => by cases hu)) hj)

          · intro l a1 w' hl hS hJ
            have l10 : l 10 = true := hl 10 (by decide)
            have l18 : l 18 = true := hl 18 (by decide)
            have l19 : l 19 = true := hl 19 (by decide)
            have l20 : l 20 = true := hl 20 (by decide)
            have r1 := hJ.1.row1
            have r2 := hJ.1.row2
            have f11 := hJ.2.1
            have f12 := hJ.2.2
            rw [l19, if_pos rfl] at f11
            rw [l20, if_pos rfl] at f12
            rw [l10] at r1
            rw [l18] at r2
            simp only [if_true] at r1 r2
            rw [← f11, refs_one, ← HS.out] at r1
            rw [← f12, show (t : Int) % (L.length : Int) = ((t % L.length : Nat) : Int) from by omega, numRow_one, ← HN.out] at r2
            have HF2 : Hid (w'.ownsRow w3.heap.size 28 1 (a1.eval (.tmp 11)) (k + 1) (refRow (picks L.length (lr.take (k + 1))))) := r1
            have HA2 : Hid (w'.ownsRow w3.heap.size 3 1 (a1.eval (.tmp 12)) (k + 1) (numRow (nums L.length (lr.take (k + 1))))) := r2
            have HB2 : Hid (Below w3.heap.size w3 w') := hJ.1.below
            have hfr := hS.frame [52, 53, 54, 55, 56, 57, 58, 59, 60, 61, 62, 63, 64, 65, 66, 67, 68, 69, 70, 11, 12] rfl
            refine (‹∀ (a : Act) (w : World), Code.wp Try.prog _ _ a w → _› a1 w' ?_)
            obtain ⟨z, hz⟩ : ∃ z : Nat → Value, z = fun k => a1.eval (.tmp k) := ⟨_, rfl⟩
            rw [← hz] at hfr
            have z11 : a1.eval (.tmp 11) = z 11 := by rw [hz]
            have z12 : a1.eval (.tmp 12) = z 12 := by rw [hz]
            rw [z11] at HF2
            rw [z12] at HA2
            clear hS hJ r1 r2 f11 f12 hz z11 z12 hl l10 l18 l19 l20 HF HA HB
            rw [hfr]
            clear hfr
            simp only [over, List.setIfInBounds_toArray, List.set_cons_zero, List.set_cons_succ]
            go_wp2_with fail
            go_roundw
            case rel => exact ⟨k + 1, by omega, by go_num, HF2, HA2, HB2⟩
            case measure => simp [intOf]; omega
        · obtain rfl : k = lr.length := by omega
          have hpl := picks_length L.length lr
          have hnl := nums_length L.length lr
          have HF2 : Hid (wr.ownsRow w3.heap.size 28 1 u11 lr.length (refRow (picks L.length lr))) := by have h := HF.out; rw [List.take_length] at h; exact h
          have HA2 : Hid (wr.ownsRow w3.heap.size 3 1 u12 lr.length (numRow (nums L.length lr))) := by have h := HA.out; rw [List.take_length] at h; exact h
          have HJ4 : Hid (Jr w w2 wr w.heap.size rg cr d (.slice a L.length cap) (.slice ra lr.length rcap) lr w2.heap.size L done B M s) := HJ.out.later HB.out
          have HC4 : Hid (ChD wr cb nc fc D) := HC3.out.kept (HB.out.block _ HC3.out.own.lt)
          have HO4 : Hid (ChD wr ob nc fc D) := HO3.out.kept (HB.out.block _ HO3.out.own.lt)
          have HR4 : Hid (wr.ownsRow w2.heap.size 28 1 (.slice (some ⟨rg, 0, none⟩) L.length cr) L.length (refRow (refsTo L.length))) := row_later HROW3.out HB.out
          clear HF HA HX HG HB HJ HC3 HO3 HROW3
          go_wp2_with fail
          refine (collected_any HJ4.out ⟨_, HC4.out⟩ (row_roots (by rw [hpl]; exact HF2.out))).mono ?_
          rintro e w7 ⟨s', F, hF, rfl, hA7, ⟨D7, hC7⟩, hlk, hacc, V, hFV, hgV⟩
          have HFE : Hid (F = rnds (nmL L (ddOf d)) L.length L.length (fun j => (nums L.length lr).contains j)) := hF
          have HAC : Hid (s'.accs = [((L.length : Int) - (goneTo F L.length : Nat), (L.length : Int))]) := hacc
          have HLK : Hid (∀ i, i < L.length → (look s'.slots (refI i)).isSome = F i) := hlk
          have HAN : Hid (Arn w2.heap.size w2.heap.size w7 s') := hA7
          have HC7 : Hid (ChD w7 cb nc (stayF s' (ddOf d) fc) D7) := hC7
          obtain ⟨es4, cl4, hm4⟩ := Ch.block ⟨_, HC4.out⟩
          obtain ⟨es5, cl5, hm5⟩ := Ch.block ⟨_, HO4.out⟩
          have hmV := hFV.map hm4
          have hmO := hFV.map hm5
          have hs2 : w2.heap.size ≤ wr.heap.size := HJ4.out.made.below.size
          have hB7 : Below w2.heap.size wr w7 := (hFV.below hs2).grown hgV (Nat.le_trans hs2 hFV.size) (fun j e => by cases e; have := HCB.out; omega)
          have HBW : Hid (Below w.heap.size w w7) := HJ4.out.below.trans (hB7.mono (Nat.le_of_lt HWS.out))
          have HBX7 : Hid (w7.heap[w.heap.size]? = some (.cells #[.int .u8 d] 5 (0, 0))) := (hB7.block _ HWS.out).trans HJ4.out.boxd
          have HO7 : Hid (ORow w7 (.slice a L.length cap) L) := HOW.out.below HBW.out
          have hR7 := (hFV.row HR4.out rfl).kept hgV (row_not_map (hFV.row HR4.out rfl) hmV)
          have HRA7 : Hid (RefsAt w7 rg L.length) := ⟨(hR7.lt rg rfl).2, fun j hj => by rw [hR7.cellAt j (by omega)]; simp [refRow, refsTo, hj]⟩
          have HI7 : Hid (IRow w7 u12 (nums L.length lr)) := num_row ((hFV.row HA2.out rfl).kept hgV (row_not_map (hFV.row HA2.out rfl) hmV)) hnl.symm
          have HOLD7 : Hid (ChD w7 ob nc fc D) := HO4.out.kept ((hgV.block ob (lt_of_block hmO) (fun e => HNE.out (by simpa using e))).trans (hmO.trans hm5.symm))
          obtain ⟨cd, cdf⟩ := box1 HBX7.out
          clear hF hacc hlk hA7 hC7 hm4 hm5 hmV hmO hs2 hB7 hR7 hFV hgV HJ4 HC4 HO4 HR4 HF2 HA2
          go_wp2_with fail
          refine (reached_any HO7.out l30 l0 HI7.out (nums_lt l0) (by rw [hnl]; omega) hd0 hd1).mono ?_
          rintro e w8 ⟨gm, rfl, hgm, hin8, b8⟩
          rw [← HFE.out] at hin8
          have HCS : Hid (Cs w w2 w8 w.heap.size rg d w2.heap.size cb ob gm nc L s' fc (stayF s' (ddOf d) fc) D D7 F) := ⟨HBW.out.trans (b8.mono HBW.out.size), (b8.block _ (lt_of_block HBX7.out)).trans HBX7.out, HRA7.out.below b8, HAN.out.below b8, HOLD7.out.kept (b8.block _ HOLD7.out.own.lt), HC7.out.kept (b8.block _ HC7.out.own.lt), hin8⟩
          have hgl : goneTo F L.length ≤ L.length := goneTo_le F _
          have HDR : Hid (∀ m t p, fc m t = some p → Ew m t ∧ 0 ≤ p ∧ p ≤ 18446744073709551615) := HOLD7.out.rng
          clear hin8 b8 hgm HBW HBX7 HRA7 HAN HOLD7 HC7 HO7 HI7 cd cdf HFE HOW
          go_wp2_with fail
          go_loopw [84, 18] (fun i g wr => ∃ k : Nat, k ≤ L.length ∧ i = .int .i64 k ∧ g = .int .i64 (goneTo F k : Nat) ∧ Hid (Below w8.heap.size w8 wr))
            (fun i _ _ => L.length - (intOf i).toNat)
          case atStart => exact ⟨0, Nat.zero_le _, rfl, rfl, Below.refl _ _⟩
          case round =>
            obtain ⟨k, hk, rfl, rfl, HB⟩ := hrel
            by_cases hlt2 : k < L.length
            · have hJ := HCS.out.later HB.out
              have e0 := hJ.refs.2 k hlt2
              have hrl := hJ.refs.1
              have hidx : 0 ≤ (k : Int) ∧ (k : Int) < (L.length : Int) := ⟨by omega, by omega⟩
              have rr := refI_range k (by omega)
              have HGS := goneTo_succ F k
              have hgk := goneTo_le F k
              have HL : Hid ((look s'.slots (refI k)).isSome = F k) := HLK.out k hlt2
              have HAW : Hid (Arn w2.heap.size w2.heap.size wr s') := hJ.arn
              have HIW : Hid (InR wr gm L.length F) := hJ.inr
              have hgml := HIW.out.lt
              have hcg := (HIW.out.cell hlt2).1
              obtain ⟨po, HPV, hpo⟩ : ∃ po : Option Addr, Hid (.pointer po = ptrOf (look s'.slots (refI k))) ∧ po.isNone = !F k := by
                rw [← HL.out]
                cases look s'.slots (refI k) with
                | none => exact ⟨none, rfl, rfl⟩
                | some p => exact ⟨some ⟨p.1, 0, none⟩, rfl, rfl⟩
              have HGS2 : Hid ((goneTo F (k + 1) : Int) = goneTo F k + (1 - b01 (F k))) := HGS
              clear hJ HGS HL
              go_wp2_with fail
              refine region_sh (valG w2.heap.size gm L.length k (.pointer po) (F k)) (JD wr) (by kernel_rfl) (by kernel_rfl) (by kernel_rfl) ⟨1, rfl⟩ ?_ ?_
              · intro hon q hq l a1 w hC hl hB hS hJ K hK
                have hq10 : q < 10 := hq
                clear hq
                rcases (show q = 0 ∨ q = 1 ∨ q = 2 ∨ q = 3 ∨ q = 4 ∨ q = 5 ∨ q = 6 ∨ q = 7 ∨ q = 8 ∨ q = 9 from by omega) with rfl | rfl | rfl | rfl | rfl | rfl | rfl | rfl | rfl | rfl
                · have e7 := (eval_tmp a1 7).symm.trans ((hS.kept 7 (by kernel_rfl)).trans rfl)
                  refine wpOp_step rfl (fun K' hK' => ?_)
                  go_simp
                  exact hK' _ _ (hK _ _ (hS.put hon (i := 0) rfl rfl (fun u hu => by cases hu; rfl)) hJ.pure)
                · have e20 := (eval_tmp a1 20).symm.trans ((hS.kept 20 (by kernel_rfl)).trans rfl)
                  refine wpOp_step rfl (fun K' hK' => ?_)
                  go_simp
                  exact hK' _ _ (hK _ _ (hS.put hon (i := 1) rfl rfl (fun u hu => by cases hu; rfl)) hJ.pure)
                · have e89 := (hS.get hB (i := 2) rfl 0 (by simp) rfl rfl rfl)
                  have e90 := (hS.get hB (i := 2) rfl 1 (by simp) rfl rfl rfl)
                  obtain ⟨q0, rfl⟩ := hJ
                  refine wpOp_step rfl (fun K' hK' => step_call2R rfl (.tmp 89) (.tmp 90) 28 _ _ rfl _ _ (.pointer po) e89 e90 entersGet ((get_any (HAW.out.below (below_drewN (Below.refl _ _) q0)) (refI k) rr.1 rr.2).mono fun e w' ⟨h5, h6⟩ => ⟨by rw [h5, HPV.out], h6⟩) (R := fun w' => ∃ q, w' = (wr.drewN q0).drewN q) (fun w' hR => hK' _ _ (hK _ _ (hS.put hon (i := 2) rfl rfl (fun u hu => by cases hu; rfl)) ?_)))
                  obtain ⟨q1, rfl⟩ := hR
                  exact ⟨q0 + q1, drewN_add _ _ _⟩
                · have e91 := (eval_tmp a1 91).symm.trans (hS.get hB (i := 3) rfl 2 (by simp) rfl rfl rfl)
                  refine wpOp_step rfl (fun K' hK' => ?_)
                  go_simp
                  exact hK' _ _ (hK _ _ (hS.put hon (i := 3) rfl rfl (fun u hu => by cases hu; first | rfl | simp [hpo])) hJ.pure)
                · have e17 := (eval_tmp a1 17).symm.trans ((hS.kept 17 (by kernel_rfl)).trans rfl)
                  refine wpOp_step rfl (fun K' hK' => ?_)
                  go_simp
                  exact hK' _ _ (hK _ _ (hS.put hon (i := 4) rfl rfl (fun u hu => by cases hu; rfl)) hJ.pure)
                · have e19 := (eval_tmp a1 19).symm.trans ((hS.kept 19 (by kernel_rfl)).trans rfl)
                  refine wpOp_step rfl (fun K' hK' => ?_)
                  go_simp
                  exact hK' _ _ (hK _ _ (hS.put hon (i := 5) rfl rfl (fun u hu => by cases hu; rfl)) hJ.pure)
                · have e93 := (eval_tmp a1 93).symm.trans (hS.get hB (i := 6) rfl 4 (by simp) rfl rfl rfl)
                  have e94 := (eval_tmp a1 94).symm.trans (hS.get hB (i := 6) rfl 5 (by simp) rfl rfl rfl)
                  refine wpOp_step rfl (fun K' hK' => ?_)
                  go_simp
                  exact hK' _ _ (hK _ _ (hS.put hon (i := 6) rfl rfl (fun u hu => by cases hu; rfl)) hJ.pure)
                · have e95 := (eval_tmp a1 95).symm.trans (hS.get hB (i := 7) rfl 6 (by simp) rfl rfl rfl)
                  have hc : w.cell? ⟨gm, k, none⟩ = some (.int .i64 (b01 (F k))) := by obtain ⟨q0, rfl⟩ := hJ; exact hcg
                  refine wpOp_step rfl (fun K' hK' => ?_)
                  go_simp
                  exact hK' _ _ (hK _ _ (hS.put hon (i := 7) rfl rfl (fun u hu => by cases hu; rfl)) hJ.pure)
                · have e96 := (eval_tmp a1 96).symm.trans (hS.get hB (i := 8) rfl 7 (by simp) rfl rfl rfl)
                  refine wpOp_step rfl (fun K' hK' => ?_)
                  go_simp
                  exact hK' _ _ (hK _ _ (hS.put hon (i := 8) rfl rfl (fun u hu => by cases hu; cases F k <;> rfl)) hJ.pure)
                · have e92 := (eval_tmp a1 92).symm.trans (hS.get hB (i := 9) rfl 3 (by simp) rfl rfl rfl)
                  have e97 := (eval_tmp a1 97).symm.trans (hS.get hB (i := 9) rfl 8 (by simp) rfl rfl rfl)
                  refine wpOp_step rfl (fun K' hK' => ?_)
                  go_simp
                  exact hK' _ _ (hK _ _ (hS.put hon (i := 9) rfl rfl (fun u hu => by cases hu; cases F k <;> rfl)) hJ.pure)
              · intro l a1 w' hl hS hJ
                have h98 := hS.val 9 _ 98 _ rfl rfl rfl (hl 9 (by decide))
                obtain ⟨q, hw'⟩ := hJ
                have HB2 : Hid (Below w8.heap.size w8 w') := by rw [hw']; exact below_drewN HB.out q
                have cg2 : w'.cell? ⟨gm, k, none⟩ = some (.int .i64 (b01 (F k))) := by rw [hw']; exact hcg
                have hgml2 : gm < w'.heap.size := by rw [hw']; exact hgml
                have hfr := hS.frame [89, 90, 91, 92, 93, 94, 95, 96, 97, 98] rfl
                refine (‹∀ (a : Act) (w : World), Code.wp Try.prog _ _ a w → _› a1 w' ?_)
                obtain ⟨z, hz⟩ : ∃ z : Nat → Value, z = fun k => a1.eval (.tmp k) := ⟨_, rfl⟩
                rw [← hz] at hfr
                have z98 : z 98 = .bool false := by rw [hz]; exact h98
                have hb1 : 0 ≤ b01 (F k) ∧ b01 (F k) ≤ 1 := by cases F k <;> decide
                clear hS hz hl hw' h98 hcg hgml HPV hpo HAW HIW e0
                rw [hfr]
                clear hfr
                simp only [over, List.setIfInBounds_toArray, List.set_cons_zero, List.set_cons_succ, z98]
                generalize b01 (F k) = xb at cg2 hb1 HGS2
                go_wp2_with fail
                go_roundw
                case rel => exact ⟨k + 1, by omega, by go_num, by rw [HGS2.out], HB2⟩
                case measure => simp [intOf]; omega
            · obtain rfl : k = L.length := by omega
              have HCW : Hid (Cs w w2 wr w.heap.size rg d w2.heap.size cb ob gm nc L s' fc (stayF s' (ddOf d) fc) D D7 F) := HCS.out.later HB.out
              obtain ⟨W9, hW9⟩ : ∃ W9, W9 = wr := ⟨_, rfl⟩
              subst hW9
              have hold := HCW.out.old.own
              clear hlt2 hk HB HCS HLK
              go_wp2_with (at_range; refine wpList_range_own _ rfl _ 55 rfl 70 28 keyedE Try.underlying55 _ ob nc _ rfl hold ?_; intro wi hrgi hgi hsi)
              go_frame
              go_loopw [21] (fun _ wr => ∃ (left : Lit → Bool) (cnt : Nat), wr.ranges Try.prog 70 (plainElem Try.prog 28) ob W9.heap.size nc D left cnt ∧ Hid (Below W9.heap.size W9 wr))
                (fun _ wr => wr.rangeLeft ob W9.heap.size)
              case atStart => exact ⟨_, _, hrgi, (Below.refl _ _).grown hgi (Nat.le_refl _) (fun j e => by cases e)⟩
              case round =>
                obtain ⟨left, cnt, hrg, HBQ⟩ := hrel
                clear hold hrgi hgi hsi
                go_wp2_with (at_next; refine wpList_next_ranges _ rfl _ rfl 70 keyedE (plainElem Try.prog 28) (id : Value → Value) (id : Value → Value) (fun key kl h => ⟨key, rfl⟩) (fun v y h => ⟨v, rfl⟩) ob W9.heap.size nc _ _ _ rfl hrg ?_ ?_)
                · intro _ hl0
                  have HCE : Hid (Cs w w2 wr w.heap.size rg d w2.heap.size cb ob gm nc L s' fc (stayF s' (ddOf d) fc) D D7 F) := HCW.out.later HBQ.out
                  have HMA : Hid (Calls Try.prog 29 #[.pointer (some ⟨w2.heap.size, 0, none⟩), .int .i64 0] wr fun e w' => e = .returned (.tuple #[.int .i64 ((L.length : Int) - (goneTo F L.length : Nat)), .int .i64 ((L.length : Int) - ((L.length : Int) - (goneTo F L.length : Nat)))]) ∧ Fr noT w2.heap.size wr w') := many_fr HCE.out.arn 0 _ _ (by rw [HAC.out]; rfl) (by omega) (by omega) 0 rfl
                  clear hl0 hrg
                  go_wp2_with fail
                  refine HMA.out.mono ?_
                  rintro e w10 ⟨rfl, hF10⟩
                  have b10 : Below wr.heap.size wr w10 := hF10.keepNo (fun t => rfl) (Nat.le_refl _)
                  have hJ10 := HCE.out.later b10
                  have HBE : Hid (Below w.heap.size w w10) := hJ10.below
                  have l1 := fun ty => hJ10.cache.own.len Try.underlying55 ty
                  have l2 := fun ty => hJ10.old.own.len Try.underlying55 ty
                  have hsz : (Maps.size D7 : Int) ≤ (Maps.size D : Int) := Int.ofNat_le.2 (size_sub hJ10.old hJ10.cache stay_sub)
                  clear hJ10 hF10 b10 HMA HCE
                  generalize Maps.size D7 = z7 at l1 hsz
                  generalize Maps.size D = z0 at l2 hsz
                  have hszb : decide ((z7 : Int) ≤ (z0 : Int)) = true := by simpa using hsz
                  go_wp2
                  go_ret
                  exact ⟨rfl, HBE.out⟩
                · intro key v kl yd yp w1 cnt1 hkey hlk hv hat hrg1 hlt hg1 hs1 hen
                  obtain ⟨m, t, p, hf, hkl, hk, hv'⟩ := HCW.out.old.found (y := (yd, yp)) hkey hv hat
                  obtain ⟨hw, p0, p1⟩ := HDR.out m t p hf
                  obtain ⟨e1, e2, e3, e4⟩ := id hw
                  change key = _ at hk
                  change v = _ at hv'
                  subst hk hv' hkl
                  have HB1 : Hid (Below W9.heap.size W9 w1) := HBQ.out.grown hg1 HBQ.out.size (fun j e => by cases e; exact Nat.le_refl _)
                  have HC1 : Hid (Cs w w2 w1 w.heap.size rg d w2.heap.size cb ob gm nc L s' fc (stayF s' (ddOf d) fc) D D7 F) := HCW.out.later HB1.out
                  have hbA : ∀ o, Below w1.heap.size w1 (w1.alloc o) := fun o => (Below.refl _ _).alloc (Nat.le_refl _) _
                  have HR1 : Hid (w1.ranges Try.prog 70 (plainElem Try.prog 28) ob W9.heap.size nc D (fun z => left z && !z.sameKey (kE m t)) cnt1) := hrg1
                  have HRO : Hid (wr.ranges Try.prog 70 (plainElem Try.prog 28) ob W9.heap.size nc D left cnt) := hrg
                  have HDD : Hid (∀ W : World, Below w1.heap.size w1 W → Calls Try.prog 26 #[.int .i64 m, .pointer (some ⟨w.heap.size, 0, none⟩)] W fun e w' => e = .returned (.bool (ddOf d m)) ∧ ∃ q, w' = W.drewN q) := fun W hb => dead_anyC (HC1.out.later hb).boxd e1 e2 hd0 hd1
                  clear hkey hlk hv hat hrg1 hrg hg1 hs1
                  cases hlo : look s'.slots p with
                  | none =>
                    have HG : Hid (∀ o, Calls Try.prog 28 #[.pointer (some ⟨w2.heap.size, 0, none⟩), .int .u64 p] (w1.alloc o) fun e w' => e = .returned (.pointer none) ∧ ∃ q, w' = (w1.alloc o).drewN q) := fun o => get_ptr (HC1.out.later (hbA o)).arn p p0 p1 none hlo
                    have hlo9 : ∀ o, (Instr.lookup 55 (.map (some cb)) (.agg #[.int .i64 m, .int .u64 t]) true).run Try.prog (w1.alloc o) = .ok (.tuple #[.int .u64 0, .bool false]) (w1.alloc o) := fun o => (HC1.out.later (hbA o)).cache.look hw none (stay_gone hf hlo)
                    clear hlo hf hw HDD
                    go_wp2_with fail
                    refine (HG.out _).mono ?_
                    rintro e w5 ⟨rfl, q, hw5⟩
                    have hb5 : Below w1.heap.size w1 w5 := by rw [hw5]; exact below_drewN ((Below.refl _ _).alloc (Nat.le_refl _) _) q
                    have hrg5 := HR1.out.kept (below_grown hb5 none) (by simp) (by simp)
                    have HB5 : Hid (Below W9.heap.size W9 w5) := HB1.out.trans (hb5.mono HB1.out.size)
                    clear hw5 HG hlo9
                    go_wp2_with fail
                    go_roundw
                    case rel => exact ⟨_, cnt1, hrg5, HB5⟩
                    case measure => rw [hrg5.left_eq, HRO.out.left_eq]; omega
                  | some ov =>
                    cases hdd : ddOf d m with
                    | true =>
                      have HG : Hid (∀ o, Calls Try.prog 28 #[.pointer (some ⟨w2.heap.size, 0, none⟩), .int .u64 p] (w1.alloc o) fun e w' => e = .returned (.pointer (some ⟨ov.1, 0, none⟩)) ∧ ∃ q, w' = (w1.alloc o).drewN q) := fun o => get_ptr (HC1.out.later (hbA o)).arn p p0 p1 (some ov) hlo
                      have hlo9 : ∀ o, (Instr.lookup 55 (.map (some cb)) (.agg #[.int .i64 m, .int .u64 t]) true).run Try.prog (w1.alloc o) = .ok (.tuple #[.int .u64 0, .bool false]) (w1.alloc o) := fun o => (HC1.out.later (hbA o)).cache.look hw none (stay_dead hf hdd)
                      rw [hdd] at HDD
                      clear hlo hf hw hdd
                      go_wp2_with fail
                      refine (HG.out _).mono ?_
                      rintro e w5 ⟨rfl, q, hw5⟩
                      have hb5 : Below w1.heap.size w1 w5 := by rw [hw5]; exact below_drewN ((Below.refl _ _).alloc (Nat.le_refl _) _) q
                      have hcp : w5.heap[w1.heap.size]? = some (.cells #[.int .i64 m, .int .u64 t] 70 (0, 0)) := by rw [hw5]; exact heap_alloc_new w1 _
                      obtain ⟨g0, g1, gf⟩ := two_cells hcp
                      clear hw5 HG hlo9 hcp
                      have eD := dead_entersC
                      go_wp2_with fail
                      refine (HDD.out _ hb5).mono ?_
                      rintro e w6 ⟨rfl, q6, hw6⟩
                      have hb6 : Below w1.heap.size w1 w6 := by rw [hw6]; exact below_drewN hb5 q6
                      have hrg5 := HR1.out.kept (below_grown hb6 none) (by simp) (by simp)
                      have HB5 : Hid (Below W9.heap.size W9 w6) := HB1.out.trans (hb6.mono HB1.out.size)
                      clear hw6 HDD hb5 g0 g1 gf
                      go_wp2_with fail
                      go_roundw
                      case rel => exact ⟨_, cnt1, hrg5, HB5⟩
                      case measure => rw [hrg5.left_eq, HRO.out.left_eq]; omega
                    | false =>
                      have HG : Hid (∀ o, Calls Try.prog 28 #[.pointer (some ⟨w2.heap.size, 0, none⟩), .int .u64 p] (w1.alloc o) fun e w' => e = .returned (.pointer (some ⟨ov.1, 0, none⟩)) ∧ ∃ q, w' = (w1.alloc o).drewN q) := fun o => get_ptr (HC1.out.later (hbA o)).arn p p0 p1 (some ov) hlo
                      have hlo9 : ∀ o, (Instr.lookup 55 (.map (some cb)) (.agg #[.int .i64 m, .int .u64 t]) true).run Try.prog (w1.alloc o) = .ok (.tuple #[.int .u64 p, .bool true]) (w1.alloc o) := fun o => (HC1.out.later (hbA o)).cache.look hw (some p) (stay_ok hf hlo hdd)
                      rw [hdd] at HDD
                      clear hlo hf hw hdd
                      go_wp2_with fail
                      refine (HG.out _).mono ?_
                      rintro e w5 ⟨rfl, q, hw5⟩
                      have hb5 : Below w1.heap.size w1 w5 := by rw [hw5]; exact below_drewN ((Below.refl _ _).alloc (Nat.le_refl _) _) q
                      have hcp : w5.heap[w1.heap.size]? = some (.cells #[.int .i64 m, .int .u64 t] 70 (0, 0)) := by rw [hw5]; exact heap_alloc_new w1 _
                      obtain ⟨g0, g1, gf⟩ := two_cells hcp
                      clear hw5 HG hlo9 hcp
                      have eD := dead_entersC
                      go_wp2_with fail
                      refine (HDD.out _ hb5).mono ?_
                      rintro e w6 ⟨rfl, q6, hw6⟩
                      have hb6 : Below w1.heap.size w1 w6 := by rw [hw6]; exact below_drewN hb5 q6
                      have hrg5 := HR1.out.kept (below_grown hb6 none) (by simp) (by simp)
                      have HB5 : Hid (Below W9.heap.size W9 w6) := HB1.out.trans (hb6.mono HB1.out.size)
                      clear hw6 HDD hb5 g0 g1 gf
                      go_wp2_with fail
                      go_roundw
                      case rel => exact ⟨_, cnt1, hrg5, HB5⟩
                      case measure => rw [hrg5.left_eq, HRO.out.left_eq]; omega
end Go.Proofs.Ytebcojkeblpbjaa

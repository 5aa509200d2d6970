/-
  The laws' Check.
  Conditions: as each theorem says.
-/
import Derived.Test.YtpboencfnjmmbaaGreatDoorVdWrong
import Derived.Deep.CutBlock
import Derived.Deep.DeepCutAuto
namespace Go.Proofs.YtpboencfnjmmbaaGreatDoor
open Go.RowKit
set_option linter.unusedVariables false
set_option linter.unusedSimpArgs false
set_option maxRecDepth 100000 in
set_option maxHeartbeats 4000000 in
theorem lawCheck_any {fs : List VF} {v : Value} {w : World} (h : FSl w v fs) (hok : ∀ f ∈ fs, f.ok) (hbig : ∀ f ∈ fs, f.p + f.h.length ≤ 9223372036854775807) :
    Calls Tryz.prog 15 #[.agg #[v]] w fun e w' => e = tup (checkP fs) ∧ Below w.heap.size w w' := by
  have HF : Hid (FSl w v fs) := h
  have HOK : Hid (∀ f ∈ fs, f.ok) := hok
  have HBIG : Hid (∀ f ∈ fs, f.p + f.h.length ≤ 9223372036854775807) := hbig
  obtain ⟨ad, cap, rfl, hc1, hx1, hg1⟩ := h
  unfold maxLen at hx1
  have HG := Lib.hid hg1
  clear hg1 hok hbig
  have hl63 : fs.length ≤ 9223372036854775807 := by omega
  by_cases hl1 : fs.length < 1
  · have HR : Hid (checkP fs = (0, 0, 2)) := by refine Lib.hid ?_; simp only [checkP, if_pos (Or.inl hl1 : fs.length < 1 ∨ 100 < fs.length)]
    have hl : ((fs.length : Int) == 0) = true := by rw [beq_iff_eq]; omega
    go_enter Tryz.func15, Tryz.ntmps15
    go_wp2
    go_ret3
    exact ⟨by rw [HR.out]; rfl, bl0 _ _⟩
  by_cases hl2 : 100 < fs.length
  · have HR : Hid (checkP fs = (0, 0, 2)) := by refine Lib.hid ?_; simp only [checkP, if_pos (Or.inr hl2 : fs.length < 1 ∨ 100 < fs.length)]
    have hl : (100 : Int) < (fs.length : Int) := by omega
    have hl0 : ((fs.length : Int) == 0) = false := beq_eq_false_iff_ne.2 (by omega)
    go_enter Tryz.func15, Tryz.ntmps15
    go_wp2
    go_ret3
    exact ⟨by rw [HR.out]; rfl, bl0 _ _⟩
  have HR0 : Hid (checkP fs = funP fs fs 0) := by refine Lib.hid ?_; simp only [checkP, if_neg (show ¬ (fs.length < 1 ∨ 100 < fs.length) from by omega)]
  have hla : ((fs.length : Int) == 0) = false := beq_eq_false_iff_ne.2 (by omega)
  have hlb : ¬ ((100 : Int) < (fs.length : Int)) := by omega
  go_enter Tryz.func15, Tryz.ntmps15
  go_wp2_with fail
  obtain ⟨w1, hw1⟩ : ∃ w1, w1 = w.alloc (.cells #[.slice ad fs.length cap] 31) := ⟨_, rfl⟩
  have HB1 : Hid (Below w.heap.size w w1) := by rw [hw1]; exact bl0 _ _
  have hbm : w1.heap[w.heap.size]? = some (.cells #[.slice ad fs.length cap] 31 (0, 0)) := by rw [hw1]; exact heap_alloc_new _ _
  have HBM := Lib.hid hbm
  have HF1 : Hid (FSl w1 (.slice ad fs.length cap) fs) := HF.out.up HB1.out
  have hml := lt_of_block hbm
  first | rw [← hw1] | skip
  clear hw1 hbm
  go_loopw [23] (fun i wr => ∃ k : Nat, i = .int .i64 (k : Int) ∧ k ≤ fs.length ∧ Hid (Below w1.heap.size w1 wr) ∧ Hid (funP fs (fs.drop k) k = funP fs fs 0))
    (fun i _ => fs.length - (intOf i).toNat)
  case atStart => exact ⟨0, rfl, Nat.zero_le _, Below.refl _ _, rfl⟩
  case round =>
    obtain ⟨k, rfl, hk, HBk, HPk⟩ := hrel
    obtain ⟨W0, hW0⟩ : ∃ W0, W0 = wr := ⟨_, rfl⟩
    subst hW0
    by_cases hlt : k < fs.length
    · obtain ⟨f, hf⟩ : ∃ f, fs[k]? = some f := ⟨_, List.getElem?_eq_getElem hlt⟩
      have HFK : Hid (f.ok) := HOK.out f (List.mem_of_getElem? hf)
      have hfm := List.mem_of_getElem? hf
      have HST : Hid ((if sizedF f = false then (k, 0, 2) else if k = 0 ∧ 0 < f.p + f.h.length then (0, 0, 16) else match insP fs f f.cd 0 with | some i => (k, i, 16) | none => funP fs (fs.drop (k + 1)) (k + 1)) = funP fs fs 0) := by
        have h := HPk.out
        rw [drop_cons hf] at h
        exact h
      obtain ⟨ad9, cap9, hv9, _, _, hg9⟩ := HF1.out.up HBk.out
      injection hv9 with hv1 hv2 hv3
      subst hv1
      obtain ⟨g, o, rfl, gl, A⟩ := hg9 (by omega)
      obtain ⟨hv, cv, iv, V0, c0, c1, c2, c3, c4⟩ := A k f hf
      have HV0 := Lib.hid V0
      obtain ⟨adh, caph, rfl, _, _, _⟩ := V0.h
      obtain ⟨adc, capc, rfl⟩ := V0.c
      obtain ⟨adi, capi, rfl, hci, hxi, _⟩ := V0.i
      have hidx : 0 ≤ (k : Int) ∧ (k : Int) < (fs.length : Int) := ⟨by omega, by omega⟩
      clear A hf V0 hv2 hv3 hg9
      go_upto_region 6 with fail
      obtain ⟨W1, hW1⟩ : ∃ W1, W1 = W0.alloc (.cells #[.int .i64 f.p, .slice adh f.h.length caph, .int .i64 f.r, .slice adc f.nc capc, .slice adi f.cd.length capi] 47) := ⟨_, rfl⟩
      have HBW1 : Hid (Below W0.heap.size W0 W1) := by rw [hW1]; exact bl0 _ _
      have hbf : W1.heap[W0.heap.size]? = some (.cells #[.int .i64 f.p, .slice adh f.h.length caph, .int .i64 f.r, .slice adc f.nc capc, .slice adi f.cd.length capi] 47 (0, 0)) := by rw [hW1]; exact heap_alloc_new _ _
      have hz1 : W0.heap.size < W1.heap.size := by rw [hW1]; simp
      first | rw [← hW1] | skip
      have HBF := Lib.hid hbf
      clear hW1 c0 c1 c2 c3 c4 hbf
      have HRR : Hid (sizedF f = false → funP fs fs 0 = (k, 0, 2)) := fun h => by rw [← HST.out, if_pos h]
      have HBE : Hid (Below w.heap.size w W1) := HB1.out.trans ((HBk.out.trans (HBW1.out.mono HBk.out.size)).mono HB1.out.size)
      have hpb := HBIG.out f hfm
      have hpz := HFK.out.p
      unfold Z64 at hpz
      have hhl : f.h.length ≤ 1000000 := HFK.out.hl
      have d0 : W1.cell? ⟨W0.heap.size, 0, none⟩ = some (.int .i64 f.p) := by simp [World.cell?, HBF.out]
      have d1 : W1.cell? ⟨W0.heap.size, 1, none⟩ = some (.slice adh f.h.length caph) := by simp [World.cell?, HBF.out]
      have d2 : W1.cell? ⟨W0.heap.size, 2, none⟩ = some (.int .i64 f.r) := by simp [World.cell?, HBF.out]
      have d3 : W1.cell? ⟨W0.heap.size, 3, none⟩ = some (.slice adc f.nc capc) := by simp [World.cell?, HBF.out]
      have d4 : W1.cell? ⟨W0.heap.size, 4, none⟩ = some (.slice adi f.cd.length capi) := by simp [World.cell?, HBF.out]
      by_cases p0 : f.p < 0
      · have HS : Hid (sizedF f = false) := by refine Lib.hid ?_; unfold sizedF; simp; try omega
        go_wp2
        go_ret3
        exact ⟨by rw [HR0.out, HRR.out HS.out]; rfl, HBE.out⟩
      by_cases p1 : f.r < 0
      · have HS : Hid (sizedF f = false) := by refine Lib.hid ?_; unfold sizedF; simp; try omega
        go_wp2
        go_ret3
        exact ⟨by rw [HR0.out, HRR.out HS.out]; rfl, HBE.out⟩
      by_cases p2 : (100 : Int) < f.r
      · have HS : Hid (sizedF f = false) := by refine Lib.hid ?_; unfold sizedF; simp; try omega
        go_wp2
        go_ret3
        exact ⟨by rw [HR0.out, HRR.out HS.out]; rfl, HBE.out⟩
      by_cases p3 : f.r < f.p + (f.h.length : Int)
      · have HS : Hid (sizedF f = false) := by refine Lib.hid ?_; unfold sizedF; simp; try omega
        go_wp2
        go_ret3
        exact ⟨by rw [HR0.out, HRR.out HS.out]; rfl, HBE.out⟩
      by_cases p4 : f.cd.length = 0
      · have HS : Hid (sizedF f = false) := by refine Lib.hid ?_; unfold sizedF; simp [p4]
        have hz : ((f.cd.length : Int) == 0) = true := by rw [beq_iff_eq]; omega
        go_wp2
        go_ret3
        exact ⟨by rw [HR0.out, HRR.out HS.out]; rfl, HBE.out⟩
      have hcz : ((f.cd.length : Int) == 0) = false := beq_eq_false_iff_ne.2 (by omega)
      by_cases p5 : (2000 : Int) < (f.cd.length : Int)
      · have HS : Hid (sizedF f = false) := by refine Lib.hid ?_; unfold sizedF; simp; try omega
        go_wp2
        go_ret3
        exact ⟨by rw [HR0.out, HRR.out HS.out]; rfl, HBE.out⟩
      have HSZ : Hid (sizedF f = true) := by refine Lib.hid ?_; unfold sizedF; simp; try omega
      have HST2 : Hid ((if k = 0 ∧ 0 < f.p + f.h.length then (0, 0, 16) else match insP fs f f.cd 0 with | some i => (k, i, 16) | none => funP fs (fs.drop (k + 1)) (k + 1)) = funP fs fs 0) := by
        have h := HST.out
        rwa [if_neg (by rw [HSZ.out]; simp)] at h
      clear hpb
      by_cases hkz : k = 0
      · subst hkz
        by_cases hp0 : 0 < f.p
        · have HRR2 : Hid (funP fs fs 0 = (0, 0, 16)) := by rw [← HST2.out, if_pos ⟨rfl, by omega⟩]; exact rfl
          go_wp2
          go_ret3
          exact ⟨by rw [HR0.out, HRR2.out]; rfl, HBE.out⟩
        by_cases hh0 : (0 : Int) < (f.h.length : Int)
        · have HRR2 : Hid (funP fs fs 0 = (0, 0, 16)) := by rw [← HST2.out, if_pos ⟨rfl, by omega⟩]; exact rfl
          go_wp2
          go_ret3
          exact ⟨by rw [HR0.out, HRR2.out]; rfl, HBE.out⟩
        have HST3 : Hid ((match insP fs f f.cd 0 with | some i => (0, i, 16) | none => funP fs (fs.drop (0 + 1)) (0 + 1)) = funP fs fs 0) := by
          have h := HST2.out
          rwa [if_neg (show ¬ ((0 : Nat) = 0 ∧ 0 < f.p + (f.h.length : Int)) from by omega)] at h
        go_wp2_with fail
        go_loopw [81] (fun i wr => ∃ m : Nat, i = .int .i64 (m : Int) ∧ m ≤ f.cd.length ∧ Hid (Below W1.heap.size W1 wr) ∧ Hid (insP fs f (f.cd.drop m) m = insP fs f f.cd 0))
          (fun i _ => f.cd.length - (intOf i).toNat)
        case atStart => exact ⟨0, rfl, Nat.zero_le _, Below.refl _ _, rfl⟩
        case round =>
          obtain ⟨m, rfl, hm, HBm, HPm⟩ := hrel
          obtain ⟨W3, hW3⟩ : ∃ W3, W3 = wr := ⟨_, rfl⟩
          subst hW3
          have HB03 : Hid (Below W0.heap.size W0 W3) := HBW1.out.trans (HBm.out.mono HBW1.out.size)
          by_cases hlt2 : m < f.cd.length
          · obtain ⟨x, hx⟩ : ∃ x, f.cd[m]? = some x := ⟨_, List.getElem?_eq_getElem hlt2⟩
            obtain ⟨op, a, b, c⟩ := x
            have HXO : Hid (VI.ok ⟨op, a, b, c⟩) := HFK.out.cd _ (List.mem_of_getElem? hx)
            have HPS := Lib.hid (insP_step HPm.out hx)
            obtain ⟨ad8, cap8, hv8, _, _, hg8⟩ := (HV0.out.up HB03.out).i
            injection hv8 with hv1 hv2 hv3
            subst hv1
            obtain ⟨gi, oi, rfl, gil, Ai⟩ := hg8 (by omega)
            obtain ⟨c0, c1, c2, c3⟩ := Ai m _ hx
            have hidx2 : 0 ≤ (m : Int) ∧ (m : Int) < (f.cd.length : Int) := ⟨by omega, by omega⟩
            have hopb : op < 256 := HXO.out.1
            clear Ai hx hv2 hv3 hg8
            go_upto_region 13 with fail
            obtain ⟨W4, hW4⟩ : ∃ W4, W4 = W3.alloc (.cells #[.int .u8 (op : Int), .int .i64 a, .int .i64 b, .int .i64 c] 51) := ⟨_, rfl⟩
            have HB4 : Hid (Below W3.heap.size W3 W4) := by rw [hW4]; exact bl0 _ _
            have hbi : W4.heap[W3.heap.size]? = some (.cells #[.int .u8 (op : Int), .int .i64 a, .int .i64 b, .int .i64 c] 51 (0, 0)) := by rw [hW4]; exact heap_alloc_new _ _
            have hz4 : W3.heap.size < W4.heap.size := by rw [hW4]; simp
            have HB14 : Hid (Below W1.heap.size W1 W4) := HBm.out.trans (HB4.out.mono HBm.out.size)
            have HB04 : Hid (Below W0.heap.size W0 W4) := HB03.out.trans (HB4.out.mono HB03.out.size)
            have HBw4 : Hid (Below w1.heap.size w1 W4) := HBk.out.trans (HB04.out.mono HBk.out.size)
            have hbl := (HB14.out.block _ hz1).trans HBF.out
            have hbm2 := (HBw4.out.block _ hml).trans HBM.out
            have l0 : W4.cell? ⟨W0.heap.size, 0, none⟩ = some (.int .i64 f.p) := by simp [World.cell?, hbl]
            have l1 : W4.cell? ⟨W0.heap.size, 1, none⟩ = some (.slice adh f.h.length caph) := by simp [World.cell?, hbl]
            have l2 : W4.cell? ⟨W0.heap.size, 2, none⟩ = some (.int .i64 f.r) := by simp [World.cell?, hbl]
            have l3 : W4.cell? ⟨W0.heap.size, 3, none⟩ = some (.slice adc f.nc capc) := by simp [World.cell?, hbl]
            have l4 : W4.cell? ⟨W0.heap.size, 4, none⟩ = some (.slice (some ⟨gi, oi, none⟩) f.cd.length capi) := by simp [World.cell?, hbl]
            have mm : W4.cell? ⟨w.heap.size, 0, none⟩ = some (.slice (some ⟨g, o, none⟩) fs.length cap) := by simp [World.cell?, hbm2]
            have i0 : W4.cell? ⟨W3.heap.size, 0, none⟩ = some (.int .u8 (op : Int)) := by simp [World.cell?, hbi]
            have i1 : W4.cell? ⟨W3.heap.size, 1, none⟩ = some (.int .i64 a) := by simp [World.cell?, hbi]
            have i2 : W4.cell? ⟨W3.heap.size, 2, none⟩ = some (.int .i64 b) := by simp [World.cell?, hbi]
            have i3 : W4.cell? ⟨W3.heap.size, 3, none⟩ = some (.int .i64 c) := by simp [World.cell?, hbi]
            first | rw [← hW4] | skip
            clear hW4 hbi hbl hbm2 c0 c1 c2 c3
            obtain ⟨LB, hLB⟩ : ∃ LB, LB = (decide (m + 1 = f.cd.length) && !endsV op) := ⟨_, rfl⟩
            have HLB := Lib.hid hLB
            clear hLB
            go_cut [9] (fun s9 wx => s9 = .bool LB ∧ wx = W4)
            case first =>
              by_cases hlast : m + 1 = f.cd.length
              · have hme : ((m : Int) == (f.cd.length : Int) - 1) = true := by rw [beq_iff_eq]; omega
                by_cases h15 : op = 15
                · subst h15
                  have HL : Hid (LB = false) := by refine Lib.hid ?_; rw [HLB.out]; simp [endsV]
                  go_wp2_with fail
                  go_meet
                  exact ⟨by rw [HL.out], rfl⟩
                have e15 : ((op : Int) != 15) = true := by rw [bne_iff_ne]; omega
                by_cases h16 : op = 16
                · subst h16
                  have HL : Hid (LB = false) := by refine Lib.hid ?_; rw [HLB.out]; simp [endsV]
                  go_wp2_with fail
                  go_meet
                  exact ⟨by rw [HL.out], rfl⟩
                have e16 : ((op : Int) != 16) = true := by rw [bne_iff_ne]; omega
                by_cases h18 : op = 18
                · subst h18
                  have HL : Hid (LB = false) := by refine Lib.hid ?_; rw [HLB.out]; simp [endsV]
                  go_wp2_with fail
                  go_meet
                  exact ⟨by rw [HL.out], rfl⟩
                have e18 : ((op : Int) != 18) = true := by rw [bne_iff_ne]; omega
                by_cases h19 : op = 19
                · subst h19
                  have HL : Hid (LB = false) := by refine Lib.hid ?_; rw [HLB.out]; simp [endsV]
                  go_wp2_with fail
                  go_meet
                  exact ⟨by rw [HL.out], rfl⟩
                have e19 : ((op : Int) != 19) = true := by rw [bne_iff_ne]; omega
                have HL : Hid (LB = true) := by refine Lib.hid ?_; rw [HLB.out]; simp [endsV, hlast, h15, h16, h18, h19]
                clear h15 h16 h18 h19
                go_wp2_with fail
                go_meet
                exact ⟨by rw [HL.out], rfl⟩
              · have hme : ((m : Int) == (f.cd.length : Int) - 1) = false := beq_eq_false_iff_ne.2 (by omega)
                have HL : Hid (LB = false) := by refine Lib.hid ?_; rw [HLB.out]; simp [hlast]
                go_wp2_with fail
                go_meet
                exact ⟨by rw [HL.out], rfl⟩
            case rest =>
              obtain ⟨rfl, rfl⟩ := hcut
              go_wp2_with fail
              refine (wrong_any (HF1.out.up HBw4.out) HOK.out (HV0.out.up HB04.out) HXO.out).mono ?_
              rintro e w5 ⟨rfl, hb5⟩
              have HB45 := Lib.hid hb5
              have HB05 : Hid (Below W0.heap.size W0 w5) := HB04.out.trans (HB45.out.mono HB04.out.size)
              have HBE : Hid (Below w.heap.size w w5) := HB1.out.trans ((HBk.out.trans (HB05.out.mono HBk.out.size)).mono HB1.out.size)
              have HB15 : Hid (Below W1.heap.size W1 w5) := HB14.out.trans (HB45.out.mono HB14.out.size)
              have HSTM : Hid (∀ i, insP fs f f.cd 0 = some i → funP fs fs 0 = (0, i, 16)) := fun i hi => by rw [← HST3.out, hi]
              clear hb5 l0 l1 l2 l3 l4 i0 i1 i2 i3 mm
              obtain ⟨q, hq⟩ : ∃ q, q = fitsF fs f ⟨op, a, b, c⟩ := ⟨_, rfl⟩
              rw [← hq]
              have HQ := Lib.hid hq
              clear hq
              cases q
              · have HRR : Hid (funP fs fs 0 = (0, m, 16)) := HSTM.out m (by
                  have h := HPS.out
                  rw [if_pos (by simp [badV, ← HQ.out])] at h
                  exact h.symm)
                go_wp2
                go_ret3
                exact ⟨by rw [HR0.out, HRR.out]; rfl, HBE.out⟩
              · cases LB
                · have HN : Hid (insP fs f (f.cd.drop (m + 1)) (m + 1) = insP fs f f.cd 0) := by
                    have h := HPS.out
                    rw [if_neg (by unfold badV; rw [← HQ.out, ← HLB.out]; simp)] at h
                    exact h
                  go_wp2_with fail
                  go_roundw
                  case rel => exact ⟨m + 1, by go_num, by omega, HB15.out, HN.out⟩
                  case measure => simp [intOf]; omega
                · have HRR : Hid (funP fs fs 0 = (0, m, 16)) := HSTM.out m (by
                    have h := HPS.out
                    rw [if_pos (by unfold badV; rw [← HQ.out, ← HLB.out]; simp)] at h
                    exact h.symm)
                  go_wp2
                  go_ret3
                  exact ⟨by rw [HR0.out, HRR.out]; rfl, HBE.out⟩
          · obtain rfl : m = f.cd.length := by omega
            have HNX : Hid (funP fs (fs.drop (0 + 1)) (0 + 1) = funP fs fs 0) := by
              have h := HPm.out
              rw [List.drop_length] at h
              have h2 := HST3.out
              rw [← h] at h2
              exact h2
            have HB1N : Hid (Below w1.heap.size w1 W3) := HBk.out.trans (HB03.out.mono HBk.out.size)
            go_wp2_with fail
            go_roundw
            case rel => exact ⟨0 + 1, by go_num, by omega, HB1N.out, HNX.out⟩
            case measure => simp [intOf]; omega
      · have hkz2 : ((k : Int) == 0) = false := beq_eq_false_iff_ne.2 (by omega)
        have HST3 : Hid ((match insP fs f f.cd 0 with | some i => (k, i, 16) | none => funP fs (fs.drop (k + 1)) (k + 1)) = funP fs fs 0) := by
          have h := HST2.out
          rwa [if_neg (show ¬ (k = 0 ∧ 0 < f.p + (f.h.length : Int)) from fun h => hkz h.1)] at h
        clear hkz
        go_wp2_with fail
        go_loopw [81] (fun i wr => ∃ m : Nat, i = .int .i64 (m : Int) ∧ m ≤ f.cd.length ∧ Hid (Below W1.heap.size W1 wr) ∧ Hid (insP fs f (f.cd.drop m) m = insP fs f f.cd 0))
          (fun i _ => f.cd.length - (intOf i).toNat)
        case atStart => exact ⟨0, rfl, Nat.zero_le _, Below.refl _ _, rfl⟩
        case round =>
          obtain ⟨m, rfl, hm, HBm, HPm⟩ := hrel
          obtain ⟨W3, hW3⟩ : ∃ W3, W3 = wr := ⟨_, rfl⟩
          subst hW3
          have HB03 : Hid (Below W0.heap.size W0 W3) := HBW1.out.trans (HBm.out.mono HBW1.out.size)
          by_cases hlt2 : m < f.cd.length
          · obtain ⟨x, hx⟩ : ∃ x, f.cd[m]? = some x := ⟨_, List.getElem?_eq_getElem hlt2⟩
            obtain ⟨op, a, b, c⟩ := x
            have HXO : Hid (VI.ok ⟨op, a, b, c⟩) := HFK.out.cd _ (List.mem_of_getElem? hx)
            have HPS := Lib.hid (insP_step HPm.out hx)
            obtain ⟨ad8, cap8, hv8, _, _, hg8⟩ := (HV0.out.up HB03.out).i
            injection hv8 with hv1 hv2 hv3
            subst hv1
            obtain ⟨gi, oi, rfl, gil, Ai⟩ := hg8 (by omega)
            obtain ⟨c0, c1, c2, c3⟩ := Ai m _ hx
            have hidx2 : 0 ≤ (m : Int) ∧ (m : Int) < (f.cd.length : Int) := ⟨by omega, by omega⟩
            have hopb : op < 256 := HXO.out.1
            clear Ai hx hv2 hv3 hg8
            go_upto_region 13 with fail
            obtain ⟨W4, hW4⟩ : ∃ W4, W4 = W3.alloc (.cells #[.int .u8 (op : Int), .int .i64 a, .int .i64 b, .int .i64 c] 51) := ⟨_, rfl⟩
            have HB4 : Hid (Below W3.heap.size W3 W4) := by rw [hW4]; exact bl0 _ _
            have hbi : W4.heap[W3.heap.size]? = some (.cells #[.int .u8 (op : Int), .int .i64 a, .int .i64 b, .int .i64 c] 51 (0, 0)) := by rw [hW4]; exact heap_alloc_new _ _
            have hz4 : W3.heap.size < W4.heap.size := by rw [hW4]; simp
            have HB14 : Hid (Below W1.heap.size W1 W4) := HBm.out.trans (HB4.out.mono HBm.out.size)
            have HB04 : Hid (Below W0.heap.size W0 W4) := HB03.out.trans (HB4.out.mono HB03.out.size)
            have HBw4 : Hid (Below w1.heap.size w1 W4) := HBk.out.trans (HB04.out.mono HBk.out.size)
            have hbl := (HB14.out.block _ hz1).trans HBF.out
            have hbm2 := (HBw4.out.block _ hml).trans HBM.out
            have l0 : W4.cell? ⟨W0.heap.size, 0, none⟩ = some (.int .i64 f.p) := by simp [World.cell?, hbl]
            have l1 : W4.cell? ⟨W0.heap.size, 1, none⟩ = some (.slice adh f.h.length caph) := by simp [World.cell?, hbl]
            have l2 : W4.cell? ⟨W0.heap.size, 2, none⟩ = some (.int .i64 f.r) := by simp [World.cell?, hbl]
            have l3 : W4.cell? ⟨W0.heap.size, 3, none⟩ = some (.slice adc f.nc capc) := by simp [World.cell?, hbl]
            have l4 : W4.cell? ⟨W0.heap.size, 4, none⟩ = some (.slice (some ⟨gi, oi, none⟩) f.cd.length capi) := by simp [World.cell?, hbl]
            have mm : W4.cell? ⟨w.heap.size, 0, none⟩ = some (.slice (some ⟨g, o, none⟩) fs.length cap) := by simp [World.cell?, hbm2]
            have i0 : W4.cell? ⟨W3.heap.size, 0, none⟩ = some (.int .u8 (op : Int)) := by simp [World.cell?, hbi]
            have i1 : W4.cell? ⟨W3.heap.size, 1, none⟩ = some (.int .i64 a) := by simp [World.cell?, hbi]
            have i2 : W4.cell? ⟨W3.heap.size, 2, none⟩ = some (.int .i64 b) := by simp [World.cell?, hbi]
            have i3 : W4.cell? ⟨W3.heap.size, 3, none⟩ = some (.int .i64 c) := by simp [World.cell?, hbi]
            first | rw [← hW4] | skip
            clear hW4 hbi hbl hbm2 c0 c1 c2 c3
            obtain ⟨LB, hLB⟩ : ∃ LB, LB = (decide (m + 1 = f.cd.length) && !endsV op) := ⟨_, rfl⟩
            have HLB := Lib.hid hLB
            clear hLB
            go_cut [9] (fun s9 wx => s9 = .bool LB ∧ wx = W4)
            case first =>
              by_cases hlast : m + 1 = f.cd.length
              · have hme : ((m : Int) == (f.cd.length : Int) - 1) = true := by rw [beq_iff_eq]; omega
                by_cases h15 : op = 15
                · subst h15
                  have HL : Hid (LB = false) := by refine Lib.hid ?_; rw [HLB.out]; simp [endsV]
                  go_wp2_with fail
                  go_meet
                  exact ⟨by rw [HL.out], rfl⟩
                have e15 : ((op : Int) != 15) = true := by rw [bne_iff_ne]; omega
                by_cases h16 : op = 16
                · subst h16
                  have HL : Hid (LB = false) := by refine Lib.hid ?_; rw [HLB.out]; simp [endsV]
                  go_wp2_with fail
                  go_meet
                  exact ⟨by rw [HL.out], rfl⟩
                have e16 : ((op : Int) != 16) = true := by rw [bne_iff_ne]; omega
                by_cases h18 : op = 18
                · subst h18
                  have HL : Hid (LB = false) := by refine Lib.hid ?_; rw [HLB.out]; simp [endsV]
                  go_wp2_with fail
                  go_meet
                  exact ⟨by rw [HL.out], rfl⟩
                have e18 : ((op : Int) != 18) = true := by rw [bne_iff_ne]; omega
                by_cases h19 : op = 19
                · subst h19
                  have HL : Hid (LB = false) := by refine Lib.hid ?_; rw [HLB.out]; simp [endsV]
                  go_wp2_with fail
                  go_meet
                  exact ⟨by rw [HL.out], rfl⟩
                have e19 : ((op : Int) != 19) = true := by rw [bne_iff_ne]; omega
                have HL : Hid (LB = true) := by refine Lib.hid ?_; rw [HLB.out]; simp [endsV, hlast, h15, h16, h18, h19]
                clear h15 h16 h18 h19
                go_wp2_with fail
                go_meet
                exact ⟨by rw [HL.out], rfl⟩
              · have hme : ((m : Int) == (f.cd.length : Int) - 1) = false := beq_eq_false_iff_ne.2 (by omega)
                have HL : Hid (LB = false) := by refine Lib.hid ?_; rw [HLB.out]; simp [hlast]
                go_wp2_with fail
                go_meet
                exact ⟨by rw [HL.out], rfl⟩
            case rest =>
              obtain ⟨rfl, rfl⟩ := hcut
              go_wp2_with fail
              refine (wrong_any (HF1.out.up HBw4.out) HOK.out (HV0.out.up HB04.out) HXO.out).mono ?_
              rintro e w5 ⟨rfl, hb5⟩
              have HB45 := Lib.hid hb5
              have HB05 : Hid (Below W0.heap.size W0 w5) := HB04.out.trans (HB45.out.mono HB04.out.size)
              have HBE : Hid (Below w.heap.size w w5) := HB1.out.trans ((HBk.out.trans (HB05.out.mono HBk.out.size)).mono HB1.out.size)
              have HB15 : Hid (Below W1.heap.size W1 w5) := HB14.out.trans (HB45.out.mono HB14.out.size)
              have HSTM : Hid (∀ i, insP fs f f.cd 0 = some i → funP fs fs 0 = (k, i, 16)) := fun i hi => by rw [← HST3.out, hi]
              clear hb5 l0 l1 l2 l3 l4 i0 i1 i2 i3 mm
              obtain ⟨q, hq⟩ : ∃ q, q = fitsF fs f ⟨op, a, b, c⟩ := ⟨_, rfl⟩
              rw [← hq]
              have HQ := Lib.hid hq
              clear hq
              cases q
              · have HRR : Hid (funP fs fs 0 = (k, m, 16)) := HSTM.out m (by
                  have h := HPS.out
                  rw [if_pos (by simp [badV, ← HQ.out])] at h
                  exact h.symm)
                go_wp2
                go_ret3
                exact ⟨by rw [HR0.out, HRR.out]; rfl, HBE.out⟩
              · cases LB
                · have HN : Hid (insP fs f (f.cd.drop (m + 1)) (m + 1) = insP fs f f.cd 0) := by
                    have h := HPS.out
                    rw [if_neg (by unfold badV; rw [← HQ.out, ← HLB.out]; simp)] at h
                    exact h
                  go_wp2_with fail
                  go_roundw
                  case rel => exact ⟨m + 1, by go_num, by omega, HB15.out, HN.out⟩
                  case measure => simp [intOf]; omega
                · have HRR : Hid (funP fs fs 0 = (k, m, 16)) := HSTM.out m (by
                    have h := HPS.out
                    rw [if_pos (by unfold badV; rw [← HQ.out, ← HLB.out]; simp)] at h
                    exact h.symm)
                  go_wp2
                  go_ret3
                  exact ⟨by rw [HR0.out, HRR.out]; rfl, HBE.out⟩
          · obtain rfl : m = f.cd.length := by omega
            have HNX : Hid (funP fs (fs.drop (k + 1)) (k + 1) = funP fs fs 0) := by
              have h := HPm.out
              rw [List.drop_length] at h
              have h2 := HST3.out
              rw [← h] at h2
              exact h2
            have HB1N : Hid (Below w1.heap.size w1 W3) := HBk.out.trans (HB03.out.mono HBk.out.size)
            go_wp2_with fail
            go_roundw
            case rel => exact ⟨k + 1, by go_num, by omega, HB1N.out, HNX.out⟩
            case measure => simp [intOf]; omega
    · obtain rfl : k = fs.length := by omega
      have HRR : Hid (funP fs fs 0 = (0, 0, 0)) := by rw [← HPk.out, List.drop_length]; exact rfl
      have HBE : Hid (Below w.heap.size w W0) := HB1.out.trans (HBk.out.mono HB1.out.size)
      go_wp2
      go_ret3
      exact ⟨by rw [HR0.out, HRR.out]; rfl, HBE.out⟩
end Go.Proofs.YtpboencfnjmmbaaGreatDoor

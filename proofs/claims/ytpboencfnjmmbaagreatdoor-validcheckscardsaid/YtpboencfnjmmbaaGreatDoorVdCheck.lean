/-
  Package valid: Check.
  Conditions: as each theorem says.
-/
import Derived.Test.YtpboencfnjmmbaaGreatDoorVdFits
import Derived.OwnWalk
namespace Go.Proofs.YtpboencfnjmmbaaGreatDoor
open Go.RowKit
set_option linter.unusedVariables false
set_option linter.unusedSimpArgs false
def endsV (op : Nat) : Bool := op == 15 || op == 16 || op == 18 || op == 19
def badV (fs : List VF) (f : VF) (x : VI) (last : Bool) : Bool := !fitsF fs f x || (last && !endsV x.op)
def insP (fs : List VF) (f : VF) : List VI → Nat → Option Nat
  | [], _ => none
  | x :: t, i => if badV fs f x t.isEmpty = true then some i else insP fs f t (i + 1)
def funP (fs : List VF) : List VF → Nat → Nat × Nat × Nat
  | [], _ => (0, 0, 0)
  | f :: t, n => if sizedF f = false then (n, 0, 2) else if n = 0 ∧ 0 < f.p + f.h.length then (0, 0, 16) else
    match insP fs f f.cd 0 with
    | some i => (n, i, 16)
    | none => funP fs t (n + 1)
def checkP (fs : List VF) : Nat × Nat × Nat := if fs.length < 1 ∨ 100 < fs.length then (0, 0, 2) else funP fs fs 0
def tup (r : Nat × Nat × Nat) : Ending := .returned (.tuple #[.int .i64 (r.1 : Int), .int .i64 (r.2.1 : Int), .int .i64 (r.2.2 : Int)])
theorem drop_cons {α : Type} {l : List α} {k : Nat} {x : α} (h : l[k]? = some x) : l.drop k = x :: l.drop (k + 1) := by
  obtain ⟨hk, rfl⟩ := List.getElem?_eq_some_iff.1 h
  rw [List.drop_eq_getElem_cons hk]
theorem insP_step {fs : List VF} {f : VF} {i : Nat} {x : VI} {R : Option Nat} (h : insP fs f (f.cd.drop i) i = R) (hx : f.cd[i]? = some x) : (if badV fs f x (decide (i + 1 = f.cd.length)) = true then some i else insP fs f (f.cd.drop (i + 1)) (i + 1)) = R := by
  rw [drop_cons hx] at h
  have e : (f.cd.drop (i + 1)).isEmpty = decide (i + 1 = f.cd.length) := by
    have hk : i < f.cd.length := (List.getElem?_eq_some_iff.1 hx).1
    rw [Bool.eq_iff_iff, decide_eq_true_iff, List.isEmpty_iff]
    rw [List.drop_eq_nil_iff]
    omega
  rw [← e]
  exact h
theorem sized_facts {f : VF} (h : sizedF f = true) : 0 ≤ f.p ∧ 0 ≤ f.r ∧ f.r ≤ 100 ∧ f.p ≤ f.r - f.h.length ∧ 1 ≤ f.cd.length ∧ f.cd.length ≤ 2000 := by
  simp [sizedF] at h
  omega
set_option maxRecDepth 100000 in
theorem endsV_any (op : Nat) (hop : op < 256) (w : World) : Calls Tryz.prog 42 #[.int .u8 (op : Int)] w fun e w' => e = .returned (.bool (endsV op)) ∧ w' = w := by
  by_cases h0 : op = 15
  · subst h0; go_enter Tryz.func42, Tryz.ntmps42; go_wp2; go_ret; exact ⟨rfl, rfl⟩
  have e0 : ((op : Int) == 15) = false := by simp; omega
  by_cases h1 : op = 16
  · subst h1; go_enter Tryz.func42, Tryz.ntmps42; go_wp2; go_ret; exact ⟨rfl, rfl⟩
  have e1 : ((op : Int) == 16) = false := by simp; omega
  by_cases h2 : op = 18
  · subst h2; go_enter Tryz.func42, Tryz.ntmps42; go_wp2; go_ret; exact ⟨rfl, rfl⟩
  have e2 : ((op : Int) == 18) = false := by simp; omega
  by_cases h3 : op = 19
  · subst h3; go_enter Tryz.func42, Tryz.ntmps42; go_wp2; go_ret; exact ⟨rfl, rfl⟩
  have e3 : ((op : Int) == 19) = false := by simp; omega
  have hE : Hid (endsV op = false) := Lib.hid (by simp [endsV, h0, h1, h2, h3])
  go_enter Tryz.func42, Tryz.ntmps42
  go_wp2
  go_ret
  exact ⟨ret_bool hE.out.symm, rfl⟩
set_option maxRecDepth 100000 in
set_option maxHeartbeats 4000000 in
theorem check_any {fs : List VF} {v : Value} {w : World} (h : FSl w v fs) (hok : ∀ f ∈ fs, f.ok) :
    Calls Tryz.prog 14 #[.agg #[v]] w fun e w' => e = tup (checkP fs) ∧ Below w.heap.size w w' := by
  have HF : Hid (FSl w v fs) := h
  have HOK : Hid (∀ f ∈ fs, f.ok) := hok
  obtain ⟨ad, cap, rfl, hc1, hx1, hg1⟩ := h
  unfold maxLen at hx1
  have HG := Lib.hid hg1
  clear hg1 hok
  by_cases hl1 : fs.length < 1
  · have HR : Hid (checkP fs = (0, 0, 2)) := by refine Lib.hid ?_; simp only [checkP, if_pos (Or.inl hl1 : fs.length < 1 ∨ 100 < fs.length)]
    have hl : (fs.length : Int) < 1 := by omega
    go_enter Tryz.func14, Tryz.ntmps14
    go_wp2
    go_ret3
    exact ⟨by rw [HR.out]; rfl, bl0 _ _⟩
  by_cases hl2 : 100 < fs.length
  · have HR : Hid (checkP fs = (0, 0, 2)) := by refine Lib.hid ?_; simp only [checkP, if_pos (Or.inr hl2 : fs.length < 1 ∨ 100 < fs.length)]
    have hl : (100 : Int) < (fs.length : Int) := by omega
    have hl0 : ¬ ((fs.length : Int) < 1) := by omega
    go_enter Tryz.func14, Tryz.ntmps14
    go_wp2
    go_ret3
    exact ⟨by rw [HR.out]; rfl, bl0 _ _⟩
  have HR0 : Hid (checkP fs = funP fs fs 0) := by refine Lib.hid ?_; simp only [checkP, if_neg (show ¬ (fs.length < 1 ∨ 100 < fs.length) from by omega)]
  have hla : ¬ ((fs.length : Int) < 1) := by omega
  have hlb : ¬ ((100 : Int) < (fs.length : Int)) := by omega
  go_enter Tryz.func14, Tryz.ntmps14
  go_wp2_with fail
  refine (spans_any (HF.out.up (bl0 _ _)) (by omega) HOK.out).mono ?_
  rintro e w1 ⟨sb, cs, rfl, hsb, hsc, hb1⟩
  have HB1 : Hid (Below w.heap.size w w1) := (bl0 w _).trans (hb1.mono (by simp))
  have hbm : w1.heap[w.heap.size]? = some (.cells #[.slice ad fs.length cap] 31 (0, 0)) := (hb1.block _ (by simp)).trans (heap_alloc_new _ _)
  have HSB : Hid (w1.heap[sb]? = some (.cells cs 120 (0, 0)) ∧ SpC fs fs.length 0 cs) := ⟨hsb, hsc⟩
  have hm0 : w1.cell? ⟨w.heap.size, 0, none⟩ = some (.slice ad fs.length cap) := by simp [World.cell?, hbm]
  have HF1 : Hid (FSl w1 (.slice ad fs.length cap) fs) := HF.out.up HB1.out
  have hsl := lt_of_block hsb
  clear hb1 hsb hsc hbm
  go_wp2_with fail
  go_loopw [27] (fun i wr => ∃ k : Nat, i = .int .i64 (k : Int) ∧ k ≤ fs.length ∧ Hid (Below w1.heap.size w1 wr) ∧ Hid (funP fs (fs.drop k) k = funP fs fs 0))
    (fun i _ => fs.length - (intOf i).toNat)
  case atStart => exact ⟨0, rfl, Nat.zero_le _, Below.refl _ _, rfl⟩
  case round =>
    obtain ⟨k, rfl, hk, HBk, HPk⟩ := hrel
    obtain ⟨W0, hW0⟩ : ∃ W0, W0 = wr := ⟨_, rfl⟩
    subst hW0
    by_cases hlt : k < fs.length
    · obtain ⟨f, hf⟩ : ∃ f, fs[k]? = some f := ⟨_, List.getElem?_eq_getElem hlt⟩
      have HFK : Hid (f.ok) := HOK.out f (List.mem_of_getElem? hf)
      have HST : Hid ((if sizedF f = false then (k, 0, 2) else if k = 0 ∧ 0 < f.p + f.h.length then (0, 0, 16) else match insP fs f f.cd 0 with | some i => (k, i, 16) | none => funP fs (fs.drop (k + 1)) (k + 1)) = funP fs fs 0) := by
        have h := HPk.out
        rw [drop_cons hf] at h
        exact h
      obtain ⟨ad9, cap9, hv9, _, _, hg9⟩ := HF1.out.up HBk.out
      injection hv9 with hv1 hv2 hv3
      subst hv1
      obtain ⟨g, o, rfl, gl, A⟩ := hg9 (by omega)
      obtain ⟨hv, cv, iv, V0, c0, c1, c2, c3, c4⟩ := A k f hf
      have HV0 := Lib.hid V0
      obtain ⟨adh, caph, rfl, _, _, _⟩ := V0.h
      obtain ⟨adc, capc, rfl⟩ := V0.c
      obtain ⟨adi, capi, rfl, hci, hxi, _⟩ := V0.i
      have hidx : 0 ≤ (k : Int) ∧ (k : Int) < (fs.length : Int) := ⟨by omega, by omega⟩
      clear A hf V0 hv2 hv3 hg9
      go_wp2_with fail
      obtain ⟨W1, hW1⟩ : ∃ W1, W1 = W0.alloc (.cells #[.int .i64 f.p, .slice adh f.h.length caph, .int .i64 f.r, .slice adc f.nc capc, .slice adi f.cd.length capi] 47) := ⟨_, rfl⟩
      have HBW1 : Hid (Below W0.heap.size W0 W1) := by rw [hW1]; exact bl0 _ _
      have hbf : W1.heap[W0.heap.size]? = some (.cells #[.int .i64 f.p, .slice adh f.h.length caph, .int .i64 f.r, .slice adc f.nc capc, .slice adi f.cd.length capi] 47 (0, 0)) := by rw [hW1]; exact heap_alloc_new _ _
      have hz1 : W0.heap.size < W1.heap.size := by rw [hW1]; simp
      rw [← hW1]
      have HBF := Lib.hid hbf
      clear hW1 c0 c1 c2 c3 c4 hbf
      refine (sized_any (HV0.out.up HBW1.out) HFK.out).mono ?_
      rintro e w2 ⟨rfl, hb2⟩
      have HB2 := Lib.hid hb2
      clear hb2
      by_cases hsz : sizedF f = false
      · have HRR : Hid (funP fs fs 0 = (k, 0, 2)) := by rw [← HST.out, if_pos hsz]; exact rfl
        rw [hsz]
        have HBE : Hid (Below w.heap.size w w2) := HB1.out.trans ((HBk.out.trans ((HBW1.out.trans (HB2.out.mono HBW1.out.size)).mono HBk.out.size)).mono HB1.out.size)
        clear hsz
        go_wp2
        go_ret3
        exact ⟨by rw [HR0.out, HRR.out]; rfl, HBE.out⟩
      have hsz2 : sizedF f = true := by simpa using hsz
      obtain ⟨p0, p1, p2, p3, p4, p5⟩ := sized_facts hsz2
      have hbx := (HB2.out.block _ hz1).trans HBF.out
      have d0 : w2.cell? ⟨W0.heap.size, 0, none⟩ = some (.int .i64 f.p) := by simp [World.cell?, hbx]
      have d1 : w2.cell? ⟨W0.heap.size, 1, none⟩ = some (.slice adh f.h.length caph) := by simp [World.cell?, hbx]
      have d2 : w2.cell? ⟨W0.heap.size, 2, none⟩ = some (.int .i64 f.r) := by simp [World.cell?, hbx]
      have d3 : w2.cell? ⟨W0.heap.size, 3, none⟩ = some (.slice adc f.nc capc) := by simp [World.cell?, hbx]
      have d4 : w2.cell? ⟨W0.heap.size, 4, none⟩ = some (.slice adi f.cd.length capi) := by simp [World.cell?, hbx]
      have HBX := Lib.hid hbx
      rw [hsz2]
      have HB02 : Hid (Below W0.heap.size W0 w2) := HBW1.out.trans (HB2.out.mono HBW1.out.size)
      have HST2 : Hid ((if k = 0 ∧ 0 < f.p + f.h.length then (0, 0, 16) else match insP fs f f.cd 0 with | some i => (k, i, 16) | none => funP fs (fs.drop (k + 1)) (k + 1)) = funP fs fs 0) := by
        have h := HST.out
        rwa [if_neg hsz] at h
      clear hsz hsz2 hbx
      by_cases hk0 : k = 0 ∧ 0 < f.p + f.h.length
      · obtain ⟨rfl, hph⟩ := hk0
        have HRR : Hid (funP fs fs 0 = (0, 0, 16)) := by rw [← HST2.out, if_pos ⟨rfl, hph⟩]; exact rfl
        have HBE : Hid (Below w.heap.size w w2) := HB1.out.trans ((HBk.out.trans (HB02.out.mono HBk.out.size)).mono HB1.out.size)
        go_wp2
        go_ret3
        exact ⟨by rw [HR0.out, HRR.out]; rfl, HBE.out⟩
      have HST3 : Hid ((match insP fs f f.cd 0 with | some i => (k, i, 16) | none => funP fs (fs.drop (k + 1)) (k + 1)) = funP fs fs 0) := by
        have h := HST2.out
        rwa [if_neg hk0] at h
      by_cases hkz : k = 0
      · subst hkz
        have hph : ¬ (0 < f.p + (f.h.length : Int)) := fun h => hk0 ⟨rfl, h⟩
        clear hk0
        have d4b : ∀ o, (w2.alloc o).cell? ⟨W0.heap.size, 4, none⟩ = some (.slice adi f.cd.length capi) := fun o => (vcell (Below.heap_alloc _ _ _ (Nat.lt_of_lt_of_le hz1 HB2.out.size))).trans d4
        go_wp2_with fail
        obtain ⟨W2, hW2⟩ : ∃ W2, W2 = w2.alloc (.cells #[.int .i64 f.p, .slice adh f.h.length caph, .int .i64 f.r, .slice adc f.nc capc, .slice adi f.cd.length capi, .slice (some ⟨sb, 0, none⟩) fs.length fs.length] 91) := ⟨_, rfl⟩
        have HBW2 : Hid (Below w2.heap.size w2 W2) := by rw [hW2]; exact bl0 _ _
        have HLK : Hid (W2.heap[w2.heap.size]? = some (.cells #[.int .i64 f.p, .slice adh f.h.length caph, .int .i64 f.r, .slice adc f.nc capc, .slice adi f.cd.length capi, .slice (some ⟨sb, 0, none⟩) fs.length fs.length] 91 (0, 0))) := by rw [hW2]; exact heap_alloc_new _ _
        have hz2 : w2.heap.size < W2.heap.size := by rw [hW2]; simp
        have hz3 : W0.heap.size < w2.heap.size := Nat.lt_of_lt_of_le hz1 HB2.out.size
        have HB0W2 : Hid (Below W0.heap.size W0 W2) := HB02.out.trans (HBW2.out.mono HB02.out.size)
        first | rw [← hW2] | skip
        clear hW2 d0 d1 d2 d3 d4 d4b
        go_loopw [53] (fun i wr => ∃ m : Nat, i = .int .i64 (m : Int) ∧ m ≤ f.cd.length ∧ Hid (Below W2.heap.size W2 wr) ∧ Hid (insP fs f (f.cd.drop m) m = insP fs f f.cd 0))
          (fun i _ => f.cd.length - (intOf i).toNat)
        case atStart => exact ⟨0, rfl, Nat.zero_le _, Below.refl _ _, rfl⟩
        case round =>
          obtain ⟨m, rfl, hm, HBm, HPm⟩ := hrel
          obtain ⟨W3, hW3⟩ : ∃ W3, W3 = wr := ⟨_, rfl⟩
          subst hW3
          have HB03 : Hid (Below W0.heap.size W0 W3) := HB0W2.out.trans (HBm.out.mono HB0W2.out.size)
          by_cases hlt2 : m < f.cd.length
          · obtain ⟨x, hx⟩ : ∃ x, f.cd[m]? = some x := ⟨_, List.getElem?_eq_getElem hlt2⟩
            have HXO : Hid x.ok := HFK.out.cd x (List.mem_of_getElem? hx)
            have HPS := Lib.hid (insP_step HPm.out hx)
            obtain ⟨ad8, cap8, hv8, _, _, hg8⟩ := (HV0.out.up HB03.out).i
            injection hv8 with hv1 hv2 hv3
            subst hv1
            obtain ⟨gi, oi, rfl, gil, Ai⟩ := hg8 (by omega)
            obtain ⟨c0, c1, c2, c3⟩ := Ai m x hx
            have hidx2 : 0 ≤ (m : Int) ∧ (m : Int) < (f.cd.length : Int) := ⟨by omega, by omega⟩
            clear Ai hx hv2 hv3 hg8
            have hbl : ∀ o, (W3.alloc o).heap[w2.heap.size]? = _ := fun o => ((HBm.out.trans ((bl0 W3 o).mono HBm.out.size)).block _ hz2).trans HLK.out
            have l0 : ∀ o, (W3.alloc o).cell? ⟨w2.heap.size, 0, none⟩ = some (.int .i64 f.p) := fun o => by simp only [World.cell?, hbl o]; rfl
            have l1 : ∀ o, (W3.alloc o).cell? ⟨w2.heap.size, 1, none⟩ = some (.slice adh f.h.length caph) := fun o => by simp only [World.cell?, hbl o]; rfl
            have l2 : ∀ o, (W3.alloc o).cell? ⟨w2.heap.size, 2, none⟩ = some (.int .i64 f.r) := fun o => by simp only [World.cell?, hbl o]; rfl
            have l3 : ∀ o, (W3.alloc o).cell? ⟨w2.heap.size, 3, none⟩ = some (.slice adc f.nc capc) := fun o => by simp only [World.cell?, hbl o]; rfl
            have l4 : ∀ o, (W3.alloc o).cell? ⟨w2.heap.size, 4, none⟩ = some (.slice (some ⟨gi, oi, none⟩) f.cd.length capi) := fun o => by simp only [World.cell?, hbl o]; rfl
            have l5 : ∀ o, (W3.alloc o).cell? ⟨w2.heap.size, 5, none⟩ = some (.slice (some ⟨sb, 0, none⟩) fs.length fs.length) := fun o => by simp only [World.cell?, hbl o]; rfl
            clear hbl
            go_wp2_with fail
            obtain ⟨W4, hW4⟩ : ∃ W4, W4 = W3.alloc (.cells #[.int .u8 (x.op : Int), .int .i64 x.a, .int .i64 x.b, .int .i64 x.c] 51) := ⟨_, rfl⟩
            have HB4 : Hid (Below W3.heap.size W3 W4) := by rw [hW4]; exact bl0 _ _
            have hbi : W4.heap[W3.heap.size]? = some (.cells #[.int .u8 (x.op : Int), .int .i64 x.a, .int .i64 x.b, .int .i64 x.c] 51 (0, 0)) := by rw [hW4]; exact heap_alloc_new _ _
            have HBI := Lib.hid hbi
            have hz4 : W3.heap.size < W4.heap.size := by rw [hW4]; simp
            have HB24 : Hid (Below W2.heap.size W2 W4) := HBm.out.trans (HB4.out.mono HBm.out.size)
            first | rw [← hW4] | skip
            have HB04 : Hid (Below W0.heap.size W0 W4) := HB03.out.trans (HB4.out.mono HB03.out.size)
            have HB14 : Hid (Below w1.heap.size w1 W4) := HBk.out.trans (HB04.out.mono HBk.out.size)
            have HLV : Hid (Lk W4 fs f (.slice adh f.h.length caph) (.slice adc f.nc capc) (.slice (some ⟨gi, oi, none⟩) f.cd.length capi) (.slice (some ⟨sb, 0, none⟩) fs.length fs.length)) :=
              ⟨HV0.out.up HB04.out, sb, cs, rfl, (HB14.out.block _ hsl).trans HSB.out.1, HSB.out.2⟩
            clear hW4 hbi c0 c1 c2 c3 l0 l1 l2 l3 l4 l5
            refine (fits_any (x := x) HLV.out (by omega)).mono ?_
            rintro e w5 ⟨rfl, hb5⟩
            have HB45 := Lib.hid hb5
            have hbi := (hb5.block _ hz4).trans HBI.out
            have j0 : w5.cell? ⟨W3.heap.size, 0, none⟩ = some (.int .u8 (x.op : Int)) := by simp [World.cell?, hbi]
            have HB05 : Hid (Below W0.heap.size W0 w5) := HB04.out.trans (HB45.out.mono HB04.out.size)
            have hbf := ((HB2.out.trans (HBW2.out.mono HB2.out.size)).trans ((HB24.out.trans (HB45.out.mono HB24.out.size)).mono (HB2.out.trans (HBW2.out.mono HB2.out.size)).size)).block _ hz1
            have hbf2 := hbf.trans HBF.out
            have j4 : w5.cell? ⟨W0.heap.size, 4, none⟩ = some (.slice (some ⟨gi, oi, none⟩) f.cd.length capi) := by simp [World.cell?, hbf2]
            have HBE : Hid (Below w.heap.size w w5) := HB1.out.trans ((HBk.out.trans (HB05.out.mono HBk.out.size)).mono HB1.out.size)
            have HB25 : Hid (Below W2.heap.size W2 w5) := HB24.out.trans (HB45.out.mono HB24.out.size)
            have HSTM : Hid (∀ i, insP fs f f.cd 0 = some i → funP fs fs 0 = (0, i, 16)) := fun i hi => by rw [← HST3.out, hi]
            clear hb5 hbi hbf hbf2
            obtain ⟨q, hq⟩ : ∃ q, q = fitsF fs f x := ⟨_, rfl⟩
            rw [← hq]
            have HQ := Lib.hid hq
            clear hq
            cases q
            · have HRR : Hid (funP fs fs 0 = (0, m, 16)) := HSTM.out m (by
                have h := HPS.out
                rw [if_pos (by simp [badV, ← HQ.out])] at h
                exact h.symm)
              go_wp2
              go_ret3
              exact ⟨by rw [HR0.out, HRR.out]; rfl, HBE.out⟩
            · by_cases hlast : m + 1 = f.cd.length
              · have hme : ((m : Int) == (f.cd.length : Int) - 1) = true := by simp; omega
                go_wp2_with fail
                refine (endsV_any x.op HXO.out.1 _).mono ?_
                rintro e w6 ⟨rfl, rfl⟩
                obtain ⟨q2, hq2⟩ : ∃ q2, q2 = endsV x.op := ⟨_, rfl⟩
                rw [← hq2]
                have HQ2 := Lib.hid hq2
                clear hq2
                cases q2
                · have HRR : Hid (funP fs fs 0 = (0, m, 16)) := HSTM.out m (by
                    have h := HPS.out
                    rw [if_pos (by simp [badV, ← HQ.out, ← HQ2.out, hlast])] at h
                    exact h.symm)
                  clear hlast hme
                  go_wp2
                  go_ret3
                  exact ⟨by rw [HR0.out, HRR.out]; rfl, HBE.out⟩
                · have HN : Hid (insP fs f (f.cd.drop (m + 1)) (m + 1) = insP fs f f.cd 0) := by
                    have h := HPS.out
                    rw [if_neg (by simp [badV, ← HQ.out, ← HQ2.out])] at h
                    exact h
                  clear hlast hme
                  go_wp2_with fail
                  go_roundw
                  case rel => exact ⟨m + 1, by go_num, by omega, HB25.out, HN.out⟩
                  case measure => simp [intOf]; omega
              · have hme : ((m : Int) == (f.cd.length : Int) - 1) = false := by simp; omega
                have HN : Hid (insP fs f (f.cd.drop (m + 1)) (m + 1) = insP fs f f.cd 0) := by
                  have h := HPS.out
                  rw [if_neg (by simp [badV, ← HQ.out, hlast])] at h
                  exact h
                go_wp2_with fail
                go_roundw
                case rel => exact ⟨m + 1, by go_num, by omega, HB25.out, HN.out⟩
                case measure => simp [intOf]; omega
          · obtain rfl : m = f.cd.length := by omega
            have HNX : Hid (funP fs (fs.drop (0 + 1)) (0 + 1) = funP fs fs 0) := by
              have h := HPm.out
              rw [List.drop_length] at h
              have h2 := HST3.out
              rw [← h] at h2
              exact h2
            have HB1N : Hid (Below w1.heap.size w1 W3) := HBk.out.trans (HB03.out.mono HBk.out.size)
            go_wp2_with fail
            go_roundw
            case rel => exact ⟨0 + 1, by go_num, by omega, HB1N.out, HNX.out⟩
            case measure => simp [intOf]; omega
      · have hkz2 : ((k : Int) == 0) = false := by simp; omega
        clear hk0 hkz
        have d4b : ∀ o, (w2.alloc o).cell? ⟨W0.heap.size, 4, none⟩ = some (.slice adi f.cd.length capi) := fun o => (vcell (Below.heap_alloc _ _ _ (Nat.lt_of_lt_of_le hz1 HB2.out.size))).trans d4
        go_wp2_with fail
        obtain ⟨W2, hW2⟩ : ∃ W2, W2 = w2.alloc (.cells #[.int .i64 f.p, .slice adh f.h.length caph, .int .i64 f.r, .slice adc f.nc capc, .slice adi f.cd.length capi, .slice (some ⟨sb, 0, none⟩) fs.length fs.length] 91) := ⟨_, rfl⟩
        have HBW2 : Hid (Below w2.heap.size w2 W2) := by rw [hW2]; exact bl0 _ _
        have HLK : Hid (W2.heap[w2.heap.size]? = some (.cells #[.int .i64 f.p, .slice adh f.h.length caph, .int .i64 f.r, .slice adc f.nc capc, .slice adi f.cd.length capi, .slice (some ⟨sb, 0, none⟩) fs.length fs.length] 91 (0, 0))) := by rw [hW2]; exact heap_alloc_new _ _
        have hz2 : w2.heap.size < W2.heap.size := by rw [hW2]; simp
        have hz3 : W0.heap.size < w2.heap.size := Nat.lt_of_lt_of_le hz1 HB2.out.size
        have HB0W2 : Hid (Below W0.heap.size W0 W2) := HB02.out.trans (HBW2.out.mono HB02.out.size)
        first | rw [← hW2] | skip
        clear hW2 d0 d1 d2 d3 d4 d4b
        go_loopw [53] (fun i wr => ∃ m : Nat, i = .int .i64 (m : Int) ∧ m ≤ f.cd.length ∧ Hid (Below W2.heap.size W2 wr) ∧ Hid (insP fs f (f.cd.drop m) m = insP fs f f.cd 0))
          (fun i _ => f.cd.length - (intOf i).toNat)
        case atStart => exact ⟨0, rfl, Nat.zero_le _, Below.refl _ _, rfl⟩
        case round =>
          obtain ⟨m, rfl, hm, HBm, HPm⟩ := hrel
          obtain ⟨W3, hW3⟩ : ∃ W3, W3 = wr := ⟨_, rfl⟩
          subst hW3
          have HB03 : Hid (Below W0.heap.size W0 W3) := HB0W2.out.trans (HBm.out.mono HB0W2.out.size)
          by_cases hlt2 : m < f.cd.length
          · obtain ⟨x, hx⟩ : ∃ x, f.cd[m]? = some x := ⟨_, List.getElem?_eq_getElem hlt2⟩
            have HXO : Hid x.ok := HFK.out.cd x (List.mem_of_getElem? hx)
            have HPS := Lib.hid (insP_step HPm.out hx)
            obtain ⟨ad8, cap8, hv8, _, _, hg8⟩ := (HV0.out.up HB03.out).i
            injection hv8 with hv1 hv2 hv3
            subst hv1
            obtain ⟨gi, oi, rfl, gil, Ai⟩ := hg8 (by omega)
            obtain ⟨c0, c1, c2, c3⟩ := Ai m x hx
            have hidx2 : 0 ≤ (m : Int) ∧ (m : Int) < (f.cd.length : Int) := ⟨by omega, by omega⟩
            clear Ai hx hv2 hv3 hg8
            have hbl : ∀ o, (W3.alloc o).heap[w2.heap.size]? = _ := fun o => ((HBm.out.trans ((bl0 W3 o).mono HBm.out.size)).block _ hz2).trans HLK.out
            have l0 : ∀ o, (W3.alloc o).cell? ⟨w2.heap.size, 0, none⟩ = some (.int .i64 f.p) := fun o => by simp only [World.cell?, hbl o]; rfl
            have l1 : ∀ o, (W3.alloc o).cell? ⟨w2.heap.size, 1, none⟩ = some (.slice adh f.h.length caph) := fun o => by simp only [World.cell?, hbl o]; rfl
            have l2 : ∀ o, (W3.alloc o).cell? ⟨w2.heap.size, 2, none⟩ = some (.int .i64 f.r) := fun o => by simp only [World.cell?, hbl o]; rfl
            have l3 : ∀ o, (W3.alloc o).cell? ⟨w2.heap.size, 3, none⟩ = some (.slice adc f.nc capc) := fun o => by simp only [World.cell?, hbl o]; rfl
            have l4 : ∀ o, (W3.alloc o).cell? ⟨w2.heap.size, 4, none⟩ = some (.slice (some ⟨gi, oi, none⟩) f.cd.length capi) := fun o => by simp only [World.cell?, hbl o]; rfl
            have l5 : ∀ o, (W3.alloc o).cell? ⟨w2.heap.size, 5, none⟩ = some (.slice (some ⟨sb, 0, none⟩) fs.length fs.length) := fun o => by simp only [World.cell?, hbl o]; rfl
            clear hbl
            go_wp2_with fail
            obtain ⟨W4, hW4⟩ : ∃ W4, W4 = W3.alloc (.cells #[.int .u8 (x.op : Int), .int .i64 x.a, .int .i64 x.b, .int .i64 x.c] 51) := ⟨_, rfl⟩
            have HB4 : Hid (Below W3.heap.size W3 W4) := by rw [hW4]; exact bl0 _ _
            have hbi : W4.heap[W3.heap.size]? = some (.cells #[.int .u8 (x.op : Int), .int .i64 x.a, .int .i64 x.b, .int .i64 x.c] 51 (0, 0)) := by rw [hW4]; exact heap_alloc_new _ _
            have HBI := Lib.hid hbi
            have hz4 : W3.heap.size < W4.heap.size := by rw [hW4]; simp
            have HB24 : Hid (Below W2.heap.size W2 W4) := HBm.out.trans (HB4.out.mono HBm.out.size)
            first | rw [← hW4] | skip
            have HB04 : Hid (Below W0.heap.size W0 W4) := HB03.out.trans (HB4.out.mono HB03.out.size)
            have HB14 : Hid (Below w1.heap.size w1 W4) := HBk.out.trans (HB04.out.mono HBk.out.size)
            have HLV : Hid (Lk W4 fs f (.slice adh f.h.length caph) (.slice adc f.nc capc) (.slice (some ⟨gi, oi, none⟩) f.cd.length capi) (.slice (some ⟨sb, 0, none⟩) fs.length fs.length)) :=
              ⟨HV0.out.up HB04.out, sb, cs, rfl, (HB14.out.block _ hsl).trans HSB.out.1, HSB.out.2⟩
            clear hW4 hbi c0 c1 c2 c3 l0 l1 l2 l3 l4 l5
            refine (fits_any (x := x) HLV.out (by omega)).mono ?_
            rintro e w5 ⟨rfl, hb5⟩
            have HB45 := Lib.hid hb5
            have hbi := (hb5.block _ hz4).trans HBI.out
            have j0 : w5.cell? ⟨W3.heap.size, 0, none⟩ = some (.int .u8 (x.op : Int)) := by simp [World.cell?, hbi]
            have HB05 : Hid (Below W0.heap.size W0 w5) := HB04.out.trans (HB45.out.mono HB04.out.size)
            have hbf := ((HB2.out.trans (HBW2.out.mono HB2.out.size)).trans ((HB24.out.trans (HB45.out.mono HB24.out.size)).mono (HB2.out.trans (HBW2.out.mono HB2.out.size)).size)).block _ hz1
            have hbf2 := hbf.trans HBF.out
            have j4 : w5.cell? ⟨W0.heap.size, 4, none⟩ = some (.slice (some ⟨gi, oi, none⟩) f.cd.length capi) := by simp [World.cell?, hbf2]
            have HBE : Hid (Below w.heap.size w w5) := HB1.out.trans ((HBk.out.trans (HB05.out.mono HBk.out.size)).mono HB1.out.size)
            have HB25 : Hid (Below W2.heap.size W2 w5) := HB24.out.trans (HB45.out.mono HB24.out.size)
            have HSTM : Hid (∀ i, insP fs f f.cd 0 = some i → funP fs fs 0 = (k, i, 16)) := fun i hi => by rw [← HST3.out, hi]
            clear hb5 hbi hbf hbf2
            obtain ⟨q, hq⟩ : ∃ q, q = fitsF fs f x := ⟨_, rfl⟩
            rw [← hq]
            have HQ := Lib.hid hq
            clear hq
            cases q
            · have HRR : Hid (funP fs fs 0 = (k, m, 16)) := HSTM.out m (by
                have h := HPS.out
                rw [if_pos (by simp [badV, ← HQ.out])] at h
                exact h.symm)
              go_wp2
              go_ret3
              exact ⟨by rw [HR0.out, HRR.out]; rfl, HBE.out⟩
            · by_cases hlast : m + 1 = f.cd.length
              · have hme : ((m : Int) == (f.cd.length : Int) - 1) = true := by simp; omega
                go_wp2_with fail
                refine (endsV_any x.op HXO.out.1 _).mono ?_
                rintro e w6 ⟨rfl, rfl⟩
                obtain ⟨q2, hq2⟩ : ∃ q2, q2 = endsV x.op := ⟨_, rfl⟩
                rw [← hq2]
                have HQ2 := Lib.hid hq2
                clear hq2
                cases q2
                · have HRR : Hid (funP fs fs 0 = (k, m, 16)) := HSTM.out m (by
                    have h := HPS.out
                    rw [if_pos (by simp [badV, ← HQ.out, ← HQ2.out, hlast])] at h
                    exact h.symm)
                  clear hlast hme
                  go_wp2
                  go_ret3
                  exact ⟨by rw [HR0.out, HRR.out]; rfl, HBE.out⟩
                · have HN : Hid (insP fs f (f.cd.drop (m + 1)) (m + 1) = insP fs f f.cd 0) := by
                    have h := HPS.out
                    rw [if_neg (by simp [badV, ← HQ.out, ← HQ2.out])] at h
                    exact h
                  clear hlast hme
                  go_wp2_with fail
                  go_roundw
                  case rel => exact ⟨m + 1, by go_num, by omega, HB25.out, HN.out⟩
                  case measure => simp [intOf]; omega
              · have hme : ((m : Int) == (f.cd.length : Int) - 1) = false := by simp; omega
                have HN : Hid (insP fs f (f.cd.drop (m + 1)) (m + 1) = insP fs f f.cd 0) := by
                  have h := HPS.out
                  rw [if_neg (by simp [badV, ← HQ.out, hlast])] at h
                  exact h
                go_wp2_with fail
                go_roundw
                case rel => exact ⟨m + 1, by go_num, by omega, HB25.out, HN.out⟩
                case measure => simp [intOf]; omega
          · obtain rfl : m = f.cd.length := by omega
            have HNX : Hid (funP fs (fs.drop (k + 1)) (k + 1) = funP fs fs 0) := by
              have h := HPm.out
              rw [List.drop_length] at h
              have h2 := HST3.out
              rw [← h] at h2
              exact h2
            have HB1N : Hid (Below w1.heap.size w1 W3) := HBk.out.trans (HB03.out.mono HBk.out.size)
            go_wp2_with fail
            go_roundw
            case rel => exact ⟨k + 1, by go_num, by omega, HB1N.out, HNX.out⟩
            case measure => simp [intOf]; omega
    · obtain rfl : k = fs.length := by omega
      have HRR : Hid (funP fs fs 0 = (0, 0, 0)) := by rw [← HPk.out, List.drop_length]; exact rfl
      have HBE : Hid (Below w.heap.size w W0) := HB1.out.trans (HBk.out.mono HB1.out.size)
      go_wp2
      go_ret3
      exact ⟨by rw [HR0.out, HRR.out]; rfl, HBE.out⟩
end Go.Proofs.YtpboencfnjmmbaaGreatDoor

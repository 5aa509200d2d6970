/-
 The laws' Fn of layer 8: a function by small numbers.
 Conditions: as each theorem says.
-/
import Derived.Test.YtpboencfnjmmbaaGreatDoorZJSo
set_option maxRecDepth 100000
set_option maxHeartbeats 4000000
set_option linter.unusedVariables false
set_option linter.unusedSimpArgs false
namespace Go.Proofs.YtpboencfnjmmbaaGreatDoor
open Go.RowKit TM
def U8s (w : World) (v : Value) (l : List Nat) : Prop := ∃ ad cap, v = .slice ad l.length cap ∧ l.length ≤ cap ∧ cap ≤ maxLen ∧ (0 < l.length → ∃ g o, ad = some ⟨g, o, none⟩ ∧ g < w.heap.size ∧ ∀ (k n : Nat), l[k]? = some n → w.cell? ⟨g, o + k, none⟩ = some (.int .u8 (n : Int)))
theorem U8s.up {w w' : World} {v : Value} {l : List Nat} (h : U8s w v l) (hb : Below w.heap.size w w') : U8s w' v l := by
 obtain ⟨ad, cap, h1, h2, h3, h4⟩ := h
 refine ⟨ad, cap, h1, h2, h3, fun hn => ?_⟩
 obtain ⟨g, o, e1, e2, e3⟩ := h4 hn
 exact ⟨g, o, e1, Nat.lt_of_lt_of_le e2 hb.size, fun k n hk => (World.cell?_of_block (w := w) (hb.block g e2)).trans (e3 k n hk)⟩
theorem strAt_from {w : World} {g : Nat} {cur : Array Value} {fz : Nat × Nat} (hg : w.heap[g]? = some (.cells cur 9 fz)) : ∀ (l : List ByteArray) (o : Nat), (∀ (k : Nat) (s : ByteArray), l[k]? = some s → cur[o + k]? = some (.string s)) → StrAt w g o l
 | [], _, _ => trivial
 | s :: l, o, h => ⟨by simp only [World.cell?, hg]; exact h 0 s rfl, strAt_from hg l (o + 1) fun k t hk => by rw [show o + 1 + k = o + (k + 1) from by omega]; exact h (k + 1) t (by simpa using hk)⟩
theorem strAt_row {w : World} {g n : Nat} {cur : Array Value} {fz : Nat × Nat} {l : List ByteArray} (hg : w.heap[g]? = some (.cells cur 9 fz)) (h : cur.toList.take n = strCs l) : StrAt w g 0 l :=
 strAt_from hg l 0 fun k s hk => by
  have e : (strCs l)[k]? = some (.string s) := by rw [strCs, List.getElem?_map, hk]; rfl
  rw [← h, List.getElem?_take] at e
  split at e
  ·rw [Nat.zero_add]; rwa [Array.getElem?_toList] at e
  ·cases e
theorem row_zero {w : World} {base n size : Nat} {e : TypeId} {v : Value} {xs : List Value} (h : w.ownsRow base e size v n xs) : w.ownsRow 0 e size v n xs := ⟨h.1, h.2.imp id fun ⟨g, cap, cur, a, _, c⟩ => ⟨g, cap, cur, a, Nat.zero_le _, c⟩⟩
def fnP (l : List Nat) : List ByteArray := (l.take 3).map nm
def fnBox (vb : Value) (v : Value) : Array Value := #[.int .i64 17, .int .i64 0, .string ⟨#[]⟩, .slice none 0 0, v, vb]
theorem fn8_row {xs : List XX} {ps : List Nat} (hxl : xs.length ≤ 60) (hok : ∀ x ∈ xs, x.ok) (hpo : ∀ n ∈ ps, n ≤ 255) : ∃ T : List TS, (∀ e ∈ T, wfS e ∧ dpS e ≤ 5 ∧ (txS e).length ≤ 1000000) ∧ T.length ≤ xs.length ∧
 ∀ (w : World) (vp v : Value), U8s w vp ps → XSl w v xs → Calls Tryz.prog 28 #[vp, v] w fun en w' => ∃ a b c, en = .returned (exV (.mk 17 0 ⟨#[]⟩ [] (fnP ps) T) a b c) ∧ EIn (· < w'.heap.size) w' (.mk 17 0 ⟨#[]⟩ [] (fnP ps) T) a b c ∧ Below w.heap.size w w' ∧ w'.ownsRow 0 9 1 b (fnP ps).length (strCs (fnP ps)) := by
 obtain ⟨T, hT, hTl, hMk⟩ := make_any (xs := xs) (by omega) hok
 refine ⟨T, hT, hTl, fun w vp v hp hv => ?_⟩
 have HMK := Lib.hid hMk
 have HP := Lib.hid hp
 have HV := Lib.hid hv
 have HPO := Lib.hid hpo
 obtain ⟨adp, capp, rfl, hpc, hpm, _⟩ := hp
 unfold maxLen at hpm
 clear hMk hT hv hpo
 go_enter Tryz.func28, Tryz.ntmps28
 go_wp2_with fail
 refine (HMK.out _ _ (HV.out.up ((Below.refl _ _).alloc (Nat.le_refl _) _))).mono ?_
 rintro e w2 ⟨u, rfl, hsl, b2, _⟩
 have HSL : Hid (SlAt (Fresh (w.heap.size + 1) w2.heap.size) u T.length fun g o => SsAt (Fresh (w.heap.size + 1) w2.heap.size) w2 g o T) := by
  rw [show (w.alloc (.cells #[.int .i64 0, .int .i64 0, .string ⟨#[]⟩, .slice none 0 0, .slice none 0 0, .slice none 0 0] 65)).heap.size = w.heap.size + 1 from by simp] at hsl
  exact hsl
 have HB2 : Hid (Below w.heap.size w w2) := ((Below.refl _ _).alloc (Nat.le_refl _) _).trans (b2.mono (by simp))
 have HRB : Hid (w2.heap[w.heap.size]? = some (.cells #[.int .i64 0, .int .i64 0, .string ⟨#[]⟩, .slice none 0 0, .slice none 0 0, .slice none 0 0] 65 (0, 0))) := Lib.hid ((b2.block _ (by simp)).trans (heap_alloc_new _ _))
 obtain ⟨au, cu, rfl, _, _, _⟩ := HSL.out
 obtain ⟨u, hu⟩ : ∃ u, u = Value.slice au T.length cu := ⟨_, rfl⟩
 have HU := Lib.hid hu
 clear hsl b2
 go_wp2_with fail
 obtain ⟨W1, hW1⟩ : ∃ W1, W1 = w2.alloc (.cells (fnBox (.slice au T.length cu) (.slice none 0 0)) 65) := ⟨_, rfl⟩
 have hz1 : W1.heap.size = w2.heap.size + 1 := by rw [hW1]; simp
 have HB1 : Hid (Below w2.heap.size w2 W1) := by refine Lib.hid ?_; rw [hW1]; exact (Below.refl _ _).alloc (Nat.le_refl _) _
 have HBX1 : Hid (W1.heap[w2.heap.size]? = some (.cells (fnBox (.slice au T.length cu) (.slice none 0 0)) 65 (0, 0))) := by refine Lib.hid ?_; rw [hW1]; exact heap_alloc_new _ _
 unfold fnBox at hW1
 first | rw [← hW1] | skip
 rw [← hu] at HSL HBX1
 clear hW1 hu
 go_loopw [13] (fun x wr => ∃ (i : Nat) (vq : Value), x = .int .i64 (i : Int) ∧ i ≤ ps.length ∧ Hid (wr.ownsRow W1.heap.size 9 1 vq (fnP (ps.take i)).length (strCs (fnP (ps.take i)))) ∧ Hid (wr.heap[w2.heap.size]? = some (.cells (fnBox u vq) 65 (0, 0))) ∧ Hid (Below w2.heap.size w2 wr))
  (fun x _ => ps.length - (intOf x).toNat)
 case atStart => exact ⟨0, _, rfl, Nat.zero_le _, World.ownsRow_nil _ _ _ _, HBX1.out, HB1.out⟩
 case round =>
  obtain ⟨i, vq, rfl, hi, HROW, HBX, HBW⟩ := hrel
  obtain ⟨W2, hW2⟩ : ∃ W2, W2 = wr := ⟨_, rfl⟩
  subst hW2
  have hgel : w2.heap.size < W2.heap.size := lt_of_block HBX.out
  by_cases hlt : i < ps.length
  ·obtain ⟨n, hn⟩ : ∃ n, ps[i]? = some n := ⟨_, List.getElem?_eq_getElem hlt⟩
   have hn255 := HPO.out n (List.mem_of_getElem? hn)
   obtain ⟨ad9, cap9, hv9, _, _, hg9⟩ := HP.out.up (HB2.out.trans (HBW.out.mono HB2.out.size))
   injection hv9 with hv1 hv2 hv3
   subst hv1
   obtain ⟨g, o, rfl, gl, A⟩ := hg9 (by omega)
   have hq := A i n hn
   have hidx : 0 ≤ (i : Int) ∧ (i : Int) < (ps.length : Int) := ⟨by omega, by omega⟩
   by_cases h3 : (i : Int) < 3
   ·have HNX : Hid (fnP (ps.take (i + 1)) = fnP (ps.take i) ++ [nm n]) := by
     refine Lib.hid ?_
     unfold fnP
     rw [List.take_take, List.take_take, Nat.min_eq_right (by omega), Nat.min_eq_right (by omega), List.take_add_one, hn]
     simp
    have hl0' : (fnP (ps.take i)).length ≤ 1000000 := by unfold fnP; simp; omega
    have hgbs : w2.heap.size < W1.heap.size := by omega
    have hbsw : W1.heap.size ≤ W2.heap.size := by omega
    have HVP : Hid (∀ k, vq.ownBlock = some k → W1.heap.size ≤ k) := fun k hk => (HROW.out.lt k hk).1
    have HVN : Hid (vq.ownBlock ≠ some w2.heap.size) := fun e => by have := HVP.out _ e; omega
    obtain ⟨L0, hL0⟩ : ∃ L0, L0 = fnP (ps.take i) := ⟨_, rfl⟩
    rw [← hL0] at HNX HROW hl0'
    have hl0 := hl0'
    obtain ⟨ao, capr, rfl, _⟩ := row_shape HROW.out
    clear A hn hv2 hv3 hg9 hL0 hl0'
    go_wp2_with fail
    refine region_sh (fun | 0 => some (.pointer (some ⟨w2.heap.size, 4, none⟩)) | 1 => some (.slice ao L0.length capr) | 2 => some (.int .u8 (n : Int)) | 6 => some (.pointer (some ⟨w2.heap.size, 4, none⟩)) | _ => none) (JS W2 W1.heap.size w2.heap.size 65 (fnBox u) (.slice ao L0.length capr) L0 (nm n) 3 4 5 7 23 24 25) (by kernel_rfl) (by kernel_rfl) (by kernel_rfl) (JS.start _) ?_ ?_
    ·intro hon q hq LL a1 W hC hl hBh hS hJ K hK
     have hqn : q < 8 := hq
     clear hq
     rcases (show q = 0 ∨ q = 1 ∨ q = 2 ∨ q = 3 ∨ q = 4 ∨ q = 5 ∨ q = 6 ∨ q = 7 from by omega) with rfl | rfl | rfl | rfl | rfl | rfl | rfl | rfl
     ·have e5 := (eval_tmp a1 5).symm.trans ((hS.kept 5 (by kernel_rfl)).trans rfl)
      refine wpOp_step rfl (fun K' hK' => ?_)
      go_simp
      exact hK' _ _ (hK _ _ (hS.put hon (i := 0) rfl rfl (fun u hu => by cases hu; rfl)) (hJ.pure (by decide) (by decide)))
     ·have e20 := (eval_tmp a1 20).symm.trans (hS.get hBh (i := 1) rfl 0 (by simp) rfl rfl rfl)
      have hls : LL 7 = false := closed_not hC (closed_not hC hl (i := 5) (j := 1) rfl (g := .data) (by simp) rfl) (i := 7) (j := 5) rfl (g := .data) (by simp) rfl
      have hbxW := (hJ.old hls hgel HVN.out).trans HBX.out
      have hcl2 : W.cell? ⟨w2.heap.size, 4, none⟩ = some (.slice ao L0.length capr) := by simp [World.cell?, hbxW, fnBox]
      refine wpOp_step rfl (fun K' hK' => ?_)
      go_simp
      exact hK' _ _ (hK _ _ (hS.put hon (i := 1) rfl rfl (fun u hu => by cases hu; rfl)) (hJ.pure (by decide) (by decide)))
     ·have e7 := (eval_tmp a1 7).symm.trans ((hS.kept 7 (by kernel_rfl)).trans rfl)
      refine wpOp_step rfl (fun K' hK' => ?_)
      go_simp
      exact hK' _ _ (hK _ _ (hS.put hon (i := 2) rfl rfl (fun u hu => by cases hu; rfl)) (hJ.pure (by decide) (by decide)))
     ·have e22 := (eval_tmp a1 22).symm.trans (hS.get hBh (i := 3) rfl 2 (by simp) rfl rfl rfl)
      have n4 : LL 4 = false := closed_not hC hl (i := 4) (j := 3) rfl (g := .data) (by simp) rfl
      have n5 : LL 5 = false := closed_not hC n4 (i := 5) (j := 4) rfl (g := .data) (by simp) rfl
      have n7 : LL 7 = false := closed_not hC n5 (i := 7) (j := 5) rfl (g := .data) (by simp) rfl
      obtain rfl := hJ.n0 hl
      refine wpOp_call (f := 33) (args := #[.int .u8 (n : Int)]) (R := fun u W3 => u = .string (nm n) ∧ Below W2.heap.size W2 W3) rfl rfl (by simp [execOp, resolve, invoke, e22, go_sem]) ((name_any n hn255 _).mono fun en W3 ⟨h1, h2⟩ => ⟨_, h1, rfl, ⟨h2.os, h2.tape, h2.output, h2.size, h2.block⟩⟩) ?_
      rintro u W3 ⟨rfl, hB3⟩
      exact hK _ _ (hS.put hon (i := 3) rfl rfl (fun u hu => by cases hu)) (hJ.call n4 n5 n7 (by decide) (by rw [hS.size]; exact Nat.le_of_ble_eq_true rfl) hB3)
     ·have d3 : LL 3 = true := hBh _ rfl ⟨3, .data⟩ (by simp) rfl
      have n5 : LL 5 = false := closed_not hC hl (i := 5) (j := 4) rfl (g := .data) (by simp) rfl
      have n7 : LL 7 = false := closed_not hC n5 (i := 7) (j := 5) rfl (g := .data) (by simp) rfl
      have e23 := (eval_tmp a1 23).symm.trans (hJ.n1 d3 hl).1
      refine wpOp_step rfl (fun K' hK' => ?_)
      go_simp
      exact hK' _ _ (hK _ _ (hS.put hon (i := 4) rfl rfl (fun u hu => by cases hu)) (hJ.lay d3 hl n5 n7 (by decide) (by rw [hS.size]; exact Nat.le_of_ble_eq_true rfl)))
     ·have d4 : LL 4 = true := hBh _ rfl ⟨4, .data⟩ (by simp) rfl
      have d3 : LL 3 = true := hBh _ rfl ⟨3, .chain⟩ (by simp) rfl
      have n7 : LL 7 = false := closed_not hC hl (i := 7) (j := 5) rfl (g := .data) (by simp) rfl
      have e21 := (hS.get hBh (i := 5) rfl 1 (by simp) rfl rfl rfl)
      obtain ⟨g9, hge2, hgb, hB2⟩ := hJ.n2 d4 hl
      obtain ⟨v9, W9, hrun, hTc⟩ := str_app hB2 hgb HROW.out hbsw hl0 63
      refine wpOp_run rfl rfl (v := v9) (w' := W9) ?_ (hK _ _ (hS.put hon (i := 5) rfl rfl (fun u hu => by cases hu)) (JS.app d3 d4 n7 (by decide) (by rw [hS.size]; exact Nat.le_of_ble_eq_true rfl) hTc))
      simp [execOp, resolve, invoke, builtin, e21, hge2, hrun, Result.andThen]
     ·have e5 := (eval_tmp a1 5).symm.trans ((hS.kept 5 (by kernel_rfl)).trans rfl)
      refine wpOp_step rfl (fun K' hK' => ?_)
      go_simp
      exact hK' _ _ (hK _ _ (hS.put hon (i := 6) rfl rfl (fun u hu => by cases hu; rfl)) (hJ.pure (by decide) (by decide)))
     ·have d5 : LL 5 = true := hBh _ rfl ⟨5, .data⟩ (by simp) rfl
      have d4 : LL 4 = true := hBh _ rfl ⟨4, .phase⟩ (by simp) rfl
      have d3 : LL 3 = true := hBh _ rfl ⟨3, .phase⟩ (by simp) rfl
      have e26 := (eval_tmp a1 26).symm.trans (hS.get hBh (i := 7) rfl 6 (by simp) rfl rfl rfl)
      have hTc := hJ.n3 d5 hl
      obtain ⟨v9, hv9⟩ : ∃ u, a1.eval (.tmp 25) = u := ⟨_, rfl⟩
      rw [hv9] at hTc
      have e25 := (eval_tmp a1 25).symm.trans hv9
      have hbxW := (hJ.old hl hgel HVN.out).trans HBX.out
      obtain ⟨ao2, cap2, rfl, _⟩ := row_shape hTc.row
      have hln2 : (L0 ++ [nm n]).length = L0.length + 1 := by simp
      rw [hln2] at hTc e25
      have hfz : W.frozen? ⟨w2.heap.size, 4, none⟩ = false := by simp [World.frozen?, hbxW]
      have hcc : W.cell? ⟨w2.heap.size, 4, none⟩ = some (.slice ao L0.length capr) := by simp [World.cell?, hbxW, fnBox]
      refine wpOp_step rfl (fun K' hK' => ?_)
      go_simp
      exact hK' _ _ (hK _ _ (hS.none (i := 7) rfl rfl) (JS.put d3 d4 d5 (by decide) (hTc.store HVP.out HBX.out hgbs rfl)))
    ·intro LL a1 wz hl hS hJ
     have hfr := hS.frame [20, 21, 22, 23, 24, 25, 26] rfl
     obtain ⟨v9, hTd⟩ := hJ.n4 (hl 7 (by decide))
     first | refine (‹∀ (a : Act) (w : World), Code.wp Tryz.prog _ _ a w → _› a1 wz ?_) | skip
     obtain ⟨zz, hz⟩ : ∃ z : Nat → Value, z = fun k => a1.eval (.tmp k) := ⟨_, rfl⟩
     rw [← hz] at hfr
     rw [hfr]
     have HR2 : Hid (wz.ownsRow W1.heap.size 9 1 v9 (fnP (ps.take (i + 1))).length (strCs (fnP (ps.take (i + 1))))) := by rw [HNX.out]; exact hTd.row
     have HB2 : Hid (wz.heap[w2.heap.size]? = some (.cells (fnBox u v9) 65 (0, 0))) := hTd.box
     have HW2 : Hid (Below w2.heap.size w2 wz) := ⟨hTd.os.trans HBW.out.os, hTd.tape.trans HBW.out.tape, hTd.output.trans HBW.out.output, Nat.le_trans HBW.out.size hTd.size, fun k hk => (hTd.keep k (Nat.lt_of_lt_of_le hk HBW.out.size) (Nat.ne_of_lt hk) (fun e => by have := HVP.out k e; omega)).trans (HBW.out.block k hk)⟩
     clear hfr hz hS hJ hl hTd
     simp only [over, List.setIfInBounds_toArray, List.set_cons_zero, List.set_cons_succ]
     go_wp2_with fail
     go_roundw
     case rel => exact ⟨i + 1, v9, by go_num, by omega, HR2, HB2, HW2⟩
     case measure => simp [intOf]; omega
   ·have HNX : Hid (fnP (ps.take (i + 1)) = fnP (ps.take i)) := by
     refine Lib.hid ?_
     unfold fnP
     rw [List.take_take, List.take_take, Nat.min_eq_left (by omega), Nat.min_eq_left (by omega)]
    have HR2 : Hid (W2.ownsRow W1.heap.size 9 1 vq (fnP (ps.take (i + 1))).length (strCs (fnP (ps.take (i + 1))))) := by rw [HNX.out]; exact HROW
    clear A hn hv2 hv3 hg9
    go_wp2_with fail
    go_roundw
    case rel => exact ⟨i + 1, vq, by go_num, by omega, HR2, HBX, HBW⟩
    case measure => simp [intOf]; omega
  ·obtain rfl : i = ps.length := by omega
   rw [List.take_length] at HROW
   obtain ⟨ao, capr, rfl, hac, ham⟩ := row_shape HROW.out
   have hue := HU.out
   subst hue
   have hrb := (HBW.out.block _ (lt_of_block HRB.out)).trans HRB.out
   have hbx := HBX.out
   unfold fnBox at hbx
   have hne : w.heap.size ≠ w2.heap.size := by have := lt_of_block HRB.out; omega
   have x0 : W2.cell? ⟨w2.heap.size, 0, none⟩ = some (.int .i64 17) := by simp [World.cell?, hbx]
   have x1 : W2.cell? ⟨w2.heap.size, 1, none⟩ = some (.int .i64 0) := by simp [World.cell?, hbx]
   have x2 : W2.cell? ⟨w2.heap.size, 2, none⟩ = some (.string ⟨#[]⟩) := by simp [World.cell?, hbx]
   have x3 : W2.cell? ⟨w2.heap.size, 3, none⟩ = some (.slice none 0 0) := by simp [World.cell?, hbx]
   have x4 : W2.cell? ⟨w2.heap.size, 4, none⟩ = some (.slice ao (fnP ps).length capr) := by simp [World.cell?, hbx]
   have x5 : W2.cell? ⟨w2.heap.size, 5, none⟩ = some (.slice au T.length cu) := by simp [World.cell?, hbx]
   have r0 : W2.cell? ⟨w.heap.size, 0, none⟩ = some (.int .i64 0) := by simp [World.cell?, hrb]
   have r1 : W2.cell? ⟨w.heap.size, 1, none⟩ = some (.int .i64 0) := by simp [World.cell?, hrb]
   have r2 : W2.cell? ⟨w.heap.size, 2, none⟩ = some (.string ⟨#[]⟩) := by simp [World.cell?, hrb]
   have r3 : W2.cell? ⟨w.heap.size, 3, none⟩ = some (.slice none 0 0) := by simp [World.cell?, hrb]
   have r4 : W2.cell? ⟨w.heap.size, 4, none⟩ = some (.slice none 0 0) := by simp [World.cell?, hrb]
   have r5 : W2.cell? ⟨w.heap.size, 5, none⟩ = some (.slice none 0 0) := by simp [World.cell?, hrb]
   have hfz : ∀ i, W2.frozen? ⟨w.heap.size, i, none⟩ = false := fun i => by simp [World.frozen?, hrb]
   obtain ⟨W9, hW9⟩ : ∃ W9, W9 = six6 W2 w.heap.size (.int .i64 17) (.int .i64 0) (.string ⟨#[]⟩) (.slice none 0 0) (.slice ao (fnP ps).length capr) (.slice au T.length cu) := ⟨_, rfl⟩
   have hoth : ∀ k, k ≠ w.heap.size → W9.heap[k]? = W2.heap[k]? := fun k hk => by rw [hW9]; exact six6_other hk
   obtain ⟨y0, y1, y2, y3, y4, y5⟩ := six6_cell (a := .int .i64 17) (b := .int .i64 0) (c := .string ⟨#[]⟩) (d := .slice none 0 0) (e := .slice ao (fnP ps).length capr) (f := .slice au T.length cu) hrb
   rw [← hW9] at y0 y1 y2 y3 y4 y5
   have hsz9 : W9.heap.size = W2.heap.size := by rw [hW9]; exact six6_size
   have HB9 : Hid (Below w.heap.size w W9) := by
    have hb := HB2.out.trans (HBW.out.mono HB2.out.size)
    exact ⟨by rw [hW9]; exact six6_os.trans hb.os, by rw [hW9]; exact six6_tape.trans hb.tape, by rw [hW9]; exact six6_output.trans hb.output, by rw [hsz9]; exact hb.size, fun k hk => (hoth k (by omega)).trans (hb.block k hk)⟩
   have HRW9 : Hid (W9.ownsRow W1.heap.size 9 1 (.slice ao (fnP ps).length capr) (fnP ps).length (strCs (fnP ps))) := by
    refine ⟨HROW.out.1, ?_⟩
    rcases HROW.out.2 with h0 | ⟨g9, cap9, cur9, e9, hb9, hg9, r9⟩
    ·exact .inl h0
    ·exact .inr ⟨g9, cap9, cur9, e9, hb9, (hoth g9 (by have := lt_of_block HRB.out; omega)).trans hg9, r9⟩
   have HEI : Hid (EIn (· < W9.heap.size) W9 (.mk 17 0 ⟨#[]⟩ [] (fnP ps) T) (.slice none 0 0) (.slice ao (fnP ps).length capr) (.slice au T.length cu)) := by
    refine ⟨⟨by omega, by omega, by omega⟩, ⟨none, 0, rfl, Nat.le_refl _, by simp [maxLen], fun h => absurd h (by simp)⟩, ?_, ?_⟩
    ·refine ⟨ao, capr, rfl, hac, ham, fun hn => ?_⟩
     rcases HRW9.out.2 with ⟨e9, _⟩ | ⟨g9, cap9, cur9, e9, hb9, hg9, h1, h2, h3, h4⟩
     ·injection e9 with _ e9 _; omega
     ·injection e9 with e9 _ _
      exact ⟨g9, 0, e9, lt_of_block hg9, strAt_row hg9 h4⟩
    ·exact HSL.out.imp (fun k hk => by have := hk.2; have := HBW.out.size; rw [hsz9]; omega) (fun g o hg hA => SsAt.kept (fun k hk => ⟨by have := hk.2; have := HBW.out.size; rw [hsz9]; omega, (hoth k (by have := hk.1; omega)).trans (HBW.out.block k hk.2)⟩) T hg hA)
   clear hbx hrb hoth hac ham
   unfold six6 at hW9
   go_wp2
   first | rw [← hW9] | skip
   refine bodyPost_ret (v := exV (.mk 17 0 ⟨#[]⟩ [] (fnP ps) T) (.slice none 0 0) (.slice ao (fnP ps).length capr) (.slice au T.length cu)) (by simp [results, Tryz.results28, y0, y1, y2, y3, y4, y5, exV, go_sem]) rfl ⟨_, _, _, rfl, HEI.out, HB9.out, row_zero HRW9.out⟩
end Go.Proofs.YtpboencfnjmmbaaGreatDoor

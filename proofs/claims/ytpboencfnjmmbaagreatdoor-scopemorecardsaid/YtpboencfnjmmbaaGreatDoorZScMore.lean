/-
 The law ScopeMore.
 Conditions: the listed variables as they are laid.
-/
import Derived.Test.YtpboencfnjmmbaaGreatDoorZSq
import Derived.Test.YtpboencfnjmmbaaGreatDoorZSo
set_option maxRecDepth 100000
set_option maxHeartbeats 8000000
set_option linter.unusedVariables false
set_option linter.unusedSimpArgs false
namespace Go.Proofs.YtpboencfnjmmbaaGreatDoor
open Go.RowKit TM
structure JM (w0 : World) (fb : Nat) (bx : Value → Array Value) (L : List ByteArray) (s : ByteArray) (l : Nat → Bool) (a : Act) (W : World) : Prop where
 b : l 8 = false → Below w0.heap.size w0 W
 c : l 2 = true → l 6 = false → W.ownsRow w0.heap.size 9 1 (a.eval (.tmp 21)) L.length (strCs L)
 u : l 5 = true → l 6 = false → ∃ g, a.eval (.tmp 24) = .slice (some ⟨g, 0, none⟩) 1 1 ∧ W.heap[g]? = some (.cells #[.string s] 9 (0, 0))
 r : l 6 = true → l 8 = false → W.ownsRow w0.heap.size 9 1 (a.eval (.tmp 25)) (L ++ [s]).length (strCs (L ++ [s]))
 e : l 8 = true → ∃ v, W.ownsRow w0.heap.size 9 1 v (L ++ [s]).length (strCs (L ++ [s])) ∧ W.heap[fb]? = some (.cells (bx v) 65 (0, 0)) ∧ Below fb w0 W
section
variable {w0 W : World} {fb : Nat} {bx : Value → Array Value} {L : List ByteArray} {s : ByteArray} {l : Nat → Bool} {a : Act}
theorem JM.start : JM w0 fb bx L s (fun _ => false) a w0.drew := ⟨fun _ => (Below.refl _ _).drew, fun h => by simp at h, fun h => by simp at h, fun h => by simp at h, fun h => by simp at h⟩
theorem JM.pure (h : JM w0 fb bx L s l a W) {j d : Nat} {u : Value} (hj : 2 ≠ j ∧ 5 ≠ j ∧ 6 ≠ j ∧ 8 ≠ j) (hd : 21 ≠ d ∧ 24 ≠ d ∧ 25 ≠ d) : JM w0 fb bx L s (more l j) (a.put (some d) u) W := by
 refine ⟨?_, ?_, ?_, ?_, ?_⟩
 all_goals simp only [more_ne _ hj.1, more_ne _ hj.2.1, more_ne _ hj.2.2.1, more_ne _ hj.2.2.2, eval_other hd.1, eval_other hd.2.1, eval_other hd.2.2]
 ·exact h.b
 ·exact h.c
 ·exact h.u
 ·exact h.r
 ·exact h.e
theorem JM.call (h : JM w0 fb bx L s l a W) (h6 : l 6 = false) (h8 : l 8 = false) {d : Nat} {u : Value} (hd : 21 ≠ d ∧ 24 ≠ d ∧ 25 ≠ d) {W' : World} (hb : Below W.heap.size W W') : JM w0 fb bx L s (more l 4) (a.put (some d) u) W' := by
 have hB := h.b h8
 refine ⟨fun _ => hB.trans (hb.mono hB.size), fun h2 _ => ?_, fun h5 _ => ?_, fun e => ?_, fun e => ?_⟩
 ·rw [more_ne _ (by decide)] at h2
  rw [eval_other hd.1]
  exact row_keep (h.c h2 h6) fun k hk => hb.block k ((h.c h2 h6).lt k hk).2
 ·rw [more_ne _ (by decide)] at h5
  rw [eval_other hd.2.1]
  obtain ⟨g, e1, e2⟩ := h.u h5 h6
  exact ⟨g, e1, (hb.block g (lt_of_block e2)).trans e2⟩
 ·rw [more_ne _ (by decide), h6] at e; cases e
 ·rw [more_ne _ (by decide), h8] at e; cases e
theorem JM.clone (h : JM w0 fb bx L s l a W) (h6 : l 6 = false) (h8 : l 8 = false) (hs : 21 < a.tmps.size) {u : Value} {W' : World} (hu : W'.ownsRow W.heap.size 9 1 u L.length (strCs L)) (hb : Below W.heap.size W W') : JM w0 fb bx L s (more l 2) (a.put (some 21) u) W' := by
 have hB := h.b h8
 refine ⟨fun _ => hB.trans (hb.mono hB.size), fun _ _ => ?_, fun h5 _ => ?_, fun e => ?_, fun e => ?_⟩
 ·rw [eval_put a 21 21 u hs, if_pos rfl]
  exact ⟨hu.1, hu.2.imp id fun ⟨g, cap, cur, e1, e2, e3⟩ => ⟨g, cap, cur, e1, Nat.le_trans hB.size e2, e3⟩⟩
 ·rw [more_ne _ (by decide)] at h5
  rw [eval_other (by decide)]
  obtain ⟨g, e1, e2⟩ := h.u h5 h6
  exact ⟨g, e1, (hb.block g (lt_of_block e2)).trans e2⟩
 ·rw [more_ne _ (by decide), h6] at e; cases e
 ·rw [more_ne _ (by decide), h8] at e; cases e
theorem JM.lay (h : JM w0 fb bx L s l a W) (h6 : l 6 = false) (h8 : l 8 = false) (hs : 24 < a.tmps.size) : JM w0 fb bx L s (more l 5) (a.put (some 24) (.slice (some ⟨W.heap.size, 0, none⟩) 1 1)) (W.alloc (.cells #[.string s] 9)) := by
 have hB := h.b h8
 refine ⟨fun _ => hB.alloc hB.size _, fun h2 _ => ?_, fun _ _ => ?_, fun e => ?_, fun e => ?_⟩
 ·rw [more_ne _ (by decide)] at h2
  rw [eval_other (by decide)]
  exact (h.c h2 h6).alloc _
 ·rw [eval_put a 24 24 _ hs, if_pos rfl]
  exact ⟨_, rfl, heap_alloc_new _ _⟩
 ·rw [more_ne _ (by decide), h6] at e; cases e
 ·rw [more_ne _ (by decide), h8] at e; cases e
theorem JM.app (h : JM w0 fb bx L s l a W) (h8 : l 8 = false) (hs : 25 < a.tmps.size) {vp v : Value} {W' : World} (hvp : ∀ k, vp.ownBlock = some k → w0.heap.size ≤ k) (hT : Tc W W' w0.heap.size vp v (L ++ [s])) : JM w0 fb bx L s (more l 6) (a.put (some 25) v) W' := by
 have hB := h.b h8
 refine ⟨fun _ => hB.trans ⟨hT.os, hT.tape, hT.output, hT.size, fun k hk => hT.keep k (Nat.lt_of_lt_of_le hk hB.size) (fun e => by have := hvp k e; omega)⟩, fun _ e => ?_, fun _ e => ?_, fun _ _ => ?_, fun e => ?_⟩
 ·rw [more_self] at e; cases e
 ·rw [more_self] at e; cases e
 ·rw [eval_put a 25 25 _ hs, if_pos rfl]
  exact hT.row
 ·rw [more_ne _ (by decide), h8] at e; cases e
theorem JM.put (h : JM w0 fb bx L s l a W) (h6 : l 6 = true) (h8 : l 8 = false) {v : Value} (hv : a.eval (.tmp 25) = v) {vo : Value} (hx : w0.heap[fb]? = some (.cells (bx vo) 65 (0, 0))) (hbx : (bx vo).setIfInBounds 4 v = bx v) : JM w0 fb bx L s (more l 8) a (W.setCell ⟨fb, 4, none⟩ v) := by
 have hB := h.b h8
 have hlt := lt_of_block hx
 refine ⟨fun e => ?_, fun _ e => ?_, fun _ e => ?_, fun _ e => ?_, fun _ => ⟨v, ?_, ?_, ?_⟩⟩
 ·rw [more_self] at e; cases e
 ·rw [more_ne _ (by decide), h6] at e; cases e
 ·rw [more_ne _ (by decide), h6] at e; cases e
 ·rw [more_self] at e; cases e
 ·have hr := h.r h6 h8
  rw [hv] at hr
  exact row_keep hr fun k hk => Below.heap_setCell _ _ _ _ (by have := (hr.lt k hk).1; show k ≠ fb; omega)
 ·rw [block_set_same ((hB.block fb hlt).trans hx), hbx]
 ·exact (hB.mono (Nat.le_of_lt hlt)).setCell (Nat.le_refl _) _
end
theorem scopeMore_any {xs : List XX} {ps : List Nat} {n : Nat} (hok : ∀ x ∈ xs, x.ok) (hpo : ∀ n ∈ ps, n ≤ 255) (hn : n ≤ 255) {w : World} {vp v : Value} (hp : U8s w vp ps) (hv : XSl w v xs) (hE : Go.Ex.Held gs0 w) :
 Calls Tryz.prog 10 #[vp, v, .int .u8 (n : Int)] w fun e w' => e = .returned (.bool true) ∧ Below w.heap.size w w' := by
 have HE := Lib.hid hE
 have HP := Lib.hid hp
 have HV := Lib.hid hv
 obtain ⟨ap, cp, rfl, _, hcp, _⟩ := hp
 obtain ⟨ad, cap, rfl, hc1, hc2, _⟩ := hv
 unfold maxLen at hc2 hcp
 clear hE
 go_enter Tryz.func10, Tryz.ntmps10
 go_wp2_with fail
 obtain ⟨w0, hw0⟩ : ∃ w0, w0 = w.alloc (.cells #[.int .u8 (n : Int)] 5) := ⟨_, rfl⟩
 have HGN0 : Hid (w0.heap[w.heap.size]? = some (.cells #[.int .u8 (n : Int)] 5 (0, 0))) := by refine Lib.hid ?_; rw [hw0]; exact heap_alloc_new _ _
 have HB0 : Hid (Below w.heap.size w w0) := by refine Lib.hid ?_; rw [hw0]; exact (Below.refl _ _).alloc (Nat.le_refl _) _
 have hs00 : w.heap.size < w0.heap.size := by rw [hw0]; simp
 first | rw [← hw0] | skip
 clear hw0
 refine (awakeX8 w0 (HE.out.below HB0.out)).mono ?_
 rintro e wa ⟨rfl, ba⟩
 have HBa : Hid (Below w.heap.size w wa) := HB0.out.trans (ba.mono HB0.out.size)
 have HGNa : Hid (wa.heap[w.heap.size]? = _) := Lib.hid ((ba.block _ hs00).trans HGN0.out)
 have HPa := Lib.hid (HP.out.up HBa.out)
 have HVa := Lib.hid (HV.out.up HBa.out)
 clear ba HE HV HP HGN0 HB0 hs00
 by_cases h60 : 60 < xs.length
 ·have h60i : 60 < (xs.length : Int) := by omega
  go_wp2
  go_ret
  exact ⟨rfl, HBa.out⟩
 have h60i : ¬ 60 < (xs.length : Int) := by omega
 obtain ⟨T, hT, hTl, hFn⟩ := fn8_row (xs := xs) (ps := ps) (by omega) hok hpo
 have HT := Lib.hid hT
 have HF := Lib.hid hFn
 clear hT hFn hok hpo
 go_wp2_with fail
 refine (HF.out wa _ _ HPa.out HVa.out).mono ?_
 rintro e w1 ⟨a, b, c, rfl, hin1, b1, hrw⟩
 have HB1 : Hid (Below w.heap.size w w1) := HBa.out.trans (b1.mono HBa.out.size)
 have HI1 := Lib.hid hin1
 have HRW := Lib.hid hrw
 have hsa : w.heap.size < wa.heap.size := lt_of_block HGNa.out
 have HGN1 : Hid (w1.heap[w.heap.size]? = _) := Lib.hid ((b1.block _ hsa).trans HGNa.out)
 have hs1 : w.heap.size < w1.heap.size := lt_of_block HGN1.out
 obtain ⟨_, ⟨pa1, pc1, rfl, _⟩, ⟨na1, nc1, rfl, _⟩, ⟨ba1, bc1, rfl, _⟩⟩ := hin1
 simp only [exV]
 clear b1 HBa HPa HVa HF hrw HGNa hsa
 go_upto_region 6 with fail
 obtain ⟨W1, hW1⟩ : ∃ W1, W1 = w1.alloc (.cells #[.int .i64 17, .int .i64 0, .string ⟨#[]⟩, .slice pa1 0 pc1, .slice na1 (fnP ps).length nc1, .slice ba1 T.length bc1] 65) := ⟨_, rfl⟩
 have HG1 : Hid (W1.heap[w1.heap.size]? = some (.cells #[.int .i64 17, .int .i64 0, .string ⟨#[]⟩, .slice pa1 0 pc1, .slice na1 (fnP ps).length nc1, .slice ba1 T.length bc1] 65 (0, 0))) := by refine Lib.hid ?_; rw [hW1]; exact heap_alloc_new _ _
 have hs11 : w1.heap.size < W1.heap.size := by rw [hW1]; simp
 have HB11 : Hid (Below w1.heap.size w1 W1) := by refine Lib.hid ?_; rw [hW1]; exact (Below.refl _ _).alloc (Nat.le_refl _) _
 first | rw [← hW1] | skip
 clear hW1
 have q0 : W1.cell? ⟨w1.heap.size, 0, none⟩ = some (.int .i64 17) := by simp only [World.cell?, HG1.out]; rfl
 have q1 : W1.cell? ⟨w1.heap.size, 1, none⟩ = some (.int .i64 0) := by simp only [World.cell?, HG1.out]; rfl
 have q2 : W1.cell? ⟨w1.heap.size, 2, none⟩ = some (.string ⟨#[]⟩) := by simp only [World.cell?, HG1.out]; rfl
 have q3 : W1.cell? ⟨w1.heap.size, 3, none⟩ = some (.slice pa1 0 pc1) := by simp only [World.cell?, HG1.out]; rfl
 have q4 : W1.cell? ⟨w1.heap.size, 4, none⟩ = some (.slice na1 (fnP ps).length nc1) := by simp only [World.cell?, HG1.out]; rfl
 have q5 : W1.cell? ⟨w1.heap.size, 5, none⟩ = some (.slice ba1 T.length bc1) := by simp only [World.cell?, HG1.out]; rfl
 go_upto_region 7 with fail
 obtain ⟨W2, hW2⟩ : ∃ W2, W2 = W1.alloc (.cells #[.int .i64 17, .int .i64 0, .string ⟨#[]⟩, .slice pa1 0 pc1, .slice na1 (fnP ps).length nc1, .slice ba1 T.length bc1] 65) := ⟨_, rfl⟩
 have HGF : Hid (W2.heap[W1.heap.size]? = some (.cells #[.int .i64 17, .int .i64 0, .string ⟨#[]⟩, .slice pa1 0 pc1, .slice na1 (fnP ps).length nc1, .slice ba1 T.length bc1] 65 (0, 0))) := by refine Lib.hid ?_; rw [hW2]; exact heap_alloc_new _ _
 have hs3 : W1.heap.size < W2.heap.size := by rw [hW2]; simp
 have HB22 : Hid (Below W1.heap.size W1 W2) := by refine Lib.hid ?_; rw [hW2]; exact (Below.refl _ _).alloc (Nat.le_refl _) _
 first | rw [← hW2] | skip
 clear hW2 q0 q1 q2 q3 q4 q5
 have HGE : Hid (W2.heap[w1.heap.size]? = _) := Lib.hid ((HB22.out.block _ hs11).trans HG1.out)
 have hs2 : w1.heap.size < W2.heap.size := by omega
 have HB12 : Hid (Below w1.heap.size w1 W2) := HB11.out.trans (HB22.out.mono (by omega))
 have HGN : Hid (W2.heap[w.heap.size]? = _) := Lib.hid ((HB12.out.block _ hs1).trans HGN1.out)
 have hs0 : w.heap.size < W2.heap.size := by omega
 have hl0 : (fnP ps).length ≤ 1000000 := by unfold fnP; simp; omega
 have HCL : Hid (∀ W, Below W2.heap.size W2 W → Calls Tryz.prog 32 #[.slice na1 (fnP ps).length nc1] W fun e w' => ∃ v', e = .returned v' ∧ w'.ownsRow W.heap.size 9 1 v' (fnP ps).length (strCs (fnP ps)) ∧ Below W.heap.size W w') := fun W hb => cloneS_any (row_keep HRW.out fun k hk => by
  have hk1 := (HRW.out.lt k hk).2
  exact (hb.block k (Nat.lt_of_lt_of_le hk1 HB12.out.size)).trans (HB12.out.block k hk1)) hl0
 refine region_sh (fun | 0 => some (.pointer (some ⟨w1.heap.size, 4, none⟩)) | 1 => some (.slice na1 (fnP ps).length nc1) | 3 => some (.int .u8 (n : Int)) | 4 => some (.string (nm n)) | 7 => some (.pointer (some ⟨W1.heap.size, 4, none⟩)) | _ => none) (JM W2 W1.heap.size (fun v => #[.int .i64 17, .int .i64 0, .string ⟨#[]⟩, .slice pa1 0 pc1, v, .slice ba1 T.length bc1]) (fnP ps) (nm n)) (by kernel_rfl) (by kernel_rfl) (by kernel_rfl) (JM.start) ?_ ?_
 ·intro hon q hq LL a1 W hC hl hBh hS hJ K hK
  have hqn : q < 9 := hq
  clear hq
  rcases (show q = 0 ∨ q = 1 ∨ q = 2 ∨ q = 3 ∨ q = 4 ∨ q = 5 ∨ q = 6 ∨ q = 7 ∨ q = 8 from by omega) with rfl | rfl | rfl | rfl | rfl | rfl | rfl | rfl | rfl
  ·have e7 := (eval_tmp a1 7).symm.trans ((hS.kept 7 (by kernel_rfl)).trans rfl)
   refine wpOp_step rfl (fun K' hK' => ?_)
   go_simp
   exact hK' _ _ (hK _ _ (hS.put hon (i := 0) rfl rfl (fun u hu => by cases hu; rfl)) (hJ.pure (by decide) (by decide)))
  ·have e19 := (eval_tmp a1 19).symm.trans (hS.get hBh (i := 1) rfl 0 (by simp) rfl rfl rfl)
   have n8 : LL 8 = false := closed_not hC hl (i := 8) (j := 1) rfl (g := .phase) (by simp) rfl
   have hcl : W.cell? ⟨w1.heap.size, 4, none⟩ = some (.slice na1 (fnP ps).length nc1) := by simp only [World.cell?, ((hJ.b n8).block _ hs2).trans HGE.out]; rfl
   refine wpOp_step rfl (fun K' hK' => ?_)
   go_simp
   exact hK' _ _ (hK _ _ (hS.put hon (i := 1) rfl rfl (fun u hu => by cases hu; rfl)) (hJ.pure (by decide) (by decide)))
  ·have e20 := (eval_tmp a1 20).symm.trans (hS.get hBh (i := 2) rfl 1 (by simp) rfl rfl rfl)
   have n6 : LL 6 = false := closed_not hC hl (i := 6) (j := 2) rfl (g := .data) (by simp) rfl
   have n8 : LL 8 = false := closed_not hC n6 (i := 8) (j := 6) rfl (g := .data) (by simp) rfl
   refine wpOp_call (f := 32) (args := #[.slice na1 (fnP ps).length nc1]) (R := fun u W3 => W3.ownsRow W.heap.size 9 1 u (fnP ps).length (strCs (fnP ps)) ∧ Below W.heap.size W W3) rfl rfl (by simp [execOp, resolve, invoke, e20, go_sem]) ((HCL.out W (hJ.b n8)).mono fun en W3 ⟨v', h1, h2, h3⟩ => ⟨_, h1, h2, h3⟩) ?_
   rintro u W3 ⟨r1, r2⟩
   exact hK _ _ (hS.put hon (i := 2) rfl rfl (fun u hu => by cases hu)) (hJ.clone n6 n8 (by rw [hS.size]; exact Nat.le_of_ble_eq_true rfl) r1 r2)
  ·have e5 := (eval_tmp a1 5).symm.trans ((hS.kept 5 (by kernel_rfl)).trans rfl)
   have n8 : LL 8 = false := closed_not hC hl (i := 8) (j := 3) rfl (g := .phase) (by simp) rfl
   have hcl : W.cell? ⟨w.heap.size, 0, none⟩ = some (.int .u8 (n : Int)) := by simp only [World.cell?, ((hJ.b n8).block _ hs0).trans HGN.out]; rfl
   refine wpOp_step rfl (fun K' hK' => ?_)
   go_simp
   exact hK' _ _ (hK _ _ (hS.put hon (i := 3) rfl rfl (fun u hu => by cases hu; rfl)) (hJ.pure (by decide) (by decide)))
  ·have e22 := (eval_tmp a1 22).symm.trans (hS.get hBh (i := 4) rfl 3 (by simp) rfl rfl rfl)
   have n5 : LL 5 = false := closed_not hC hl (i := 5) (j := 4) rfl (g := .data) (by simp) rfl
   have n6 : LL 6 = false := closed_not hC n5 (i := 6) (j := 5) rfl (g := .data) (by simp) rfl
   have n8 : LL 8 = false := closed_not hC n6 (i := 8) (j := 6) rfl (g := .data) (by simp) rfl
   refine wpOp_call (f := 33) (args := #[.int .u8 (n : Int)]) (R := fun u W3 => u = .string (nm n) ∧ Below W.heap.size W W3) rfl rfl (by simp [execOp, resolve, invoke, e22, go_sem]) ((name_any n hn W).mono fun en W3 ⟨h1, h2⟩ => ⟨_, h1, rfl, h2⟩) ?_
   rintro u W3 ⟨rfl, hB3⟩
   exact hK _ _ (hS.put hon (i := 4) rfl rfl (fun u hu => by cases hu; rfl)) (hJ.call n6 n8 (by decide) hB3)
  ·have e23 := (eval_tmp a1 23).symm.trans (hS.get hBh (i := 5) rfl 4 (by simp) rfl rfl rfl)
   have n6 : LL 6 = false := closed_not hC hl (i := 6) (j := 5) rfl (g := .data) (by simp) rfl
   have n8 : LL 8 = false := closed_not hC n6 (i := 8) (j := 6) rfl (g := .data) (by simp) rfl
   refine wpOp_step rfl (fun K' hK' => ?_)
   go_simp
   exact hK' _ _ (hK _ _ (hS.put hon (i := 5) rfl rfl (fun u hu => by cases hu)) (hJ.lay n6 n8 (by rw [hS.size]; exact Nat.le_of_ble_eq_true rfl)))
  ·have d2 : LL 2 = true := hBh _ rfl ⟨2, .data⟩ (by simp) rfl
   have d5 : LL 5 = true := hBh _ rfl ⟨5, .data⟩ (by simp) rfl
   have n8 : LL 8 = false := closed_not hC hl (i := 8) (j := 6) rfl (g := .data) (by simp) rfl
   have hrow := hJ.c d2 hl
   obtain ⟨g9, hge, hgb⟩ := hJ.u d5 hl
   obtain ⟨v1, hv1⟩ : ∃ u, a1.eval (.tmp 21) = u := ⟨_, rfl⟩
   rw [hv1] at hrow
   obtain ⟨v9, W9, hrun, hTc⟩ := str_app (Below.refl _ W) hgb hrow (hJ.b n8).size hl0 63
   refine wpOp_run rfl rfl (v := v9) (w' := W9) ?_ (hK _ _ (hS.put hon (i := 6) rfl rfl (fun u hu => by cases hu)) (hJ.app n8 (by rw [hS.size]; exact Nat.le_of_ble_eq_true rfl) (fun k hk => (hrow.lt k hk).1) hTc))
   simp [execOp, resolve, invoke, builtin, hv1, hge, hrun, Result.andThen]
  ·have e8 := (eval_tmp a1 8).symm.trans ((hS.kept 8 (by kernel_rfl)).trans rfl)
   refine wpOp_step rfl (fun K' hK' => ?_)
   go_simp
   exact hK' _ _ (hK _ _ (hS.put hon (i := 7) rfl rfl (fun u hu => by cases hu; rfl)) (hJ.pure (by decide) (by decide)))
  ·have d6 : LL 6 = true := hBh _ rfl ⟨6, .data⟩ (by simp) rfl
   have e26 := (eval_tmp a1 26).symm.trans (hS.get hBh (i := 8) rfl 7 (by simp) rfl rfl rfl)
   obtain ⟨v9, hv9⟩ : ∃ u, a1.eval (.tmp 25) = u := ⟨_, rfl⟩
   have hr := hJ.r d6 hl
   rw [hv9] at hr
   obtain ⟨ao2, cap2, rfl, _⟩ := row_shape hr
   have hln : (fnP ps ++ [nm n]).length = (fnP ps).length + 1 := by simp
   rw [hln] at hv9
   have e25 := (eval_tmp a1 25).symm.trans hv9
   have hbW := ((hJ.b hl).block _ hs3).trans HGF.out
   have hfz : W.frozen? ⟨W1.heap.size, 4, none⟩ = false := by simp [World.frozen?, hbW]
   have hcc : W.cell? ⟨W1.heap.size, 4, none⟩ = some (.slice na1 (fnP ps).length nc1) := by simp [World.cell?, hbW]
   refine wpOp_step rfl (fun K' hK' => ?_)
   go_simp
   exact hK' _ _ (hK _ _ (hS.none (i := 8) rfl rfl) (hJ.put d6 hl hv9 HGF.out rfl))
 ·intro LL a1 wz hl hS hJ
  have hfr := hS.frame [19, 20, 21, 22, 23, 24, 25, 26] rfl
  obtain ⟨v9, hr9, hx9, hb9⟩ := hJ.e (hl 8 (by decide))
  first | refine (‹∀ (a : Act) (w : World), Code.wp Tryz.prog _ _ a w → _› a1 wz ?_) | skip
  obtain ⟨zz, hz⟩ : ∃ z : Nat → Value, z = fun k => a1.eval (.tmp k) := ⟨_, rfl⟩
  rw [← hz] at hfr
  rw [hfr]
  have HR9 := Lib.hid hr9
  have HX9 := Lib.hid hx9
  have HB9 := Lib.hid hb9
  clear hfr hz hS hJ hl hr9 hx9 hb9
  simp only [over, List.setIfInBounds_toArray, List.set_cons_zero, List.set_cons_succ]
  have HBW : Hid (Below w.heap.size w wz) := HB1.out.trans ((HB12.out.mono HB1.out.size).trans (HB9.out.mono (by omega)))
  have HBZ : Hid (Below w1.heap.size w1 wz) := HB12.out.trans (HB9.out.mono (by omega))
  have HI9 : Hid (EIn (· < wz.heap.size) wz (.mk 17 0 ⟨#[]⟩ [] (fnP ps) T) (.slice pa1 0 pc1) (.slice na1 (fnP ps).length nc1) (.slice ba1 T.length bc1)) := Lib.hid (ein_upS HI1.out HBZ.out)
  obtain ⟨a9, c9, rfl, _, _⟩ := row_shape HR9.out
  have hln : (fnP ps ++ [nm n]).length = (fnP ps).length + 1 := by simp
  have HJ9 : Hid (EIn (· < wz.heap.size) wz (.mk 17 0 ⟨#[]⟩ [] (fnP ps ++ [nm n]) T) (.slice pa1 0 pc1) (.slice a9 (fnP ps ++ [nm n]).length c9) (.slice ba1 T.length bc1)) := Lib.hid ⟨HI9.out.1, HI9.out.2.1, SlAt.imp (row_strs HR9.out) (fun k hk => hk.2) (fun g o hg hA => hA), HI9.out.2.2.2⟩
  have hwT : wtSs T ≤ 120000000 := sc_wtT HT.out hTl (by omega)
  have hwp : wtNs (fnP ps ++ [nm n]) ≤ 16 := by
   have h := sc_wtN (ps.take 3 ++ [n])
   rw [List.map_append] at h
   have h3 : (ps.take 3 ++ [n]).length ≤ 4 := by rw [List.length_append, List.length_take]; simp; omega
   exact Nat.le_trans h (by omega)
  have HF1 : Hid (Calls Tryz.prog 30 #[exV (.mk 17 0 ⟨#[]⟩ [] (fnP ps) T) (.slice pa1 0 pc1) (.slice na1 (fnP ps).length nc1) (.slice ba1 T.length bc1)] wz fun en w' => ∃ v, en = .returned v ∧ w'.ownsRow wz.heap.size 9 1 v (frSs T (fnP ps) []).length ((frSs T (fnP ps) []).map .string) ∧ Below wz.heap.size wz w') :=
   fdFree_any HI9.out (by have := sc_wtP ps; omega)
  have HF3 : Hid (∀ W, Below wz.heap.size wz W → Calls Tryz.prog 30 #[exV (.mk 17 0 ⟨#[]⟩ [] (fnP ps ++ [nm n]) T) (.slice pa1 0 pc1) (.slice a9 (fnP ps ++ [nm n]).length c9) (.slice ba1 T.length bc1)] W fun en w' => ∃ v, en = .returned v ∧ w'.ownsRow W.heap.size 9 1 v (outN [nm n] (frSs T (fnP ps) [])).length ((outN [nm n] (frSs T (fnP ps) [])).map .string) ∧ Below W.heap.size W w') := fun W hb => by
   have h := fdFree_any (ein_upS HJ9.out hb) (by omega)
   rwa [free_more] at h
  simp only [exV, hln] at HF1 HF3
  simp only [hln] at HX9
  have hse : w1.heap.size < wz.heap.size := Nat.lt_of_lt_of_le hs2 HB9.out.size
  have hge : wz.heap[w1.heap.size]? = _ := (HB9.out.block _ hs11).trans HGE.out
  have q0 : wz.cell? ⟨w1.heap.size, 0, none⟩ = some (.int .i64 17) := by simp only [World.cell?, hge]; rfl
  have q1 : wz.cell? ⟨w1.heap.size, 1, none⟩ = some (.int .i64 0) := by simp only [World.cell?, hge]; rfl
  have q2 : wz.cell? ⟨w1.heap.size, 2, none⟩ = some (.string ⟨#[]⟩) := by simp only [World.cell?, hge]; rfl
  have q3 : wz.cell? ⟨w1.heap.size, 3, none⟩ = some (.slice pa1 0 pc1) := by simp only [World.cell?, hge]; rfl
  have q4 : wz.cell? ⟨w1.heap.size, 4, none⟩ = some (.slice na1 (fnP ps).length nc1) := by simp only [World.cell?, hge]; rfl
  have q5 : wz.cell? ⟨w1.heap.size, 5, none⟩ = some (.slice ba1 T.length bc1) := by simp only [World.cell?, hge]; rfl
  clear hge hwT hwp HI9 HJ9 HI1 HGE HGF HCL HG1
  go_wp2_with fail
  refine HF1.out.mono ?_
  rintro e w4 ⟨u, rfl, hr4, b4⟩
  have HR4 := Lib.hid hr4
  have HB4 := Lib.hid b4
  obtain ⟨uo, uc, rfl, _, _⟩ := row_shape hr4
  have hnz : wz.heap[w.heap.size]? = _ := (HB9.out.block _ (by omega)).trans HGN.out
  have hn4 : w4.cell? ⟨w.heap.size, 0, none⟩ = some (.int .u8 (n : Int)) := by simp only [World.cell?, (HB4.out.block _ (lt_of_block hnz)).trans hnz]; rfl
  have hnb : w.heap.size < wz.heap.size := lt_of_block hnz
  have hfz : W1.heap.size < wz.heap.size := lt_of_block HX9.out
  clear hr4 b4 q0 q1 q2 q3 q4 q5 hnz
  go_wp2_with fail
  refine (delM_any hn HR4.out hn4 hnb HB4.out.size).mono ?_
  rintro e w5 ⟨u5, rfl, hr5, g5⟩
  have HR5 := Lib.hid hr5
  have HB5 : Hid (Below wz.heap.size wz w5) := HB4.out.trans g5
  have HF5 := Lib.hid (HF3.out w5 HB5.out)
  have HBW5 : Hid (Below w.heap.size w w5) := HBW.out.trans (HB5.out.mono HBW.out.size)
  obtain ⟨u5o, u5c, rfl, _, _⟩ := row_shape hr5
  have hgf : w5.heap[W1.heap.size]? = _ := (HB5.out.block _ hfz).trans HX9.out
  have q0 : w5.cell? ⟨W1.heap.size, 0, none⟩ = some (.int .i64 17) := by simp only [World.cell?, hgf]; rfl
  have q1 : w5.cell? ⟨W1.heap.size, 1, none⟩ = some (.int .i64 0) := by simp only [World.cell?, hgf]; rfl
  have q2 : w5.cell? ⟨W1.heap.size, 2, none⟩ = some (.string ⟨#[]⟩) := by simp only [World.cell?, hgf]; rfl
  have q3 : w5.cell? ⟨W1.heap.size, 3, none⟩ = some (.slice pa1 0 pc1) := by simp only [World.cell?, hgf]; rfl
  have q4 : w5.cell? ⟨W1.heap.size, 4, none⟩ = some (.slice a9 ((fnP ps).length + 1) c9) := by simp only [World.cell?, hgf]; rfl
  have q5 : w5.cell? ⟨W1.heap.size, 5, none⟩ = some (.slice ba1 T.length bc1) := by simp only [World.cell?, hgf]; rfl
  clear hr5 g5 hgf HB5 HR4 HB4 hn4 HF3 HF1 HX9 HR9
  go_wp2_with fail
  refine HF5.out.mono ?_
  rintro e w6 ⟨u6, rfl, hr6, b6⟩
  have HR6 := Lib.hid hr6
  have HB6 := Lib.hid b6
  obtain ⟨u6o, u6c, rfl, _, _⟩ := row_shape hr6
  clear hr6 b6 q0 q1 q2 q3 q4 q5
  go_wp2_with fail
  refine (eqS_same (row_strs HR6.out) (row_strs (row_keep HR5.out fun k hk => HB6.out.block k (HR5.out.lt k hk).2))).mono ?_
  rintro e w7 ⟨rfl, q, rfl⟩
  have HBE : Hid (Below w.heap.size w (w6.drewN q)) := by
   have h := HBW5.out.trans (HB6.out.mono HBW5.out.size)
   exact ⟨h.os, h.tape, h.output, h.size, h.block⟩
  go_wp2_with fail
  go_ret
  exact ⟨rfl, HBE.out⟩
end Go.Proofs.YtpboencfnjmmbaaGreatDoor

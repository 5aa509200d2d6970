/-
 The laws' Awake of layer 4: it returns true, and writes nothing that was there before the call.
 Conditions: none.
-/
import Derived.Test.YtenfphbhofibjaaGreatDoorZJCol
import Derived.Test.YtenfphbhofibjaaGreatDoorZAwakeR
set_option maxRecDepth 100000
set_option maxHeartbeats 2000000
set_option linter.unusedVariables false
namespace Go.Proofs.YtenfphbhofibjaaGreatDoor
open Go.ChangeShapes Go.WideShapes Go.ChangeAt Go.RowKit Go.Maps Go.Sort Go.Lib
theorem alive_any (x : Int) (w : World) : Calls Tryz.prog 95 #[.int .i64 x] w fun e w' => e = .returned (.bool false) ∧ w' = w := by
 go_enter Tryz.func95, Tryz.ntmps95
 go_wp2
 go_ret
 exact ⟨rfl, rfl⟩
theorem alive_dead (w : World) : DeadF w 95 #[] (fun _ => false) :=
 ⟨fun args w => by kernel_rfl, fun W x _ _ _ => (alive_any x W).mono fun e w' ⟨h1, h2⟩ => ⟨h1, 0, by rw [h2]; rfl⟩⟩
def L0 : List OO := [⟨[], false, 0⟩, ⟨[0], false, 0⟩]
theorem row_at_off {w : World} {base rg cr n off : Nat} {l : List Int} (h : w.ownsRow base 157 1 (.slice (some ⟨rg, 0, none⟩) n cr) n (refRow l)) (hl : l.length = n) (ho : off ≤ n) (c : Nat) (hc1 : n - off ≤ c) (hc2 : c ≤ maxLen) : LiesAt w (.slice (some ⟨rg, off, none⟩) (n - off) c) (l.drop off) rg := by
 refine ⟨off, c, by simp [hl], by simp [hl]; omega, hc2, (h.lt rg rfl).2, fun j x hj => ?_⟩
 rw [List.getElem?_drop] at hj
 have hjl : off + j < l.length := by obtain ⟨hh, _⟩ := List.getElem?_eq_some_iff.1 hj; exact hh
 rw [h.cellAt (off + j) (by omega)]
 simp [refRow, hj]
theorem rch_none {lv : Int → Bool} {nm : Int → List Int} {x : Int} : ¬ Rch lv nm [] x := by
 intro h
 induction h with
 | root x hx _ => simp at hx
 | step x y _ _ _ ih => exact ih
theorem allFrom_full : ∀ {l : List Sl} {i : Nat}, (∀ sl ∈ l, sl.obj.isSome = true) → (allFrom i l).length = l.length
 | [], i, _ => rfl
 | s :: l, i, h => by
  rw [allFrom, if_pos (h s (by simp)), List.length_append, allFrom_full (fun sl hsl => h sl (by simp [hsl]))]
  simp
  omega
theorem count_all (l : List Int) : l.countP (outOf []) = l.length := by
 rw [List.countP_eq_length]
 intro a _
 rfl
theorem aw_reach {w0 w : World} {ab : Nat} {done : Nat → List Int} {B M : Nat → Nat} {s : St} {rv : Value} (h : Mk w0 w ab L0 done B M s L0.length) (hd : ∀ j oo, L0[j]? = some oo → done j = oo.names) (hr : RootsAt w rv [refI 1]) :
 Calls Tryz.prog 96 #[.pointer (some ⟨ab, 0, none⟩), rv, .func (.func 95) #[] #[]] w fun e w' => ∃ sb S, e = .returned (.map (some sb)) ∧ RSet w' sb S ∧ S.contains (refI 0) = true ∧ Below w.heap.size w w' := by
 have hl : L0.length ≤ 1000 := by decide
 refine (reach_any h.arn (h.objs hd hl (fun j oo hj => by
  have := List.mem_of_getElem? hj
  simp [L0] at this
  rcases this with rfl | rfl <;> simp)) (by rw [h.len]; decide) (fun n sl hs => Nat.le_trans (h.uses n sl hs) (by omega)) hr (by intro x hx; simp at hx; subst hx; exact refI_range 1 (by omega)) (alive_dead w)).mono ?_
 rintro e w' ⟨sb, he, S, hS, hin, _, hb⟩
 refine ⟨sb, S, he, hS, ?_, hb⟩
 have l0 : lives s (refI 0) = true := (h.lives hl _).2 ⟨0, by decide, rfl⟩
 have l1 : lives s (refI 1) = true := (h.lives hl _).2 ⟨1, by decide, rfl⟩
 have h1 : Rch (lives s) (nmOf s (flM L0 done) fun _ => false) [refI 1] (refI 0) := by
  refine .step (refI 1) _ (.root _ (by simp) l1) ?_ l0
  rw [h.names hd hl _ (show 1 < L0.length from by decide)]
  decide
 simpa using (hin _).2 h1
theorem aw_collect {w0 w : World} {ab cb : Nat} {done : Nat → List Int} {B M : Nat → Nat} {s : St} (h : Mk w0 w ab L0 done B M s L0.length) (hd : ∀ j oo, L0[j]? = some oo → done j = oo.names) {f : Int → Int → Option Int} (hc : Ch w cb 0 f) :
 Calls Tryz.prog 98 #[.pointer (some ⟨ab, 0, none⟩), .slice none 0 0, .map (some cb), .func (.func 95) #[] #[]] w fun e w' => e = .returned (.int .i64 2) ∧ Below w0.heap.size w0 w' := by
 have hl : L0.length ≤ 1000 := by decide
 obtain ⟨es, clock, hm⟩ := hc.block
 refine (collect_any (RF := fun W _ w' => Below W.heap.size W w') h.arn (h.objs hd hl (fun j oo hj => by
  have := List.mem_of_getElem? hj
  simp [L0] at this
  rcases this with rfl | rfl <;> simp)) (by rw [h.len]; decide) h.uses (.inl ⟨rfl, rfl⟩) (by simp) (alive_dead w) h.accs (by decide) (by rw [h.un]; simp) h.owner hm (fun W s' _ hF => forget_none (by obtain ⟨D, h⟩ := hc.kept ((hF.map hm).trans hm.symm); exact ⟨D, h.own⟩) keyedE)).mono ?_
 rintro e w' ⟨S, rfl, hin, W, s', _, hF, _, hb⟩
 have hS : S = [] := by
  cases S with
  | nil => rfl
  | cons x S => exact absurd ((hin x).1 (by simp)) rch_none
 subst hS
 have hal : (allOf s).countP (outOf []) = 2 := by
  rw [allOf_eq, count_all, allFrom_full, h.len]
  ·rfl
  ·intro sl hsl
   obtain ⟨i, hi⟩ := List.mem_iff_getElem?.1 hsl
   obtain ⟨oo, _, _, rfl⟩ := h.row hi
   rfl
 exact ⟨by rw [hal]; rfl, h.below.trans ((hF.below h.below.size).trans (hb.mono (Nat.le_trans h.below.size hF.size)))⟩
theorem aw_row (w1 : World) : ORow ((w1.alloc (.cells #[.int .u8 0] 5)).alloc (.cells #[.slice none 0 0, .bool false, .int .u8 0, .slice (some ⟨w1.heap.size, 0, none⟩) 1 1, .bool false, .int .u8 0] 149)) (.slice (some ⟨w1.heap.size + 1, 0, none⟩) 2 2) L0 := by
 obtain ⟨W, hW⟩ : ∃ W, (w1.alloc (.cells #[.int .u8 0] 5)).alloc (.cells #[.slice none 0 0, .bool false, .int .u8 0, .slice (some ⟨w1.heap.size, 0, none⟩) 1 1, .bool false, .int .u8 0] 149) = W := ⟨_, rfl⟩
 have h0 : W.heap[w1.heap.size]? = some (.cells #[.int .u8 0] 5 (0, 0)) := by rw [← hW]; exact block_alloc (heap_alloc_new w1 _) _
 have h1 : W.heap[w1.heap.size + 1]? = some (.cells #[.slice none 0 0, .bool false, .int .u8 0, .slice (some ⟨w1.heap.size, 0, none⟩) 1 1, .bool false, .int .u8 0] 149 (0, 0)) := by
  rw [← hW]
  have := heap_alloc_new (w1.alloc (.cells #[.int .u8 0] 5)) (.cells #[.slice none 0 0, .bool false, .int .u8 0, .slice (some ⟨w1.heap.size, 0, none⟩) 1 1, .bool false, .int .u8 0] 149)
  simpa using this
 rw [hW]
 refine ⟨w1.heap.size + 1, 0, 2, rfl, by decide, by decide, fun i oo hi => ?_⟩
 have hc : ∀ j v, (#[.slice none 0 0, .bool false, .int .u8 0, .slice (some ⟨w1.heap.size, 0, none⟩) 1 1, .bool false, .int .u8 0] : Array Value)[j]? = some v → W.cell? ⟨w1.heap.size + 1, j, none⟩ = some v := fun j v hv => by rw [cell_of_row _ _ _ _ _ _ h1]; exact hv
 match i, hi with
 | 0, hi =>
  simp [L0] at hi
  subst hi
  exact ⟨⟨lt_of_block h1, none, 0, hc 0 _ rfl, hc 1 _ rfl, hc 2 _ rfl, by decide, by decide, by decide, by decide, by simp, by simp⟩, by simp⟩
 | 1, hi =>
  simp [L0] at hi
  subst hi
  refine ⟨⟨lt_of_block h1, some ⟨w1.heap.size, 0, none⟩, 1, hc 3 _ rfl, hc 4 _ rfl, hc 5 _ rfl, by decide, by decide, by decide, by decide, by simp, fun _ => ⟨w1.heap.size, 0, rfl, lt_of_block h0, fun j x hj => ?_⟩⟩, by simp⟩
  match j, hj with
  | 0, hj => simp at hj; subst hj; rw [cell_of_row _ _ _ _ _ _ h0]; rfl
theorem results_tmp0 {a : Act} {w : World} (h : a.eval (.tmp 0) = .bool true) : (results Tryz.f69 a.tmps).run Tryz.prog w = .ok (.bool true) w := by
 have h1 : a.tmps[0]?.getD undef = .bool true := by simpa [Act.eval] using h
 simp [results, Tryz.results69, go_sem]
 exact h1
theorem awake4 (w : World) : Calls Tryz.prog 69 #[] w fun e w' => e = .returned (.bool true) ∧ Below w.heap.size w w' := by
 go_enter Tryz.func69, Tryz.ntmps69
 go_wp2_with fail
 refine (awake3 _).mono ?_
 rintro e w1 ⟨rfl, hb1⟩
 go_wp2_with fail
 have hO : ORow ((w1.alloc (.cells #[.int .u8 0] 5)).alloc (.cells #[.slice none 0 0, .bool false, .int .u8 0, .slice (some ⟨w1.heap.size, 0, none⟩) 1 1, .bool false, .int .u8 0] 149)) (.slice (some ⟨w1.heap.size + 1, 0, none⟩) 2 2) L0 := aw_row w1
 have hb2 : Below w.heap.size w ((w1.alloc (.cells #[.int .u8 0] 5)).alloc (.cells #[.slice none 0 0, .bool false, .int .u8 0, .slice (some ⟨w1.heap.size, 0, none⟩) 1 1, .bool false, .int .u8 0] 149)) := (hb1.alloc hb1.size _).alloc (by have := hb1.size; simp; omega) _
 generalize (w1.alloc (.cells #[.int .u8 0] 5)).alloc (.cells #[.slice none 0 0, .bool false, .int .u8 0, .slice (some ⟨w1.heap.size, 0, none⟩) 1 1, .bool false, .int .u8 0] 149) = w2 at hO hb2 ⊢
 refine (mkArena hO (by decide) (by decide)).mono ?_
 rintro e w3 ⟨rv, B, M, s, rfl, ⟨done, hd, hM⟩, hrow, hc⟩
 obtain ⟨rg, cr, cur, rfl, hcr1, hcr2, _, _⟩ := row_at hrow (by decide)
 unfold maxLen at hcr2
 have e0 : w3.cell? ⟨rg, 0, none⟩ = some (.int .u64 (refI 0)) := (hrow.cellAt 0 (by decide)).trans rfl
 have hrgl : rg < w3.heap.size := (hrow.lt rg rfl).2
 have HB : Hid (Below w.heap.size w w2) := hb2
 have HM : Hid (Mk w2 w3 w2.heap.size L0 done B M s L0.length) := hM
 have HD : Hid (∀ j oo, L0[j]? = some oo → done j = oo.names) := hd
 have HR : Hid (w3.ownsRow w2.heap.size 157 1 (.slice (some ⟨rg, 0, none⟩) L0.length cr) L0.length (refRow (refsTo L0.length))) := hrow
 have HC : Hid (Ch w3 (w2.heap.size + 1) 0 (cacheF L0 L0.length)) := hc
 rw [show L0.length = 2 from rfl] at hcr1 ⊢
 clear hO hb2 hM hd hrow hc hb1
 go_wp2_with fail
 have HRE : Hid (∀ c : Nat, 1 ≤ c → c ≤ 2 ^ 63 - 1 → Calls Tryz.prog 96 #[.pointer (some ⟨w2.heap.size, 0, none⟩), .slice (some ⟨rg, 1, none⟩) 1 c, .func (.func 95) #[] #[]] w3.drew fun e w' => ∃ sb S, e = .returned (.map (some sb)) ∧ RSet w' sb S ∧ S.contains (refI 0) = true ∧ Below w3.heap.size w3 w') := fun c hc1 hc2 => by
  have hM3 := HM.out.later (below_drew (Below.refl _ _))
  have hl := row_at_off (off := 1) HR.out.drew rfl (by decide) c (by exact hc1) (by exact hc2)
  exact (aw_reach hM3 HD.out (.inr ⟨rg, hl⟩)).mono fun e w' ⟨sb, S, h1, h2, h3, h4⟩ => ⟨sb, S, h1, h2, h3, ⟨h4.os, h4.tape, h4.output, h4.size, h4.block⟩⟩
 have HCO : Hid (∀ W : World, Below w3.heap.size w3 W → Calls Tryz.prog 98 #[.pointer (some ⟨w2.heap.size, 0, none⟩), .slice none 0 0, .map (some (w2.heap.size + 1)), .func (.func 95) #[] #[]] W fun e w' => e = .returned (.int .i64 2) ∧ Below w2.heap.size w2 w') := fun W hW => aw_collect (HM.out.later hW) HD.out (HC.out.kept (hW.block _ HC.out.lt))
 refine region_sh (valA w2.heap.size (w2.heap.size + 1) rg cr) (JA w2 w3) (by kernel_rfl) (by kernel_rfl) (by kernel_rfl) ⟨fun _ => rfl, fun h => by simp at h, fun h => by simp at h, fun h => by simp at h⟩ ?_ ?_
 ·intro hon k hk l a w hC hl hB hS hJ K hK
  have hk22 : k < 22 := hk
  clear hk HM HD HR HC HB
  rcases (show k = 0 ∨ k = 1 ∨ k = 2 ∨ k = 3 ∨ k = 4 ∨ k = 5 ∨ k = 6 ∨ k = 7 ∨ k = 8 ∨ k = 9 ∨ k = 10 ∨ k = 11 ∨ k = 12 ∨ k = 13 ∨ k = 14 ∨ k = 15 ∨ k = 16 ∨ k = 17 ∨ k = 18 ∨ k = 19 ∨ k = 20 ∨ k = 21 from by omega) with rfl | rfl | rfl | rfl | rfl | rfl | rfl | rfl | rfl | rfl | rfl | rfl | rfl | rfl | rfl | rfl | rfl | rfl | rfl | rfl | rfl | rfl
  ·have e2 := (eval_tmp a 2).symm.trans ((hS.kept 2 (by kernel_rfl)).trans rfl)
   refine wpOp_step rfl (fun K' hK' => ?_)
   go_simp
   exact hK' _ _ (hK _ _ (hS.put hon (i := 0) rfl rfl (fun u hu => by cases hu; rfl)) (hJ.pure (by decide) (by decide) (by decide) (by decide)))
  ·have e16 := (eval_tmp a 16).symm.trans (hS.get hB (i := 1) rfl 0 (by simp) rfl rfl rfl)
   refine wpOp_step rfl (fun K' hK' => ?_)
   go_simp
   exact hK' _ _ (hK _ _ (hS.put hon (i := 1) rfl rfl (fun u hu => by cases hu; rfl)) (hJ.pure (by decide) (by decide) (by decide) (by decide)))
  ·have e17 := (eval_tmp a 17).symm.trans (hS.get hB (i := 2) rfl 1 (by simp) rfl rfl rfl)
   refine wpOp_step rfl (fun K' hK' => ?_)
   go_simp
   exact hK' _ _ (hK _ _ (hS.put hon (i := 2) rfl rfl (fun u hu => by cases hu; rfl)) (hJ.pure (by decide) (by decide) (by decide) (by decide)))
  ·have e18 := (eval_tmp a 18).symm.trans (hS.get hB (i := 3) rfl 2 (by simp) rfl rfl rfl)
   refine wpOp_step rfl (fun K' hK' => ?_)
   go_simp
   exact hK' _ _ (hK _ _ (hS.put hon (i := 3) rfl rfl (fun u hu => by cases hu; rfl)) (hJ.pure (by decide) (by decide) (by decide) (by decide)))
  ·have e1 := (eval_tmp a 1).symm.trans ((hS.kept 1 (by kernel_rfl)).trans rfl)
   refine wpOp_step rfl (fun K' hK' => ?_)
   rw [if_pos (wanted_if rfl (p := _) (j := 3) (d := 19) rfl rfl (by rw [hS.size]; exact (by decide : (19 : Nat) < 37)) (hS.val 3 _ 19 _ rfl rfl rfl (hB _ rfl ⟨3, .guard⟩ (by simp) rfl)))]
   go_simp
   exact hK' _ _ (hK _ _ (hS.put hon (i := 4) rfl rfl (fun u hu => by cases hu; rfl)) (hJ.pure (by decide) (by decide) (by decide) (by decide)))
  ·have e2 := (eval_tmp a 2).symm.trans ((hS.kept 2 (by kernel_rfl)).trans rfl)
   refine wpOp_step rfl (fun K' hK' => ?_)
   rw [if_pos (wanted_if rfl (p := _) (j := 3) (d := 19) rfl rfl (by rw [hS.size]; exact (by decide : (19 : Nat) < 37)) (hS.val 3 _ 19 _ rfl rfl rfl (hB _ rfl ⟨3, .guard⟩ (by simp) rfl)))]
   go_simp
   exact hK' _ _ (hK _ _ (hS.put hon (i := 5) rfl rfl (fun u hu => by cases hu; rfl)) (hJ.pure (by decide) (by decide) (by decide) (by decide)))
  ·have e21 := (eval_tmp a 21).symm.trans (hS.get hB (i := 6) rfl 5 (by simp) rfl rfl rfl)
   refine wpOp_step rfl (fun K' hK' => ?_)
   rw [if_pos (wanted_if rfl (p := _) (j := 3) (d := 19) rfl rfl (by rw [hS.size]; exact (by decide : (19 : Nat) < 37)) (hS.val 3 _ 19 _ rfl rfl rfl (hB _ rfl ⟨3, .guard⟩ (by simp) rfl)))]
   go_simp
   exact hK' _ _ (hK _ _ (hS.put hon (i := 6) rfl rfl (fun u hu => by cases hu; rw [if_neg (by omega)])) (hJ.pure (by decide) (by decide) (by decide) (by decide)))
  ·have e4 := (eval_tmp a 4).symm.trans ((hS.kept 4 (by kernel_rfl)).trans rfl)
   refine wpOp_step rfl (fun K' hK' => ?_)
   rw [if_pos (wanted_if rfl (p := _) (j := 3) (d := 19) rfl rfl (by rw [hS.size]; exact (by decide : (19 : Nat) < 37)) (hS.val 3 _ 19 _ rfl rfl rfl (hB _ rfl ⟨3, .guard⟩ (by simp) rfl)))]
   go_simp
   exact hK' _ _ (hK _ _ (hS.put hon (i := 7) rfl rfl (fun u hu => by cases hu; rfl)) (hJ.pure (by decide) (by decide) (by decide) (by decide)))
  ·have e20 := (eval_tmp a 20).symm.trans (hS.get hB (i := 8) rfl 4 (by simp) rfl rfl rfl)
   have e22 := (eval_tmp a 22).symm.trans (hS.get hB (i := 8) rfl 6 (by simp) rfl rfl rfl)
   have e23 := (eval_tmp a 23).symm.trans (hS.get hB (i := 8) rfl 7 (by simp) rfl rfl rfl)
   have h12 : l 12 = false := closed_not hC hl (i := 12) (j := 8) rfl (g := .data) (by simp) rfl
   have h13 : l 13 = false := closed_not hC h12 (i := 13) (j := 12) rfl (g := .data) (by simp) rfl
   have h14 : l 14 = false := closed_not hC h13 (i := 14) (j := 13) rfl (g := .data) (by simp) rfl
   have h18 : l 18 = false := closed_not hC h14 (i := 18) (j := 14) rfl (g := .chain) (by simp) rfl
   obtain rfl := hJ.1 hl
   refine wpOp_call2 (f := 96) (args := #[.pointer (some ⟨w2.heap.size, 0, none⟩), .slice (some ⟨rg, 1, none⟩) 1 (cr - 1), .func (.func 95) #[] #[]]) (R := fun v w' => ∃ sb S, v = .map (some sb) ∧ RSet w' sb S ∧ S.contains (refI 0) = true ∧ Below w3.heap.size w3 w') rfl (wanted_if rfl (p := _) (j := 3) (d := 19) rfl rfl (by rw [hS.size]; exact (by decide : (19 : Nat) < 37)) (hS.val 3 _ 19 _ rfl rfl rfl (hB _ rfl ⟨3, .guard⟩ (by simp) rfl))) (by simp [execOp, resolve, invoke, e20, e22, e23, go_sem]) ((HRE.out _ (by omega) (by omega)).mono fun e w' ⟨sb, S, h1, h2⟩ => ⟨_, h1, sb, S, rfl, h2⟩) ?_
   rintro v w' ⟨sb, S, rfl, h2, h3, h4⟩
   exact hK _ _ (hS.put hon (i := 8) rfl rfl (fun u hu => by cases hu)) ⟨fun h => (by simp [more] at h), fun _ _ => ⟨sb, S, by show (a.put (some 24) (.map (some sb))).eval (.tmp 24) = _; rw [eval_put _ _ _ _ (by rw [hS.size]; exact (by decide : (24 : Nat) < 37))]; rfl, h2, h3, h4⟩, fun h => (by rw [more_ne _ (by decide), h12] at h; cases h), fun h => (by rw [more_ne _ (by decide), h18] at h; cases h)⟩
  ·have e2 := (eval_tmp a 2).symm.trans ((hS.kept 2 (by kernel_rfl)).trans rfl)
   refine wpOp_step rfl (fun K' hK' => ?_)
   rw [if_pos (wanted_if rfl (p := _) (j := 3) (d := 19) rfl rfl (by rw [hS.size]; exact (by decide : (19 : Nat) < 37)) (hS.val 3 _ 19 _ rfl rfl rfl (hB _ rfl ⟨3, .guard⟩ (by simp) rfl)))]
   go_simp
   exact hK' _ _ (hK _ _ (hS.put hon (i := 9) rfl rfl (fun u hu => by cases hu; rfl)) (hJ.pure (by decide) (by decide) (by decide) (by decide)))
  ·have e25 := (eval_tmp a 25).symm.trans (hS.get hB (i := 10) rfl 9 (by simp) rfl rfl rfl)
   refine wpOp_step rfl (fun K' hK' => ?_)
   rw [if_pos (wanted_if rfl (p := _) (j := 3) (d := 19) rfl rfl (by rw [hS.size]; exact (by decide : (19 : Nat) < 37)) (hS.val 3 _ 19 _ rfl rfl rfl (hB _ rfl ⟨3, .guard⟩ (by simp) rfl)))]
   go_simp
   exact hK' _ _ (hK _ _ (hS.put hon (i := 10) rfl rfl (fun u hu => by cases hu; rfl)) (hJ.pure (by decide) (by decide) (by decide) (by decide)))
  ·have e26 := (eval_tmp a 26).symm.trans (hS.get hB (i := 11) rfl 10 (by simp) rfl rfl rfl)
   have h12 : l 12 = false := closed_not hC hl (i := 12) (j := 11) rfl (g := .data) (by simp) rfl
   have hc : w.cell? ⟨rg, 0, none⟩ = some (.int .u64 (refI 0)) := by
    cases h8 : l 8 with
    | false => rw [hJ.1 h8]; exact e0
    | true => obtain ⟨sb, S, _, _, _, h4⟩ := hJ.2.1 h8 h12; exact (h4.cell (p := ⟨rg, 0, none⟩) hrgl).trans e0
   refine wpOp_step rfl (fun K' hK' => ?_)
   rw [if_pos (wanted_if rfl (p := _) (j := 3) (d := 19) rfl rfl (by rw [hS.size]; exact (by decide : (19 : Nat) < 37)) (hS.val 3 _ 19 _ rfl rfl rfl (hB _ rfl ⟨3, .guard⟩ (by simp) rfl)))]
   go_simp
   exact hK' _ _ (hK _ _ (hS.put hon (i := 11) rfl rfl (fun u hu => by cases hu; rfl)) (hJ.pure (by decide) (by decide) (by decide) (by decide)))
  ·have e27 := (eval_tmp a 27).symm.trans (hS.get hB (i := 12) rfl 11 (by simp) rfl rfl rfl)
   have h8 : l 8 = true := hB _ rfl ⟨8, .data⟩ (by simp) rfl
   have h13 : l 13 = false := closed_not hC hl (i := 13) (j := 12) rfl (g := .data) (by simp) rfl
   have h14 : l 14 = false := closed_not hC h13 (i := 14) (j := 13) rfl (g := .data) (by simp) rfl
   have h18 : l 18 = false := closed_not hC h14 (i := 18) (j := 14) rfl (g := .chain) (by simp) rfl
   obtain ⟨sb, S, e24, h2, h3, h4⟩ := hJ.2.1 h8 hl
   have f24 := (eval_tmp a 24).symm.trans e24
   refine wpOp_call2 (f := 97) (args := #[.map (some sb), .int .u64 (refI 0)]) (R := fun v w' => v = .bool true ∧ w' = w.alloc (.cells #[] 189)) rfl (wanted_if rfl (p := _) (j := 3) (d := 19) rfl rfl (by rw [hS.size]; exact (by decide : (19 : Nat) < 37)) (hS.val 3 _ 19 _ rfl rfl rfl (hB _ rfl ⟨3, .guard⟩ (by simp) rfl))) (by simp [execOp, resolve, invoke, f24, e27, go_sem]) ((rset_has h2 _ (refI_range 0 (by omega)).1 (refI_range 0 (by omega)).2).mono fun e w' ⟨h5, h6⟩ => ⟨.bool true, by rw [h5, h3], rfl, h6⟩) ?_
   rintro v w' ⟨rfl, rfl⟩
   exact hK _ _ (hS.put hon (i := 12) rfl rfl (fun u hu => by cases hu; rfl)) ⟨fun h => (by rw [more_ne _ (by decide), h8] at h; cases h), fun _ h => (by simp [more] at h), fun _ _ => h4.alloc h4.size _, fun h => (by rw [more_ne _ (by decide), h18] at h; cases h)⟩
  ·have e19 := (eval_tmp a 19).symm.trans (hS.get hB (i := 13) rfl 3 (by simp) rfl rfl rfl)
   have e28 := (eval_tmp a 28).symm.trans (hS.get hB (i := 13) rfl 12 (by simp) rfl rfl rfl)
   refine wpOp_step rfl (fun K' hK' => ?_)
   go_simp
   exact hK' _ _ (hK _ _ (hS.put hon (i := 13) rfl rfl (fun u hu => by cases hu; rfl)) (hJ.pure (by decide) (by decide) (by decide) (by decide)))
  ·have e29 := (eval_tmp a 29).symm.trans (hS.get hB (i := 14) rfl 13 (by simp) rfl rfl rfl)
   refine wpOp_step rfl (fun K' hK' => ?_)
   go_simp
   exact hK' _ _ (hK _ _ (hS.put hon (i := 14) rfl rfl (fun u hu => by cases hu; rfl)) (hJ.pure (by decide) (by decide) (by decide) (by decide)))
  ·have e1 := (eval_tmp a 1).symm.trans ((hS.kept 1 (by kernel_rfl)).trans rfl)
   refine wpOp_step rfl (fun K' hK' => ?_)
   rw [if_pos (wanted_if rfl (p := _) (j := 14) (d := 30) rfl rfl (by rw [hS.size]; exact (by decide : (30 : Nat) < 37)) (hS.val 14 _ 30 _ rfl rfl rfl (hB _ rfl ⟨14, .guard⟩ (by simp) rfl)))]
   go_simp
   exact hK' _ _ (hK _ _ (hS.put hon (i := 15) rfl rfl (fun u hu => by cases hu; rfl)) (hJ.pure (by decide) (by decide) (by decide) (by decide)))
  ·have e3 := (eval_tmp a 3).symm.trans ((hS.kept 3 (by kernel_rfl)).trans rfl)
   refine wpOp_step rfl (fun K' hK' => ?_)
   rw [if_pos (wanted_if rfl (p := _) (j := 14) (d := 30) rfl rfl (by rw [hS.size]; exact (by decide : (30 : Nat) < 37)) (hS.val 14 _ 30 _ rfl rfl rfl (hB _ rfl ⟨14, .guard⟩ (by simp) rfl)))]
   go_simp
   exact hK' _ _ (hK _ _ (hS.put hon (i := 16) rfl rfl (fun u hu => by cases hu; rfl)) (hJ.pure (by decide) (by decide) (by decide) (by decide)))
  ·have e4 := (eval_tmp a 4).symm.trans ((hS.kept 4 (by kernel_rfl)).trans rfl)
   refine wpOp_step rfl (fun K' hK' => ?_)
   rw [if_pos (wanted_if rfl (p := _) (j := 14) (d := 30) rfl rfl (by rw [hS.size]; exact (by decide : (30 : Nat) < 37)) (hS.val 14 _ 30 _ rfl rfl rfl (hB _ rfl ⟨14, .guard⟩ (by simp) rfl)))]
   go_simp
   exact hK' _ _ (hK _ _ (hS.put hon (i := 17) rfl rfl (fun u hu => by cases hu; rfl)) (hJ.pure (by decide) (by decide) (by decide) (by decide)))
  ·have e31 := (eval_tmp a 31).symm.trans (hS.get hB (i := 18) rfl 15 (by simp) rfl rfl rfl)
   have e32 := (eval_tmp a 32).symm.trans (hS.get hB (i := 18) rfl 16 (by simp) rfl rfl rfl)
   have e33 := (eval_tmp a 33).symm.trans (hS.get hB (i := 18) rfl 17 (by simp) rfl rfl rfl)
   have h14 : l 14 = true := hB _ rfl ⟨14, .chain⟩ (by simp) rfl
   have h13 : l 13 = true := hC 14 _ rfl h14 ⟨13, .data⟩ (by simp) rfl
   have h12 : l 12 = true := hC 13 _ rfl h13 ⟨12, .data⟩ (by simp) rfl
   have h8 : l 8 = true := hC 12 _ rfl h12 ⟨8, .data⟩ (by simp) rfl
   have hb := hJ.2.2.1 h12 hl
   refine wpOp_call2 (f := 98) (args := #[.pointer (some ⟨w2.heap.size, 0, none⟩), .slice none 0 0, .map (some (w2.heap.size + 1)), .func (.func 95) #[] #[]]) (R := fun v w' => v = .int .i64 2 ∧ Below w2.heap.size w2 w') rfl (wanted_if rfl (p := _) (j := 14) (d := 30) rfl rfl (by rw [hS.size]; exact (by decide : (30 : Nat) < 37)) (hS.val 14 _ 30 _ rfl rfl rfl (hB _ rfl ⟨14, .guard⟩ (by simp) rfl))) (by simp [execOp, resolve, invoke, e31, e32, e33, go_sem]) ((HCO.out w hb).mono fun e w' ⟨h5, h6⟩ => ⟨_, h5, rfl, h6⟩) ?_
   rintro v w' ⟨rfl, h6⟩
   exact hK _ _ (hS.put hon (i := 18) rfl rfl (fun u hu => by cases hu; rfl)) ⟨fun h => (by rw [more_ne _ (by decide), h8] at h; cases h), fun _ h => (by rw [more_ne _ (by decide), h12] at h; cases h), fun _ h => (by simp [more] at h), fun _ => h6⟩
  ·have e34 := (eval_tmp a 34).symm.trans (hS.get hB (i := 19) rfl 18 (by simp) rfl rfl rfl)
   refine wpOp_step rfl (fun K' hK' => ?_)
   rw [if_pos (wanted_if rfl (p := _) (j := 14) (d := 30) rfl rfl (by rw [hS.size]; exact (by decide : (30 : Nat) < 37)) (hS.val 14 _ 30 _ rfl rfl rfl (hB _ rfl ⟨14, .guard⟩ (by simp) rfl)))]
   go_simp
   exact hK' _ _ (hK _ _ (hS.put hon (i := 19) rfl rfl (fun u hu => by cases hu; rfl)) (hJ.pure (by decide) (by decide) (by decide) (by decide)))
  ·have e30 := (eval_tmp a 30).symm.trans (hS.get hB (i := 20) rfl 14 (by simp) rfl rfl rfl)
   have e35 := (eval_tmp a 35).symm.trans (hS.get hB (i := 20) rfl 19 (by simp) rfl rfl rfl)
   refine wpOp_step rfl (fun K' hK' => ?_)
   go_simp
   exact hK' _ _ (hK _ _ (hS.put hon (i := 20) rfl rfl (fun u hu => by cases hu; rfl)) (hJ.pure (by decide) (by decide) (by decide) (by decide)))
  ·have e36 := (eval_tmp a 36).symm.trans (hS.get hB (i := 21) rfl 20 (by simp) rfl rfl rfl)
   refine wpOp_step rfl (fun K' hK' => ?_)
   go_simp
   exact hK' _ _ (hK _ _ (hS.put hon (i := 21) rfl rfl (fun u hu => by cases hu; rfl)) (hJ.pure (by decide) (by decide) (by decide) (by decide)))
 ·intro l a w' hl hS hJ
  have h0 := hS.val 21 _ 0 _ rfl rfl rfl (hl 21 (by decide))
  have hb := hJ.2.2.2 (hl 18 (by decide))
  have hd := hS.defers
  refine (‹∀ (a : Act) (w : World), Code.wp Tryz.prog _ _ a w → _› a w' ?_)
  refine wp_ret ?_
  refine bodyPost_ret (v := .bool true) (results_tmp0 h0) hd ⟨rfl, HB.out.trans (hb.mono HB.out.size)⟩
end Go.Proofs.YtenfphbhofibjaaGreatDoor

/-
 TrBlocks, TrSimple, TrStmt, TrExpr, TrString, joined.
 Conditions: as each theorem says.
-/
import Derived.Test.YtpboencfnjmmbaaGreatDoorZTrD
set_option maxRecDepth 100000
set_option maxHeartbeats 4000000
set_option linter.unusedVariables false
namespace Go.Proofs.YtpboencfnjmmbaaGreatDoor
open Go.RowKit TM
def valP (v : Value) (gb : Nat) (vx x : Value) : Nat → Option Value
 | 0 => some v
 | 2 => some (.pointer (some ⟨gb, 2, none⟩))
 | 3 => some vx
 | 4 => some x
 | _ => none
def valQ (v : Value) (gb j : Nat) (vb : Value) : Nat → Option Value
 | 0 => some v
 | 2 => some (.pointer (some ⟨gb, j, none⟩))
 | 3 => some vb
 | _ => none
theorem addBlocksIf0 {n : Nat} (hA : Small n) {name : ByteArray} {exprs : List TE} {body els : List TS} {pos : Int} (hsz : szS (.mk 3 name exprs body els pos) ≤ n) (hels : els.length = 0)
 {B : Nat} {w : World} {v : Value} {l : Bs} {vx vb ve : Value} (hR : Bt B w v l) (hB : B ≤ w.heap.size) (hG : Lg B w) (hE : SIn (· < B) w (.mk 3 name exprs body els pos) vx vb ve) (hl : l.length + (blocksT 3 name (txEs exprs) (txSs body) true (txSs els)).length ≤ 1000000000) :
 Calls Tryz.prog 77 #[v, stV (.mk 3 name exprs body els pos) vx vb ve] w fun en w' => ∃ v', en = .returned v' ∧ Bt B w' v' (l ++ blocksT 3 name (txEs exprs) (txSs body) true (txSs els)) ∧ Gr w w' v v' := by
 obtain rfl : els = [] := List.eq_nil_of_length_eq_zero hels
 clear hels
 have hszx : szEs exprs < n := by unfold szS at hsz; omega
 have hszb : szSs body < n := by unfold szS at hsz; omega
 have hsze : szSs ([] : List TS) < n := by unfold szS at hsz; omega
 have hE2 := hE
 obtain ⟨hk8, ⟨pa, pc, rfl, hpc1, hpc2, hpg⟩, ⟨na, nc, rfl, hnc1, hnc2, hng⟩, ⟨ba, bc, rfl, hbc1, hbc2, hbg⟩⟩ := hE2
 unfold maxLen at hpc2 hnc2 hbc2
 obtain ⟨x, hx⟩ := pack hA (show EsIn B w _ exprs from hE.2.1) hB hG 0 (by omega) hszx
 have HBB : Hid (∀ W u X, Bt B W u X → B ≤ W.heap.size → Below B w W → X.length + (blockT (txSs body)).length ≤ 1000000000 → Calls Tryz.prog 112 #[u, .slice na body.length nc] W fun en W2 => ∃ u2, en = .returned u2 ∧ Bt B W2 u2 (X ++ blockT (txSs body)) ∧ Gr W W2 u u2) := fun W u X h1 h2 h3 h4 => addBlock_any hA hszb h1 h2 (hG.on h3) (SsIn.on (show SsIn B w _ body from hE.2.2.1) h3) h4
 have hT : blocksT 3 name (txEs exprs) (txSs body) true (txSs ([] : List TS)) = [105, 102, 32] ++ pt (txEs exprs) 0 ++ [32] ++ blockT (txSs body) ++ [] := rfl
 rw [hT] at hl ⊢
 clear hT
 generalize pt (txEs exprs) 0 = T at hl hx ⊢
 generalize blockT (txSs body) = V at hl HBB ⊢
 have hlT : l.length + T.length + V.length + 4 ≤ 1000000000 := by simp at hl; omega
 have HX : Hid (Pk B w (.slice pa exprs.length pc) 0 T x) := hx
 have HR0 : Hid (Bt B w v l) := hR
 clear hE hl hA hsz hszx hszb hsze hR hG hpc1 hpc2 hpg hnc1 hnc2 hng hbc1 hbg hx hbc2
 unfold stV
 go_enter Tryz.func77, Tryz.ntmps77
 go_wp2_with fail
 obtain ⟨w1, hw1⟩ : ∃ w1, w1 = w.alloc (.cells #[.int .i64 3, .string name, .slice pa exprs.length pc, .slice na body.length nc, .slice ba 0 bc, .int .i64 pos] 60) := ⟨_, rfl⟩
 obtain ⟨gb, hgb⟩ : ∃ gb, gb = w.heap.size := ⟨_, rfl⟩
 have HBW : Hid (Below w.heap.size w w1) := by rw [hw1]; exact (Below.refl _ _).alloc (Nat.le_refl _) _
 have HBX : Hid (w1.heap[gb]? = some (.cells #[.int .i64 3, .string name, .slice pa exprs.length pc, .slice na body.length nc, .slice ba 0 bc, .int .i64 pos] 60 (0, 0))) := by rw [hw1, hgb]; exact heap_alloc_new _ _
 have HR : Hid (Bt B w1 v l) := by rw [hw1]; exact HR0.out.alloc _
 have hB1 : B ≤ w1.heap.size := Nat.le_trans hB HBW.out.size
 rw [← hw1, ← hgb]
 clear hw1 hgb
 refine region_sh (valP v gb (.slice pa exprs.length pc) x) (JC B w1 v l [(1, 10, (⟨#[105, 102, 32]⟩ : ByteArray).data.toList), (5, 14, T), (7, 16, [32]), (8, 0, [])] 6 15 7 [32] 8 0) (by kernel_rfl) (by kernel_rfl) (by kernel_rfl) (JC.start HR.out _ rfl) ?_ ?_
 ·intro hon q hq L a1 W hC hl hBh hS hJ K hK
  have hqn : q < 9 := hq
  clear hq
  rcases (show q = 0 ∨ q = 1 ∨ q = 2 ∨ q = 3 ∨ q = 4 ∨ q = 5 ∨ q = 6 ∨ q = 7 ∨ q = 8 from by omega) with rfl | rfl | rfl | rfl | rfl | rfl | rfl | rfl | rfl
  ·have hz : L 8 = false := closed_not hC hl (i := 8) (j := 0) rfl (g := .phase) (by simp) rfl
   have e0 := (eval_tmp a1 0).symm.trans (hJ.s0 hz)
   refine wpOp_step rfl (fun K' hK' => ?_)
   go_simp
   exact hK' _ _ (hK _ _ (hS.put hon (i := 0) rfl rfl (fun u hu => by cases hu; rfl)) (hJ.pure (by simp) (by decide)))
  ·have n5 : L 5 = false := closed_not hC hl (i := 5) (j := 1) rfl (g := .data) (by simp) rfl
   have n7 : L 7 = false := closed_not hC n5 (i := 7) (j := 5) rfl (g := .data) (by simp) rfl
   have n8 : L 8 = false := closed_not hC n7 (i := 8) (j := 7) rfl (g := .data) (by simp) rfl
   have hx : curX L l [(1, 10, (⟨#[105, 102, 32]⟩ : ByteArray).data.toList), (5, 14, T), (7, 16, [32]), (8, 0, [])] = l := by simp [curX, hl]
   have e9 := (hS.get hBh (i := 1) rfl 0 (by simp) rfl rfl rfl)
   have ek : ∀ c, a1.eval (Operand.const c) = c := fun c => rfl
   obtain ⟨u, W2, hrun, hT⟩ := hJ.str (C1 := []) (C2 := [(5, 14, T), (7, 16, [32]), (8, 0, [])]) (s := (⟨#[105, 102, 32]⟩ : ByteArray)) hB1 (by rw [hS.size]; exact (by decide : (10 : Nat) < 63)) (by simp) hl (by simp [n5, n7, n8]) (by decide) (vc := v) (by simp [cur, hl]) (by refine Nat.le_trans (Nat.add_le_add_right (Nat.le_of_eq (congrArg List.length hx)) _) ?_; first | omega | (show _ + 3 ≤ _; first | omega | (simp; omega)) | (simp; omega)) 73
   refine wpOp_run rfl rfl (v := u) (w' := W2) ?_ (hK _ _ (hS.put hon (i := 1) rfl rfl (fun u hu => by cases hu)) hT)
   simp [execOp, resolve, invoke, builtin, e9, ek, hrun, Result.andThen]
  ·have e3 := (eval_tmp a1 3).symm.trans ((hS.kept 3 (by kernel_rfl)).trans rfl)
   refine wpOp_step rfl (fun K' hK' => ?_)
   go_simp
   exact hK' _ _ (hK _ _ (hS.put hon (i := 2) rfl rfl (fun u hu => by cases hu; rfl)) (hJ.pure (by simp) (by decide)))
  ·have e11 := (eval_tmp a1 11).symm.trans (hS.get hBh (i := 3) rfl 2 (by simp) rfl rfl rfl)
   have hbx : W.heap[gb]? = _ := HR.out.block (hJ.gr) HBX.out (by decide)
   have hcl2 : W.cell? ⟨gb, 2, none⟩ = some (.slice pa exprs.length pc) := by simp [World.cell?, hbx]
   refine wpOp_step rfl (fun K' hK' => ?_)
   go_simp
   exact hK' _ _ (hK _ _ (hS.put hon (i := 3) rfl rfl (fun u hu => by cases hu; rfl)) (hJ.pure (by simp) (by decide)))
  ·have e12 := (eval_tmp a1 12).symm.trans (hS.get hBh (i := 4) rfl 3 (by simp) rfl rfl rfl)
   have hbel := HR.out.bel hJ.gr hB1
   refine wpOp_call (f := 111) (args := #[.slice pa exprs.length pc, .int .i64 0]) (R := fun u W2 => u = x ∧ Below W.heap.size W W2) rfl rfl (by simp [execOp, resolve, invoke, e12, go_sem]) ((HX.out.part _ ((HBW.out.mono hB).trans hbel)).mono fun e W2 ⟨h1, h2⟩ => ⟨_, h1, rfl, h2⟩) ?_
   rintro u W2 ⟨rfl, r2⟩
   exact hK _ _ (hS.put hon (i := 4) rfl rfl (fun u hu => by cases hu; rfl)) (hJ.pureB (by simp) (by decide) r2)
  ·have d1 : L 1 = true := hBh _ rfl ⟨1, .data⟩ (by simp) rfl
   have n7 : L 7 = false := closed_not hC hl (i := 7) (j := 5) rfl (g := .data) (by simp) rfl
   have n8 : L 8 = false := closed_not hC n7 (i := 8) (j := 7) rfl (g := .data) (by simp) rfl
   obtain ⟨vc, hvc⟩ : ∃ x, a1.eval (.tmp 10) = x := ⟨_, rfl⟩
   have hx : curX L l [(1, 10, (⟨#[105, 102, 32]⟩ : ByteArray).data.toList), (5, 14, T), (7, 16, [32]), (8, 0, [])] = l ++ ((⟨#[105, 102, 32]⟩ : ByteArray).data.toList) := by simp [curX, d1, hl]
   have e13 := (eval_tmp a1 13).symm.trans (hS.get hBh (i := 5) rfl 4 (by simp) rfl rfl rfl)
   have hvc2 := (eval_tmp a1 10).symm.trans hvc
   have hrow := hJ.row
   rw [hx] at hrow
   have hcu : cur L a1 v [(1, 10, (⟨#[105, 102, 32]⟩ : ByteArray).data.toList), (5, 14, T), (7, 16, [32]), (8, 0, [])] = vc := (by rw [← hvc]; simp [cur, d1, hl])
   rw [hcu] at hrow
   have hgr := hJ.gr
   rw [hcu] at hgr
   have hB2 : B ≤ W.heap.size := Nat.le_trans hB1 hgr.size
   have hbel := HR.out.bel hgr hB1
   refine wpOp_call (f := 50) (args := #[vc, x]) (R := fun u W2 => Bt B W2 u (l ++ ((⟨#[105, 102, 32]⟩ : ByteArray).data.toList) ++ (T)) ∧ Gr W W2 vc u) rfl rfl (by simp [execOp, resolve, invoke, e13, hvc2, go_sem]) ((HX.out.add W vc _ hrow hB2 ((HBW.out.mono hB).trans hbel) (by first | omega | (simp; omega))).mono fun e W2 ⟨u, h1, h2, h3⟩ => ⟨u, h1, h2, h3⟩) ?_
   rintro u W2 ⟨r1, r2⟩
   exact hK _ _ (hS.put hon (i := 5) rfl rfl (fun u hu => by cases hu)) (hJ.step (C1 := [(1, 10, (⟨#[105, 102, 32]⟩ : ByteArray).data.toList)]) (C2 := [(7, 16, [32]), (8, 0, [])]) (by rw [hS.size]; exact (by decide : (14 : Nat) < 63)) (by simp [d1]) hl (by simp [n7, n8]) (by decide) (by show Bt B W2 u (curX L l [(1, 10, (⟨#[105, 102, 32]⟩ : ByteArray).data.toList), (5, 14, T), (7, 16, [32]), (8, 0, [])] ++ (T)); rw [hx]; exact r1) (by show Gr W W2 (cur L a1 v [(1, 10, (⟨#[105, 102, 32]⟩ : ByteArray).data.toList), (5, 14, T), (7, 16, [32]), (8, 0, [])]) u; rw [hcu]; exact r2))
  ·refine wpOp_step rfl (fun K' hK' => ?_)
   go_simp
   exact hK' _ _ (hK _ _ (hS.put hon (i := 6) rfl rfl (fun u hu => by cases hu)) (hJ.build (by simp) (by decide) (by rw [hS.size]; exact (by decide : (15 : Nat) < 63)) rfl rfl))
  ·have d5 : L 5 = true := hBh _ rfl ⟨5, .data⟩ (by simp) rfl
   have d1 : L 1 = true := hC 5 _ rfl d5 ⟨1, .data⟩ (by simp) rfl
   have n8 : L 8 = false := closed_not hC hl (i := 8) (j := 7) rfl (g := .data) (by simp) rfl
   obtain ⟨vc, hvc⟩ : ∃ x, a1.eval (.tmp 14) = x := ⟨_, rfl⟩
   have hx : curX L l [(1, 10, (⟨#[105, 102, 32]⟩ : ByteArray).data.toList), (5, 14, T), (7, 16, [32]), (8, 0, [])] = l ++ ((⟨#[105, 102, 32]⟩ : ByteArray).data.toList) ++ (T) := by simp [curX, d1, d5, hl, List.append_assoc]
   have hbi : L 6 = true := hBh _ rfl ⟨6, .data⟩ (by simp) rfl
   obtain ⟨g, u, W2, hge, hrun, hT⟩ := hJ.put (C1 := [(1, 10, (⟨#[105, 102, 32]⟩ : ByteArray).data.toList), (5, 14, T)]) (C2 := [(8, 0, [])]) hB1 (by rw [hS.size]; exact (by decide : (16 : Nat) < 63)) (by simp [d1, d5]) hl hbi (by simp [n8]) (by decide) (k := 1) rfl (by decide) (vc := vc) (by rw [← hvc]; simp [cur, d1, d5, hl]) (by refine Nat.le_trans (Nat.add_le_add_right (Nat.le_of_eq (congrArg List.length hx)) _) ?_; first | omega | (show _ + 3 ≤ _; first | omega | (simp; omega)) | (simp; omega)) 73
   refine wpOp_run rfl rfl (v := u) (w' := W2) ?_ (hK _ _ (hS.put hon (i := 7) rfl rfl (fun u hu => by cases hu)) hT)
   simp [execOp, resolve, invoke, builtin, hvc, hge, hrun, Result.andThen]
  ·have d7 : L 7 = true := hBh _ rfl ⟨7, .data⟩ (by simp) rfl
   have d5 : L 5 = true := hBh _ rfl ⟨5, .phase⟩ (by simp) rfl
   have d1 : L 1 = true := hBh _ rfl ⟨1, .phase⟩ (by simp) rfl
   obtain ⟨vc, hvc⟩ : ∃ x, a1.eval (.tmp 16) = x := ⟨_, rfl⟩
   have hx : curX L l [(1, 10, (⟨#[105, 102, 32]⟩ : ByteArray).data.toList), (5, 14, T), (7, 16, [32]), (8, 0, [])] = l ++ ((⟨#[105, 102, 32]⟩ : ByteArray).data.toList) ++ (T) ++ ([32]) := by simp [curX, d1, d5, d7, hl, List.append_assoc]
   have e9 := (eval_tmp a1 16).symm.trans hvc
   refine wpOp_step rfl (fun K' hK' => ?_)
   go_simp
   exact hK' _ _ (hK _ _ (hS.put hon (i := 8) rfl rfl (fun u hu => by cases hu)) (hJ.hand (C1 := [(1, 10, (⟨#[105, 102, 32]⟩ : ByteArray).data.toList), (5, 14, T), (7, 16, [32])]) (C2 := []) (by rw [hS.size]; exact (by decide : (0 : Nat) < 63)) (by simp [d1, d5, d7]) hl (by simp) (by decide) (by rw [← hvc]; simp [cur, d1, d5, d7, hl])))
 ·intro L a1 w2 hl hS hJ
  have d1 : L 1 = true := hl 1 (by decide)
  have d5 : L 5 = true := hl 5 (by decide)
  have d7 : L 7 = true := hl 7 (by decide)
  have d8 : L 8 = true := hl 8 (by decide)
  have hcu : cur L a1 v [(1, 10, (⟨#[105, 102, 32]⟩ : ByteArray).data.toList), (5, 14, T), (7, 16, [32]), (8, 0, [])] = a1.eval (.tmp 0) := by simp [cur, d1, d5, d7, d8]
  have hx : curX L l [(1, 10, (⟨#[105, 102, 32]⟩ : ByteArray).data.toList), (5, 14, T), (7, 16, [32]), (8, 0, [])] = l ++ ((⟨#[105, 102, 32]⟩ : ByteArray).data.toList) ++ (T) ++ ([32]) := by simp [curX, d1, d5, d7, d8, List.append_assoc]
  have hrow := hJ.row
  have hgr := hJ.gr
  rw [hcu] at hgr
  rw [hcu, hx] at hrow
  have hfr := hS.frame [9, 10, 11, 12, 13, 14, 15, 16, 0] rfl
  refine (‹∀ (a : Act) (w : World), Code.wp Tryz.prog _ _ a w → _› a1 w2 ?_)
  obtain ⟨z, hz⟩ : ∃ z : Nat → Value, z = fun k => a1.eval (.tmp k) := ⟨_, rfl⟩
  rw [← hz] at hfr
  have ze : a1.eval (.tmp 0) = z 0 := by rw [hz]
  rw [ze] at hrow hgr
  rw [hfr]
  clear hfr ze hz hS hJ hcu hx hl d1 d5 d7 d8
  simp only [over, List.setIfInBounds_toArray, List.set_cons_zero, List.set_cons_succ]
  obtain ⟨v2, hv⟩ : ∃ u, z 0 = u := ⟨_, rfl⟩
  rw [hv] at hrow hgr ⊢
  clear hv
  have r2 := hrow
  have g2 := hgr
  clear hrow hgr
  have HR2 : Hid (Bt B w2 v2 (l ++ [105, 102, 32] ++ T ++ [32])) := by show Bt _ _ _ _; simpa using r2
  have HG2 : Hid (Gr w1 w2 v v2) := by show Gr _ _ _ _; exact (Gr.refl _ _).trans g2
  have hB2 : B ≤ w2.heap.size := Nat.le_trans hB1 HG2.out.size
  clear r2 g2
  have hbx2 : w2.heap[gb]? = _ := HR.out.block (HG2.out) HBX.out (by decide)
  have hc2_3 : w2.cell? ⟨gb, 3, none⟩ = some (.slice na body.length nc) := by simp [World.cell?, hbx2]
  clear hbx2
  go_wp2_with fail
  refine (HBB.out _ _ _ HR2.out hB2 ((HBW.out.mono hB).trans (HR.out.bel (HG2.out) hB1)) (by first | omega | (simp; omega))).mono ?_
  rintro e w3 ⟨v3, rfl, r3, g3⟩
  have HR3 : Hid (Bt B w3 v3 (l ++ [105, 102, 32] ++ T ++ [32] ++ V)) := by show Bt _ _ _ _; simpa using r3
  have HG3 : Hid (Gr w1 w3 v v3) := by show Gr _ _ _ _; exact (HG2.out).trans g3
  have hB3 : B ≤ w3.heap.size := Nat.le_trans hB1 HG3.out.size
  clear r3 g3
  have hbx3 : w3.heap[gb]? = _ := HR.out.block (HG3.out) HBX.out (by decide)
  have hc3_4 : w3.cell? ⟨gb, 4, none⟩ = some (.slice ba 0 bc) := by simp [World.cell?, hbx3]
  clear hbx3
  have HRz : Hid (Bt B w3 v3 (l ++ ([105, 102, 32] ++ T ++ [32] ++ V ++ []))) := by show Bt _ _ _ _; simpa using HR3.out
  have HGz : Hid (Gr w w3 v v3) := by show Gr _ _ _ _; exact (HG3.out).pre HBW.out (fun k hk => (HR0.out.lt k hk).2)
  go_wp2
  go_ret
  exact ⟨v3, rfl, HRz.out, HGz.out⟩
theorem addBlocksIf1 {n : Nat} (hA : Small n) {name : ByteArray} {exprs : List TE} {body els : List TS} {pos : Int} (hsz : szS (.mk 3 name exprs body els pos) ≤ n) (hels : 0 < els.length)
 {B : Nat} {w : World} {v : Value} {l : Bs} {vx vb ve : Value} (hR : Bt B w v l) (hB : B ≤ w.heap.size) (hG : Lg B w) (hE : SIn (· < B) w (.mk 3 name exprs body els pos) vx vb ve) (hl : l.length + (blocksT 3 name (txEs exprs) (txSs body) false (txSs els)).length ≤ 1000000000) :
 Calls Tryz.prog 77 #[v, stV (.mk 3 name exprs body els pos) vx vb ve] w fun en w' => ∃ v', en = .returned v' ∧ Bt B w' v' (l ++ blocksT 3 name (txEs exprs) (txSs body) false (txSs els)) ∧ Gr w w' v v' := by
 have hszx : szEs exprs < n := by unfold szS at hsz; omega
 have hszb : szSs body < n := by unfold szS at hsz; omega
 have hsze : szSs els < n := by unfold szS at hsz; omega
 have hE2 := hE
 obtain ⟨hk8, ⟨pa, pc, rfl, hpc1, hpc2, hpg⟩, ⟨na, nc, rfl, hnc1, hnc2, hng⟩, ⟨ba, bc, rfl, hbc1, hbc2, hbg⟩⟩ := hE2
 unfold maxLen at hpc2 hnc2 hbc2
 obtain ⟨x, hx⟩ := pack hA (show EsIn B w _ exprs from hE.2.1) hB hG 0 (by omega) hszx
 have HBB : Hid (∀ W u X, Bt B W u X → B ≤ W.heap.size → Below B w W → X.length + (blockT (txSs body)).length ≤ 1000000000 → Calls Tryz.prog 112 #[u, .slice na body.length nc] W fun en W2 => ∃ u2, en = .returned u2 ∧ Bt B W2 u2 (X ++ blockT (txSs body)) ∧ Gr W W2 u u2) := fun W u X h1 h2 h3 h4 => addBlock_any hA hszb h1 h2 (hG.on h3) (SsIn.on (show SsIn B w _ body from hE.2.2.1) h3) h4
 have HBE : Hid (∀ W u X, Bt B W u X → B ≤ W.heap.size → Below B w W → X.length + (blockT (txSs els)).length ≤ 1000000000 → Calls Tryz.prog 112 #[u, .slice ba els.length bc] W fun en W2 => ∃ u2, en = .returned u2 ∧ Bt B W2 u2 (X ++ blockT (txSs els)) ∧ Gr W W2 u u2) := fun W u X h1 h2 h3 h4 => addBlock_any hA hsze h1 h2 (hG.on h3) (SsIn.on (show SsIn B w _ els from hE.2.2.2) h3) h4
 have hT : blocksT 3 name (txEs exprs) (txSs body) false (txSs els) = [105, 102, 32] ++ pt (txEs exprs) 0 ++ [32] ++ blockT (txSs body) ++ ([32, 101, 108, 115, 101, 32] ++ blockT (txSs els)) := rfl
 rw [hT] at hl ⊢
 clear hT
 generalize pt (txEs exprs) 0 = T at hl hx ⊢
 generalize blockT (txSs body) = V at hl HBB ⊢
 generalize blockT (txSs els) = U at hl HBE ⊢
 have hlT : l.length + T.length + V.length + U.length + 10 ≤ 1000000000 := by simp at hl; omega
 have HX : Hid (Pk B w (.slice pa exprs.length pc) 0 T x) := hx
 have HR0 : Hid (Bt B w v l) := hR
 have hcm : decide ((0 : Int) < (els.length : Int)) = true := by simp; omega
 clear hE hl hA hsz hszx hszb hsze hR hG hpc1 hpc2 hpg hnc1 hnc2 hng hbg hx
 unfold stV
 go_enter Tryz.func77, Tryz.ntmps77
 go_wp2_with fail
 obtain ⟨w1, hw1⟩ : ∃ w1, w1 = w.alloc (.cells #[.int .i64 3, .string name, .slice pa exprs.length pc, .slice na body.length nc, .slice ba els.length bc, .int .i64 pos] 60) := ⟨_, rfl⟩
 obtain ⟨gb, hgb⟩ : ∃ gb, gb = w.heap.size := ⟨_, rfl⟩
 have HBW : Hid (Below w.heap.size w w1) := by rw [hw1]; exact (Below.refl _ _).alloc (Nat.le_refl _) _
 have HBX : Hid (w1.heap[gb]? = some (.cells #[.int .i64 3, .string name, .slice pa exprs.length pc, .slice na body.length nc, .slice ba els.length bc, .int .i64 pos] 60 (0, 0))) := by rw [hw1, hgb]; exact heap_alloc_new _ _
 have HR : Hid (Bt B w1 v l) := by rw [hw1]; exact HR0.out.alloc _
 have hB1 : B ≤ w1.heap.size := Nat.le_trans hB HBW.out.size
 rw [← hw1, ← hgb]
 clear hw1 hgb
 refine region_sh (valP v gb (.slice pa exprs.length pc) x) (JC B w1 v l [(1, 10, (⟨#[105, 102, 32]⟩ : ByteArray).data.toList), (5, 14, T), (7, 16, [32]), (8, 0, [])] 6 15 7 [32] 8 0) (by kernel_rfl) (by kernel_rfl) (by kernel_rfl) (JC.start HR.out _ rfl) ?_ ?_
 ·intro hon q hq L a1 W hC hl hBh hS hJ K hK
  have hqn : q < 9 := hq
  clear hq
  rcases (show q = 0 ∨ q = 1 ∨ q = 2 ∨ q = 3 ∨ q = 4 ∨ q = 5 ∨ q = 6 ∨ q = 7 ∨ q = 8 from by omega) with rfl | rfl | rfl | rfl | rfl | rfl | rfl | rfl | rfl
  ·have hz : L 8 = false := closed_not hC hl (i := 8) (j := 0) rfl (g := .phase) (by simp) rfl
   have e0 := (eval_tmp a1 0).symm.trans (hJ.s0 hz)
   refine wpOp_step rfl (fun K' hK' => ?_)
   go_simp
   exact hK' _ _ (hK _ _ (hS.put hon (i := 0) rfl rfl (fun u hu => by cases hu; rfl)) (hJ.pure (by simp) (by decide)))
  ·have n5 : L 5 = false := closed_not hC hl (i := 5) (j := 1) rfl (g := .data) (by simp) rfl
   have n7 : L 7 = false := closed_not hC n5 (i := 7) (j := 5) rfl (g := .data) (by simp) rfl
   have n8 : L 8 = false := closed_not hC n7 (i := 8) (j := 7) rfl (g := .data) (by simp) rfl
   have hx : curX L l [(1, 10, (⟨#[105, 102, 32]⟩ : ByteArray).data.toList), (5, 14, T), (7, 16, [32]), (8, 0, [])] = l := by simp [curX, hl]
   have e9 := (hS.get hBh (i := 1) rfl 0 (by simp) rfl rfl rfl)
   have ek : ∀ c, a1.eval (Operand.const c) = c := fun c => rfl
   obtain ⟨u, W2, hrun, hT⟩ := hJ.str (C1 := []) (C2 := [(5, 14, T), (7, 16, [32]), (8, 0, [])]) (s := (⟨#[105, 102, 32]⟩ : ByteArray)) hB1 (by rw [hS.size]; exact (by decide : (10 : Nat) < 63)) (by simp) hl (by simp [n5, n7, n8]) (by decide) (vc := v) (by simp [cur, hl]) (by refine Nat.le_trans (Nat.add_le_add_right (Nat.le_of_eq (congrArg List.length hx)) _) ?_; first | omega | (show _ + 3 ≤ _; first | omega | (simp; omega)) | (simp; omega)) 73
   refine wpOp_run rfl rfl (v := u) (w' := W2) ?_ (hK _ _ (hS.put hon (i := 1) rfl rfl (fun u hu => by cases hu)) hT)
   simp [execOp, resolve, invoke, builtin, e9, ek, hrun, Result.andThen]
  ·have e3 := (eval_tmp a1 3).symm.trans ((hS.kept 3 (by kernel_rfl)).trans rfl)
   refine wpOp_step rfl (fun K' hK' => ?_)
   go_simp
   exact hK' _ _ (hK _ _ (hS.put hon (i := 2) rfl rfl (fun u hu => by cases hu; rfl)) (hJ.pure (by simp) (by decide)))
  ·have e11 := (eval_tmp a1 11).symm.trans (hS.get hBh (i := 3) rfl 2 (by simp) rfl rfl rfl)
   have hbx : W.heap[gb]? = _ := HR.out.block (hJ.gr) HBX.out (by decide)
   have hcl2 : W.cell? ⟨gb, 2, none⟩ = some (.slice pa exprs.length pc) := by simp [World.cell?, hbx]
   refine wpOp_step rfl (fun K' hK' => ?_)
   go_simp
   exact hK' _ _ (hK _ _ (hS.put hon (i := 3) rfl rfl (fun u hu => by cases hu; rfl)) (hJ.pure (by simp) (by decide)))
  ·have e12 := (eval_tmp a1 12).symm.trans (hS.get hBh (i := 4) rfl 3 (by simp) rfl rfl rfl)
   have hbel := HR.out.bel hJ.gr hB1
   refine wpOp_call (f := 111) (args := #[.slice pa exprs.length pc, .int .i64 0]) (R := fun u W2 => u = x ∧ Below W.heap.size W W2) rfl rfl (by simp [execOp, resolve, invoke, e12, go_sem]) ((HX.out.part _ ((HBW.out.mono hB).trans hbel)).mono fun e W2 ⟨h1, h2⟩ => ⟨_, h1, rfl, h2⟩) ?_
   rintro u W2 ⟨rfl, r2⟩
   exact hK _ _ (hS.put hon (i := 4) rfl rfl (fun u hu => by cases hu; rfl)) (hJ.pureB (by simp) (by decide) r2)
  ·have d1 : L 1 = true := hBh _ rfl ⟨1, .data⟩ (by simp) rfl
   have n7 : L 7 = false := closed_not hC hl (i := 7) (j := 5) rfl (g := .data) (by simp) rfl
   have n8 : L 8 = false := closed_not hC n7 (i := 8) (j := 7) rfl (g := .data) (by simp) rfl
   obtain ⟨vc, hvc⟩ : ∃ x, a1.eval (.tmp 10) = x := ⟨_, rfl⟩
   have hx : curX L l [(1, 10, (⟨#[105, 102, 32]⟩ : ByteArray).data.toList), (5, 14, T), (7, 16, [32]), (8, 0, [])] = l ++ ((⟨#[105, 102, 32]⟩ : ByteArray).data.toList) := by simp [curX, d1, hl]
   have e13 := (eval_tmp a1 13).symm.trans (hS.get hBh (i := 5) rfl 4 (by simp) rfl rfl rfl)
   have hvc2 := (eval_tmp a1 10).symm.trans hvc
   have hrow := hJ.row
   rw [hx] at hrow
   have hcu : cur L a1 v [(1, 10, (⟨#[105, 102, 32]⟩ : ByteArray).data.toList), (5, 14, T), (7, 16, [32]), (8, 0, [])] = vc := (by rw [← hvc]; simp [cur, d1, hl])
   rw [hcu] at hrow
   have hgr := hJ.gr
   rw [hcu] at hgr
   have hB2 : B ≤ W.heap.size := Nat.le_trans hB1 hgr.size
   have hbel := HR.out.bel hgr hB1
   refine wpOp_call (f := 50) (args := #[vc, x]) (R := fun u W2 => Bt B W2 u (l ++ ((⟨#[105, 102, 32]⟩ : ByteArray).data.toList) ++ (T)) ∧ Gr W W2 vc u) rfl rfl (by simp [execOp, resolve, invoke, e13, hvc2, go_sem]) ((HX.out.add W vc _ hrow hB2 ((HBW.out.mono hB).trans hbel) (by first | omega | (simp; omega))).mono fun e W2 ⟨u, h1, h2, h3⟩ => ⟨u, h1, h2, h3⟩) ?_
   rintro u W2 ⟨r1, r2⟩
   exact hK _ _ (hS.put hon (i := 5) rfl rfl (fun u hu => by cases hu)) (hJ.step (C1 := [(1, 10, (⟨#[105, 102, 32]⟩ : ByteArray).data.toList)]) (C2 := [(7, 16, [32]), (8, 0, [])]) (by rw [hS.size]; exact (by decide : (14 : Nat) < 63)) (by simp [d1]) hl (by simp [n7, n8]) (by decide) (by show Bt B W2 u (curX L l [(1, 10, (⟨#[105, 102, 32]⟩ : ByteArray).data.toList), (5, 14, T), (7, 16, [32]), (8, 0, [])] ++ (T)); rw [hx]; exact r1) (by show Gr W W2 (cur L a1 v [(1, 10, (⟨#[105, 102, 32]⟩ : ByteArray).data.toList), (5, 14, T), (7, 16, [32]), (8, 0, [])]) u; rw [hcu]; exact r2))
  ·refine wpOp_step rfl (fun K' hK' => ?_)
   go_simp
   exact hK' _ _ (hK _ _ (hS.put hon (i := 6) rfl rfl (fun u hu => by cases hu)) (hJ.build (by simp) (by decide) (by rw [hS.size]; exact (by decide : (15 : Nat) < 63)) rfl rfl))
  ·have d5 : L 5 = true := hBh _ rfl ⟨5, .data⟩ (by simp) rfl
   have d1 : L 1 = true := hC 5 _ rfl d5 ⟨1, .data⟩ (by simp) rfl
   have n8 : L 8 = false := closed_not hC hl (i := 8) (j := 7) rfl (g := .data) (by simp) rfl
   obtain ⟨vc, hvc⟩ : ∃ x, a1.eval (.tmp 14) = x := ⟨_, rfl⟩
   have hx : curX L l [(1, 10, (⟨#[105, 102, 32]⟩ : ByteArray).data.toList), (5, 14, T), (7, 16, [32]), (8, 0, [])] = l ++ ((⟨#[105, 102, 32]⟩ : ByteArray).data.toList) ++ (T) := by simp [curX, d1, d5, hl, List.append_assoc]
   have hbi : L 6 = true := hBh _ rfl ⟨6, .data⟩ (by simp) rfl
   obtain ⟨g, u, W2, hge, hrun, hT⟩ := hJ.put (C1 := [(1, 10, (⟨#[105, 102, 32]⟩ : ByteArray).data.toList), (5, 14, T)]) (C2 := [(8, 0, [])]) hB1 (by rw [hS.size]; exact (by decide : (16 : Nat) < 63)) (by simp [d1, d5]) hl hbi (by simp [n8]) (by decide) (k := 1) rfl (by decide) (vc := vc) (by rw [← hvc]; simp [cur, d1, d5, hl]) (by refine Nat.le_trans (Nat.add_le_add_right (Nat.le_of_eq (congrArg List.length hx)) _) ?_; first | omega | (show _ + 3 ≤ _; first | omega | (simp; omega)) | (simp; omega)) 73
   refine wpOp_run rfl rfl (v := u) (w' := W2) ?_ (hK _ _ (hS.put hon (i := 7) rfl rfl (fun u hu => by cases hu)) hT)
   simp [execOp, resolve, invoke, builtin, hvc, hge, hrun, Result.andThen]
  ·have d7 : L 7 = true := hBh _ rfl ⟨7, .data⟩ (by simp) rfl
   have d5 : L 5 = true := hBh _ rfl ⟨5, .phase⟩ (by simp) rfl
   have d1 : L 1 = true := hBh _ rfl ⟨1, .phase⟩ (by simp) rfl
   obtain ⟨vc, hvc⟩ : ∃ x, a1.eval (.tmp 16) = x := ⟨_, rfl⟩
   have hx : curX L l [(1, 10, (⟨#[105, 102, 32]⟩ : ByteArray).data.toList), (5, 14, T), (7, 16, [32]), (8, 0, [])] = l ++ ((⟨#[105, 102, 32]⟩ : ByteArray).data.toList) ++ (T) ++ ([32]) := by simp [curX, d1, d5, d7, hl, List.append_assoc]
   have e9 := (eval_tmp a1 16).symm.trans hvc
   refine wpOp_step rfl (fun K' hK' => ?_)
   go_simp
   exact hK' _ _ (hK _ _ (hS.put hon (i := 8) rfl rfl (fun u hu => by cases hu)) (hJ.hand (C1 := [(1, 10, (⟨#[105, 102, 32]⟩ : ByteArray).data.toList), (5, 14, T), (7, 16, [32])]) (C2 := []) (by rw [hS.size]; exact (by decide : (0 : Nat) < 63)) (by simp [d1, d5, d7]) hl (by simp) (by decide) (by rw [← hvc]; simp [cur, d1, d5, d7, hl])))
 ·intro L a1 w2 hl hS hJ
  have d1 : L 1 = true := hl 1 (by decide)
  have d5 : L 5 = true := hl 5 (by decide)
  have d7 : L 7 = true := hl 7 (by decide)
  have d8 : L 8 = true := hl 8 (by decide)
  have hcu : cur L a1 v [(1, 10, (⟨#[105, 102, 32]⟩ : ByteArray).data.toList), (5, 14, T), (7, 16, [32]), (8, 0, [])] = a1.eval (.tmp 0) := by simp [cur, d1, d5, d7, d8]
  have hx : curX L l [(1, 10, (⟨#[105, 102, 32]⟩ : ByteArray).data.toList), (5, 14, T), (7, 16, [32]), (8, 0, [])] = l ++ ((⟨#[105, 102, 32]⟩ : ByteArray).data.toList) ++ (T) ++ ([32]) := by simp [curX, d1, d5, d7, d8, List.append_assoc]
  have hrow := hJ.row
  have hgr := hJ.gr
  rw [hcu] at hgr
  rw [hcu, hx] at hrow
  have hfr := hS.frame [9, 10, 11, 12, 13, 14, 15, 16, 0] rfl
  refine (‹∀ (a : Act) (w : World), Code.wp Tryz.prog _ _ a w → _› a1 w2 ?_)
  obtain ⟨z, hz⟩ : ∃ z : Nat → Value, z = fun k => a1.eval (.tmp k) := ⟨_, rfl⟩
  rw [← hz] at hfr
  have ze : a1.eval (.tmp 0) = z 0 := by rw [hz]
  rw [ze] at hrow hgr
  rw [hfr]
  clear hfr ze hz hS hJ hcu hx hl d1 d5 d7 d8
  simp only [over, List.setIfInBounds_toArray, List.set_cons_zero, List.set_cons_succ]
  obtain ⟨v2, hv⟩ : ∃ u, z 0 = u := ⟨_, rfl⟩
  rw [hv] at hrow hgr ⊢
  clear hv
  have r2 := hrow
  have g2 := hgr
  clear hrow hgr
  have HR2 : Hid (Bt B w2 v2 (l ++ [105, 102, 32] ++ T ++ [32])) := by show Bt _ _ _ _; simpa using r2
  have HG2 : Hid (Gr w1 w2 v v2) := by show Gr _ _ _ _; exact (Gr.refl _ _).trans g2
  have hB2 : B ≤ w2.heap.size := Nat.le_trans hB1 HG2.out.size
  clear r2 g2
  have hbx2 : w2.heap[gb]? = _ := HR.out.block (HG2.out) HBX.out (by decide)
  have hc2_3 : w2.cell? ⟨gb, 3, none⟩ = some (.slice na body.length nc) := by simp [World.cell?, hbx2]
  clear hbx2
  go_wp2_with fail
  refine (HBB.out _ _ _ HR2.out hB2 ((HBW.out.mono hB).trans (HR.out.bel (HG2.out) hB1)) (by first | omega | (simp; omega))).mono ?_
  rintro e w3 ⟨v3, rfl, r3, g3⟩
  have HR3 : Hid (Bt B w3 v3 (l ++ [105, 102, 32] ++ T ++ [32] ++ V)) := by show Bt _ _ _ _; simpa using r3
  have HG3 : Hid (Gr w1 w3 v v3) := by show Gr _ _ _ _; exact (HG2.out).trans g3
  have hB3 : B ≤ w3.heap.size := Nat.le_trans hB1 HG3.out.size
  clear r3 g3
  have hbx3 : w3.heap[gb]? = _ := HR.out.block (HG3.out) HBX.out (by decide)
  have hc3_4 : w3.cell? ⟨gb, 4, none⟩ = some (.slice ba els.length bc) := by simp [World.cell?, hbx3]
  clear hbx3
  go_wp2_with fail
  refine region_sh (valQ v3 gb 4 (.slice ba els.length bc)) (JC B w3 v3 (l ++ [105, 102, 32] ++ T ++ [32] ++ V) [(1, 26, (⟨#[32, 101, 108, 115, 101, 32]⟩ : ByteArray).data.toList), (4, 29, U), (5, 0, [])] 1000 1000 1001 [] 5 0) (by kernel_rfl) (by kernel_rfl) (by kernel_rfl) (JC.start HR3.out _ rfl) ?_ ?_
  ·intro hon q hq L a1 W hC hl hBh hS hJ K hK
   have hqn : q < 6 := hq
   clear hq
   rcases (show q = 0 ∨ q = 1 ∨ q = 2 ∨ q = 3 ∨ q = 4 ∨ q = 5 from by omega) with rfl | rfl | rfl | rfl | rfl | rfl
   ·have hz : L 5 = false := closed_not hC hl (i := 5) (j := 0) rfl (g := .phase) (by simp) rfl
    have e0 := (eval_tmp a1 0).symm.trans (hJ.s0 hz)
    refine wpOp_step rfl (fun K' hK' => ?_)
    go_simp
    exact hK' _ _ (hK _ _ (hS.put hon (i := 0) rfl rfl (fun u hu => by cases hu; rfl)) (hJ.pure (by simp) (by decide)))
   ·have n4 : L 4 = false := closed_not hC hl (i := 4) (j := 1) rfl (g := .data) (by simp) rfl
    have n5 : L 5 = false := closed_not hC n4 (i := 5) (j := 4) rfl (g := .data) (by simp) rfl
    have hx : curX L (l ++ [105, 102, 32] ++ T ++ [32] ++ V) [(1, 26, (⟨#[32, 101, 108, 115, 101, 32]⟩ : ByteArray).data.toList), (4, 29, U), (5, 0, [])] = (l ++ [105, 102, 32] ++ T ++ [32] ++ V) := by simp [curX, hl]
    have e25 := (hS.get hBh (i := 1) rfl 0 (by simp) rfl rfl rfl)
    have ek : ∀ c, a1.eval (Operand.const c) = c := fun c => rfl
    obtain ⟨u, W2, hrun, hT⟩ := hJ.str (C1 := []) (C2 := [(4, 29, U), (5, 0, [])]) (s := (⟨#[32, 101, 108, 115, 101, 32]⟩ : ByteArray)) hB3 (by rw [hS.size]; exact (by decide : (26 : Nat) < 63)) (by simp) hl (by simp [n4, n5]) (by decide) (vc := v3) (by simp [cur, hl]) (by refine Nat.le_trans (Nat.add_le_add_right (Nat.le_of_eq (congrArg List.length hx)) _) ?_; first | omega | (show _ + 6 ≤ _; first | omega | (simp; omega)) | (simp; omega)) 73
    refine wpOp_run rfl rfl (v := u) (w' := W2) ?_ (hK _ _ (hS.put hon (i := 1) rfl rfl (fun u hu => by cases hu)) hT)
    simp [execOp, resolve, invoke, builtin, e25, ek, hrun, Result.andThen]
   ·have e3 := (eval_tmp a1 3).symm.trans ((hS.kept 3 (by kernel_rfl)).trans rfl)
    refine wpOp_step rfl (fun K' hK' => ?_)
    go_simp
    exact hK' _ _ (hK _ _ (hS.put hon (i := 2) rfl rfl (fun u hu => by cases hu; rfl)) (hJ.pure (by simp) (by decide)))
   ·have e27 := (eval_tmp a1 27).symm.trans (hS.get hBh (i := 3) rfl 2 (by simp) rfl rfl rfl)
    have hbx : W.heap[gb]? = _ := HR.out.block (HG3.out.trans hJ.gr) HBX.out (by decide)
    have hcl2 : W.cell? ⟨gb, 4, none⟩ = some (.slice ba els.length bc) := by simp [World.cell?, hbx]
    refine wpOp_step rfl (fun K' hK' => ?_)
    go_simp
    exact hK' _ _ (hK _ _ (hS.put hon (i := 3) rfl rfl (fun u hu => by cases hu; rfl)) (hJ.pure (by simp) (by decide)))
   ·have d1 : L 1 = true := hBh _ rfl ⟨1, .data⟩ (by simp) rfl
    have n5 : L 5 = false := closed_not hC hl (i := 5) (j := 4) rfl (g := .data) (by simp) rfl
    obtain ⟨vc, hvc⟩ : ∃ x, a1.eval (.tmp 26) = x := ⟨_, rfl⟩
    have hx : curX L (l ++ [105, 102, 32] ++ T ++ [32] ++ V) [(1, 26, (⟨#[32, 101, 108, 115, 101, 32]⟩ : ByteArray).data.toList), (4, 29, U), (5, 0, [])] = (l ++ [105, 102, 32] ++ T ++ [32] ++ V) ++ ((⟨#[32, 101, 108, 115, 101, 32]⟩ : ByteArray).data.toList) := by simp [curX, d1, hl]
    have e28 := (eval_tmp a1 28).symm.trans (hS.get hBh (i := 4) rfl 3 (by simp) rfl rfl rfl)
    have hvc2 := (eval_tmp a1 26).symm.trans hvc
    have hrow := hJ.row
    rw [hx] at hrow
    have hcu : cur L a1 v3 [(1, 26, (⟨#[32, 101, 108, 115, 101, 32]⟩ : ByteArray).data.toList), (4, 29, U), (5, 0, [])] = vc := (by rw [← hvc]; simp [cur, d1, hl])
    rw [hcu] at hrow
    have hgr := hJ.gr
    rw [hcu] at hgr
    have hB2 : B ≤ W.heap.size := Nat.le_trans hB3 hgr.size
    have hbel := HR3.out.bel hgr hB3
    refine wpOp_call (f := 112) (args := #[vc, .slice ba els.length bc]) (R := fun u W2 => Bt B W2 u ((l ++ [105, 102, 32] ++ T ++ [32] ++ V) ++ ((⟨#[32, 101, 108, 115, 101, 32]⟩ : ByteArray).data.toList) ++ (U)) ∧ Gr W W2 vc u) rfl rfl (by simp [execOp, resolve, invoke, e28, hvc2, go_sem]) ((HBE.out W vc _ hrow hB2 ((HBW.out.mono hB).trans ((HR.out.bel (HG3.out) hB1).trans hbel)) (by first | omega | (simp; omega))).mono fun e W2 ⟨u, h1, h2, h3⟩ => ⟨u, h1, h2, h3⟩) ?_
    rintro u W2 ⟨r1, r2⟩
    exact hK _ _ (hS.put hon (i := 4) rfl rfl (fun u hu => by cases hu)) (hJ.step (C1 := [(1, 26, (⟨#[32, 101, 108, 115, 101, 32]⟩ : ByteArray).data.toList)]) (C2 := [(5, 0, [])]) (by rw [hS.size]; exact (by decide : (29 : Nat) < 63)) (by simp [d1]) hl (by simp [n5]) (by decide) (by show Bt B W2 u (curX L (l ++ [105, 102, 32] ++ T ++ [32] ++ V) [(1, 26, (⟨#[32, 101, 108, 115, 101, 32]⟩ : ByteArray).data.toList), (4, 29, U), (5, 0, [])] ++ (U)); rw [hx]; exact r1) (by show Gr W W2 (cur L a1 v3 [(1, 26, (⟨#[32, 101, 108, 115, 101, 32]⟩ : ByteArray).data.toList), (4, 29, U), (5, 0, [])]) u; rw [hcu]; exact r2))
   ·have d4 : L 4 = true := hBh _ rfl ⟨4, .data⟩ (by simp) rfl
    have d1 : L 1 = true := hBh _ rfl ⟨1, .phase⟩ (by simp) rfl
    obtain ⟨vc, hvc⟩ : ∃ x, a1.eval (.tmp 29) = x := ⟨_, rfl⟩
    have hx : curX L (l ++ [105, 102, 32] ++ T ++ [32] ++ V) [(1, 26, (⟨#[32, 101, 108, 115, 101, 32]⟩ : ByteArray).data.toList), (4, 29, U), (5, 0, [])] = (l ++ [105, 102, 32] ++ T ++ [32] ++ V) ++ ((⟨#[32, 101, 108, 115, 101, 32]⟩ : ByteArray).data.toList) ++ (U) := by simp [curX, d1, d4, hl, List.append_assoc]
    have e9 := (eval_tmp a1 29).symm.trans hvc
    refine wpOp_step rfl (fun K' hK' => ?_)
    go_simp
    exact hK' _ _ (hK _ _ (hS.put hon (i := 5) rfl rfl (fun u hu => by cases hu)) (hJ.hand (C1 := [(1, 26, (⟨#[32, 101, 108, 115, 101, 32]⟩ : ByteArray).data.toList), (4, 29, U)]) (C2 := []) (by rw [hS.size]; exact (by decide : (0 : Nat) < 63)) (by simp [d1, d4]) hl (by simp) (by decide) (by rw [← hvc]; simp [cur, d1, d4, hl])))
  ·intro L a1 w4 hl hS hJ
   have d1 : L 1 = true := hl 1 (by decide)
   have d4 : L 4 = true := hl 4 (by decide)
   have d5 : L 5 = true := hl 5 (by decide)
   have hcu : cur L a1 v3 [(1, 26, (⟨#[32, 101, 108, 115, 101, 32]⟩ : ByteArray).data.toList), (4, 29, U), (5, 0, [])] = a1.eval (.tmp 0) := by simp [cur, d1, d4, d5]
   have hx : curX L (l ++ [105, 102, 32] ++ T ++ [32] ++ V) [(1, 26, (⟨#[32, 101, 108, 115, 101, 32]⟩ : ByteArray).data.toList), (4, 29, U), (5, 0, [])] = (l ++ [105, 102, 32] ++ T ++ [32] ++ V) ++ ((⟨#[32, 101, 108, 115, 101, 32]⟩ : ByteArray).data.toList) ++ (U) := by simp [curX, d1, d4, d5, List.append_assoc]
   have hrow := hJ.row
   have hgr := hJ.gr
   rw [hcu] at hgr
   rw [hcu, hx] at hrow
   have hfr := hS.frame [25, 26, 27, 28, 29, 0] rfl
   refine (‹∀ (a : Act) (w : World), Code.wp Tryz.prog _ _ a w → _› a1 w4 ?_)
   obtain ⟨z, hz⟩ : ∃ z : Nat → Value, z = fun k => a1.eval (.tmp k) := ⟨_, rfl⟩
   rw [← hz] at hfr
   have ze : a1.eval (.tmp 0) = z 0 := by rw [hz]
   rw [ze] at hrow hgr
   rw [hfr]
   clear hfr ze hz hS hJ hcu hx hl d1 d4 d5
   simp only [over, List.setIfInBounds_toArray, List.set_cons_zero, List.set_cons_succ]
   obtain ⟨v4, hv⟩ : ∃ u, z 0 = u := ⟨_, rfl⟩
   rw [hv] at hrow hgr ⊢
   clear hv
   have r4 := hrow
   have g4 := hgr
   clear hrow hgr
   have HR4 : Hid (Bt B w4 v4 (l ++ [105, 102, 32] ++ T ++ [32] ++ V ++ [32, 101, 108, 115, 101, 32] ++ U)) := by show Bt _ _ _ _; simpa using r4
   have HG4 : Hid (Gr w1 w4 v v4) := by show Gr _ _ _ _; exact (HG3.out).trans g4
   have hB4 : B ≤ w4.heap.size := Nat.le_trans hB1 HG4.out.size
   clear r4 g4
   have HRz : Hid (Bt B w4 v4 (l ++ ([105, 102, 32] ++ T ++ [32] ++ V ++ ([32, 101, 108, 115, 101, 32] ++ U)))) := by show Bt _ _ _ _; simpa using HR4.out
   have HGz : Hid (Gr w w4 v v4) := by show Gr _ _ _ _; exact (HG4.out).pre HBW.out (fun k hk => (HR0.out.lt k hk).2)
   go_wp2
   go_ret
   exact ⟨v4, rfl, HRz.out, HGz.out⟩
theorem addBlocksWhile {n : Nat} (hA : Small n) {name : ByteArray} {exprs : List TE} {body els : List TS} {pos : Int} (hsz : szS (.mk 4 name exprs body els pos) ≤ n)
 {B : Nat} {w : World} {v : Value} {l : Bs} {vx vb ve : Value} (hR : Bt B w v l) (hB : B ≤ w.heap.size) (hG : Lg B w) (hE : SIn (· < B) w (.mk 4 name exprs body els pos) vx vb ve) (hl : l.length + (blocksT 4 name (txEs exprs) (txSs body) els.isEmpty (txSs els)).length ≤ 1000000000) :
 Calls Tryz.prog 77 #[v, stV (.mk 4 name exprs body els pos) vx vb ve] w fun en w' => ∃ v', en = .returned v' ∧ Bt B w' v' (l ++ blocksT 4 name (txEs exprs) (txSs body) els.isEmpty (txSs els)) ∧ Gr w w' v v' := by
 have hszx : szEs exprs < n := by unfold szS at hsz; omega
 have hszb : szSs body < n := by unfold szS at hsz; omega
 have hsze : szSs els < n := by unfold szS at hsz; omega
 have hE2 := hE
 obtain ⟨hk8, ⟨pa, pc, rfl, hpc1, hpc2, hpg⟩, ⟨na, nc, rfl, hnc1, hnc2, hng⟩, ⟨ba, bc, rfl, hbc1, hbc2, hbg⟩⟩ := hE2
 unfold maxLen at hpc2 hnc2 hbc2
 obtain ⟨x, hx⟩ := pack hA (show EsIn B w _ exprs from hE.2.1) hB hG 0 (by omega) hszx
 have HBB : Hid (∀ W u X, Bt B W u X → B ≤ W.heap.size → Below B w W → X.length + (blockT (txSs body)).length ≤ 1000000000 → Calls Tryz.prog 112 #[u, .slice na body.length nc] W fun en W2 => ∃ u2, en = .returned u2 ∧ Bt B W2 u2 (X ++ blockT (txSs body)) ∧ Gr W W2 u u2) := fun W u X h1 h2 h3 h4 => addBlock_any hA hszb h1 h2 (hG.on h3) (SsIn.on (show SsIn B w _ body from hE.2.2.1) h3) h4
 have hT : blocksT 4 name (txEs exprs) (txSs body) els.isEmpty (txSs els) = [119, 104, 105, 108, 101, 32] ++ pt (txEs exprs) 0 ++ [32] ++ blockT (txSs body) := rfl
 rw [hT] at hl ⊢
 clear hT
 generalize pt (txEs exprs) 0 = T at hl hx ⊢
 generalize blockT (txSs body) = V at hl HBB ⊢
 have hlT : l.length + T.length + V.length + 7 ≤ 1000000000 := by simp at hl; omega
 have HX : Hid (Pk B w (.slice pa exprs.length pc) 0 T x) := hx
 have HR0 : Hid (Bt B w v l) := hR
 clear hE hl hA hsz hszx hszb hsze hR hG hpc1 hpc2 hpg hnc1 hnc2 hng hbc1 hbg hx hbc2
 unfold stV
 go_enter Tryz.func77, Tryz.ntmps77
 go_wp2_with fail
 obtain ⟨w1, hw1⟩ : ∃ w1, w1 = w.alloc (.cells #[.int .i64 4, .string name, .slice pa exprs.length pc, .slice na body.length nc, .slice ba els.length bc, .int .i64 pos] 60) := ⟨_, rfl⟩
 obtain ⟨gb, hgb⟩ : ∃ gb, gb = w.heap.size := ⟨_, rfl⟩
 have HBW : Hid (Below w.heap.size w w1) := by rw [hw1]; exact (Below.refl _ _).alloc (Nat.le_refl _) _
 have HBX : Hid (w1.heap[gb]? = some (.cells #[.int .i64 4, .string name, .slice pa exprs.length pc, .slice na body.length nc, .slice ba els.length bc, .int .i64 pos] 60 (0, 0))) := by rw [hw1, hgb]; exact heap_alloc_new _ _
 have HR : Hid (Bt B w1 v l) := by rw [hw1]; exact HR0.out.alloc _
 have hB1 : B ≤ w1.heap.size := Nat.le_trans hB HBW.out.size
 rw [← hw1, ← hgb]
 clear hw1 hgb
 refine region_sh (valP v gb (.slice pa exprs.length pc) x) (JC B w1 v l [(1, 33, (⟨#[119, 104, 105, 108, 101, 32]⟩ : ByteArray).data.toList), (5, 37, T), (7, 39, [32]), (8, 0, [])] 6 38 7 [32] 8 0) (by kernel_rfl) (by kernel_rfl) (by kernel_rfl) (JC.start HR.out _ rfl) ?_ ?_
 ·intro hon q hq L a1 W hC hl hBh hS hJ K hK
  have hqn : q < 9 := hq
  clear hq
  rcases (show q = 0 ∨ q = 1 ∨ q = 2 ∨ q = 3 ∨ q = 4 ∨ q = 5 ∨ q = 6 ∨ q = 7 ∨ q = 8 from by omega) with rfl | rfl | rfl | rfl | rfl | rfl | rfl | rfl | rfl
  ·have hz : L 8 = false := closed_not hC hl (i := 8) (j := 0) rfl (g := .phase) (by simp) rfl
   have e0 := (eval_tmp a1 0).symm.trans (hJ.s0 hz)
   refine wpOp_step rfl (fun K' hK' => ?_)
   go_simp
   exact hK' _ _ (hK _ _ (hS.put hon (i := 0) rfl rfl (fun u hu => by cases hu; rfl)) (hJ.pure (by simp) (by decide)))
  ·have n5 : L 5 = false := closed_not hC hl (i := 5) (j := 1) rfl (g := .data) (by simp) rfl
   have n7 : L 7 = false := closed_not hC n5 (i := 7) (j := 5) rfl (g := .data) (by simp) rfl
   have n8 : L 8 = false := closed_not hC n7 (i := 8) (j := 7) rfl (g := .data) (by simp) rfl
   have hx : curX L l [(1, 33, (⟨#[119, 104, 105, 108, 101, 32]⟩ : ByteArray).data.toList), (5, 37, T), (7, 39, [32]), (8, 0, [])] = l := by simp [curX, hl]
   have e32 := (hS.get hBh (i := 1) rfl 0 (by simp) rfl rfl rfl)
   have ek : ∀ c, a1.eval (Operand.const c) = c := fun c => rfl
   obtain ⟨u, W2, hrun, hT⟩ := hJ.str (C1 := []) (C2 := [(5, 37, T), (7, 39, [32]), (8, 0, [])]) (s := (⟨#[119, 104, 105, 108, 101, 32]⟩ : ByteArray)) hB1 (by rw [hS.size]; exact (by decide : (33 : Nat) < 63)) (by simp) hl (by simp [n5, n7, n8]) (by decide) (vc := v) (by simp [cur, hl]) (by refine Nat.le_trans (Nat.add_le_add_right (Nat.le_of_eq (congrArg List.length hx)) _) ?_; first | omega | (show _ + 6 ≤ _; first | omega | (simp; omega)) | (simp; omega)) 73
   refine wpOp_run rfl rfl (v := u) (w' := W2) ?_ (hK _ _ (hS.put hon (i := 1) rfl rfl (fun u hu => by cases hu)) hT)
   simp [execOp, resolve, invoke, builtin, e32, ek, hrun, Result.andThen]
  ·have e3 := (eval_tmp a1 3).symm.trans ((hS.kept 3 (by kernel_rfl)).trans rfl)
   refine wpOp_step rfl (fun K' hK' => ?_)
   go_simp
   exact hK' _ _ (hK _ _ (hS.put hon (i := 2) rfl rfl (fun u hu => by cases hu; rfl)) (hJ.pure (by simp) (by decide)))
  ·have e34 := (eval_tmp a1 34).symm.trans (hS.get hBh (i := 3) rfl 2 (by simp) rfl rfl rfl)
   have hbx : W.heap[gb]? = _ := HR.out.block (hJ.gr) HBX.out (by decide)
   have hcl2 : W.cell? ⟨gb, 2, none⟩ = some (.slice pa exprs.length pc) := by simp [World.cell?, hbx]
   refine wpOp_step rfl (fun K' hK' => ?_)
   go_simp
   exact hK' _ _ (hK _ _ (hS.put hon (i := 3) rfl rfl (fun u hu => by cases hu; rfl)) (hJ.pure (by simp) (by decide)))
  ·have e35 := (eval_tmp a1 35).symm.trans (hS.get hBh (i := 4) rfl 3 (by simp) rfl rfl rfl)
   have hbel := HR.out.bel hJ.gr hB1
   refine wpOp_call (f := 111) (args := #[.slice pa exprs.length pc, .int .i64 0]) (R := fun u W2 => u = x ∧ Below W.heap.size W W2) rfl rfl (by simp [execOp, resolve, invoke, e35, go_sem]) ((HX.out.part _ ((HBW.out.mono hB).trans hbel)).mono fun e W2 ⟨h1, h2⟩ => ⟨_, h1, rfl, h2⟩) ?_
   rintro u W2 ⟨rfl, r2⟩
   exact hK _ _ (hS.put hon (i := 4) rfl rfl (fun u hu => by cases hu; rfl)) (hJ.pureB (by simp) (by decide) r2)
  ·have d1 : L 1 = true := hBh _ rfl ⟨1, .data⟩ (by simp) rfl
   have n7 : L 7 = false := closed_not hC hl (i := 7) (j := 5) rfl (g := .data) (by simp) rfl
   have n8 : L 8 = false := closed_not hC n7 (i := 8) (j := 7) rfl (g := .data) (by simp) rfl
   obtain ⟨vc, hvc⟩ : ∃ x, a1.eval (.tmp 33) = x := ⟨_, rfl⟩
   have hx : curX L l [(1, 33, (⟨#[119, 104, 105, 108, 101, 32]⟩ : ByteArray).data.toList), (5, 37, T), (7, 39, [32]), (8, 0, [])] = l ++ ((⟨#[119, 104, 105, 108, 101, 32]⟩ : ByteArray).data.toList) := by simp [curX, d1, hl]
   have e36 := (eval_tmp a1 36).symm.trans (hS.get hBh (i := 5) rfl 4 (by simp) rfl rfl rfl)
   have hvc2 := (eval_tmp a1 33).symm.trans hvc
   have hrow := hJ.row
   rw [hx] at hrow
   have hcu : cur L a1 v [(1, 33, (⟨#[119, 104, 105, 108, 101, 32]⟩ : ByteArray).data.toList), (5, 37, T), (7, 39, [32]), (8, 0, [])] = vc := (by rw [← hvc]; simp [cur, d1, hl])
   rw [hcu] at hrow
   have hgr := hJ.gr
   rw [hcu] at hgr
   have hB2 : B ≤ W.heap.size := Nat.le_trans hB1 hgr.size
   have hbel := HR.out.bel hgr hB1
   refine wpOp_call (f := 50) (args := #[vc, x]) (R := fun u W2 => Bt B W2 u (l ++ ((⟨#[119, 104, 105, 108, 101, 32]⟩ : ByteArray).data.toList) ++ (T)) ∧ Gr W W2 vc u) rfl rfl (by simp [execOp, resolve, invoke, e36, hvc2, go_sem]) ((HX.out.add W vc _ hrow hB2 ((HBW.out.mono hB).trans hbel) (by first | omega | (simp; omega))).mono fun e W2 ⟨u, h1, h2, h3⟩ => ⟨u, h1, h2, h3⟩) ?_
   rintro u W2 ⟨r1, r2⟩
   exact hK _ _ (hS.put hon (i := 5) rfl rfl (fun u hu => by cases hu)) (hJ.step (C1 := [(1, 33, (⟨#[119, 104, 105, 108, 101, 32]⟩ : ByteArray).data.toList)]) (C2 := [(7, 39, [32]), (8, 0, [])]) (by rw [hS.size]; exact (by decide : (37 : Nat) < 63)) (by simp [d1]) hl (by simp [n7, n8]) (by decide) (by show Bt B W2 u (curX L l [(1, 33, (⟨#[119, 104, 105, 108, 101, 32]⟩ : ByteArray).data.toList), (5, 37, T), (7, 39, [32]), (8, 0, [])] ++ (T)); rw [hx]; exact r1) (by show Gr W W2 (cur L a1 v [(1, 33, (⟨#[119, 104, 105, 108, 101, 32]⟩ : ByteArray).data.toList), (5, 37, T), (7, 39, [32]), (8, 0, [])]) u; rw [hcu]; exact r2))
  ·refine wpOp_step rfl (fun K' hK' => ?_)
   go_simp
   exact hK' _ _ (hK _ _ (hS.put hon (i := 6) rfl rfl (fun u hu => by cases hu)) (hJ.build (by simp) (by decide) (by rw [hS.size]; exact (by decide : (38 : Nat) < 63)) rfl rfl))
  ·have d5 : L 5 = true := hBh _ rfl ⟨5, .data⟩ (by simp) rfl
   have d1 : L 1 = true := hC 5 _ rfl d5 ⟨1, .data⟩ (by simp) rfl
   have n8 : L 8 = false := closed_not hC hl (i := 8) (j := 7) rfl (g := .data) (by simp) rfl
   obtain ⟨vc, hvc⟩ : ∃ x, a1.eval (.tmp 37) = x := ⟨_, rfl⟩
   have hx : curX L l [(1, 33, (⟨#[119, 104, 105, 108, 101, 32]⟩ : ByteArray).data.toList), (5, 37, T), (7, 39, [32]), (8, 0, [])] = l ++ ((⟨#[119, 104, 105, 108, 101, 32]⟩ : ByteArray).data.toList) ++ (T) := by simp [curX, d1, d5, hl, List.append_assoc]
   have hbi : L 6 = true := hBh _ rfl ⟨6, .data⟩ (by simp) rfl
   obtain ⟨g, u, W2, hge, hrun, hT⟩ := hJ.put (C1 := [(1, 33, (⟨#[119, 104, 105, 108, 101, 32]⟩ : ByteArray).data.toList), (5, 37, T)]) (C2 := [(8, 0, [])]) hB1 (by rw [hS.size]; exact (by decide : (39 : Nat) < 63)) (by simp [d1, d5]) hl hbi (by simp [n8]) (by decide) (k := 1) rfl (by decide) (vc := vc) (by rw [← hvc]; simp [cur, d1, d5, hl]) (by refine Nat.le_trans (Nat.add_le_add_right (Nat.le_of_eq (congrArg List.length hx)) _) ?_; first | omega | (show _ + 6 ≤ _; first | omega | (simp; omega)) | (simp; omega)) 73
   refine wpOp_run rfl rfl (v := u) (w' := W2) ?_ (hK _ _ (hS.put hon (i := 7) rfl rfl (fun u hu => by cases hu)) hT)
   simp [execOp, resolve, invoke, builtin, hvc, hge, hrun, Result.andThen]
  ·have d7 : L 7 = true := hBh _ rfl ⟨7, .data⟩ (by simp) rfl
   have d5 : L 5 = true := hBh _ rfl ⟨5, .phase⟩ (by simp) rfl
   have d1 : L 1 = true := hBh _ rfl ⟨1, .phase⟩ (by simp) rfl
   obtain ⟨vc, hvc⟩ : ∃ x, a1.eval (.tmp 39) = x := ⟨_, rfl⟩
   have hx : curX L l [(1, 33, (⟨#[119, 104, 105, 108, 101, 32]⟩ : ByteArray).data.toList), (5, 37, T), (7, 39, [32]), (8, 0, [])] = l ++ ((⟨#[119, 104, 105, 108, 101, 32]⟩ : ByteArray).data.toList) ++ (T) ++ ([32]) := by simp [curX, d1, d5, d7, hl, List.append_assoc]
   have e9 := (eval_tmp a1 39).symm.trans hvc
   refine wpOp_step rfl (fun K' hK' => ?_)
   go_simp
   exact hK' _ _ (hK _ _ (hS.put hon (i := 8) rfl rfl (fun u hu => by cases hu)) (hJ.hand (C1 := [(1, 33, (⟨#[119, 104, 105, 108, 101, 32]⟩ : ByteArray).data.toList), (5, 37, T), (7, 39, [32])]) (C2 := []) (by rw [hS.size]; exact (by decide : (0 : Nat) < 63)) (by simp [d1, d5, d7]) hl (by simp) (by decide) (by rw [← hvc]; simp [cur, d1, d5, d7, hl])))
 ·intro L a1 w2 hl hS hJ
  have d1 : L 1 = true := hl 1 (by decide)
  have d5 : L 5 = true := hl 5 (by decide)
  have d7 : L 7 = true := hl 7 (by decide)
  have d8 : L 8 = true := hl 8 (by decide)
  have hcu : cur L a1 v [(1, 33, (⟨#[119, 104, 105, 108, 101, 32]⟩ : ByteArray).data.toList), (5, 37, T), (7, 39, [32]), (8, 0, [])] = a1.eval (.tmp 0) := by simp [cur, d1, d5, d7, d8]
  have hx : curX L l [(1, 33, (⟨#[119, 104, 105, 108, 101, 32]⟩ : ByteArray).data.toList), (5, 37, T), (7, 39, [32]), (8, 0, [])] = l ++ ((⟨#[119, 104, 105, 108, 101, 32]⟩ : ByteArray).data.toList) ++ (T) ++ ([32]) := by simp [curX, d1, d5, d7, d8, List.append_assoc]
  have hrow := hJ.row
  have hgr := hJ.gr
  rw [hcu] at hgr
  rw [hcu, hx] at hrow
  have hfr := hS.frame [32, 33, 34, 35, 36, 37, 38, 39, 0] rfl
  refine (‹∀ (a : Act) (w : World), Code.wp Tryz.prog _ _ a w → _› a1 w2 ?_)
  obtain ⟨z, hz⟩ : ∃ z : Nat → Value, z = fun k => a1.eval (.tmp k) := ⟨_, rfl⟩
  rw [← hz] at hfr
  have ze : a1.eval (.tmp 0) = z 0 := by rw [hz]
  rw [ze] at hrow hgr
  rw [hfr]
  clear hfr ze hz hS hJ hcu hx hl d1 d5 d7 d8
  simp only [over, List.setIfInBounds_toArray, List.set_cons_zero, List.set_cons_succ]
  obtain ⟨v2, hv⟩ : ∃ u, z 0 = u := ⟨_, rfl⟩
  rw [hv] at hrow hgr ⊢
  clear hv
  have r2 := hrow
  have g2 := hgr
  clear hrow hgr
  have HR2 : Hid (Bt B w2 v2 (l ++ [119, 104, 105, 108, 101, 32] ++ T ++ [32])) := by show Bt _ _ _ _; simpa using r2
  have HG2 : Hid (Gr w1 w2 v v2) := by show Gr _ _ _ _; exact (Gr.refl _ _).trans g2
  have hB2 : B ≤ w2.heap.size := Nat.le_trans hB1 HG2.out.size
  clear r2 g2
  have hbx2 : w2.heap[gb]? = _ := HR.out.block (HG2.out) HBX.out (by decide)
  have hc2_3 : w2.cell? ⟨gb, 3, none⟩ = some (.slice na body.length nc) := by simp [World.cell?, hbx2]
  clear hbx2
  go_wp2_with fail
  refine (HBB.out _ _ _ HR2.out hB2 ((HBW.out.mono hB).trans (HR.out.bel (HG2.out) hB1)) (by first | omega | (simp; omega))).mono ?_
  rintro e w3 ⟨v3, rfl, r3, g3⟩
  have HR3 : Hid (Bt B w3 v3 (l ++ [119, 104, 105, 108, 101, 32] ++ T ++ [32] ++ V)) := by show Bt _ _ _ _; simpa using r3
  have HG3 : Hid (Gr w1 w3 v v3) := by show Gr _ _ _ _; exact (HG2.out).trans g3
  have hB3 : B ≤ w3.heap.size := Nat.le_trans hB1 HG3.out.size
  clear r3 g3
  have HRz : Hid (Bt B w3 v3 (l ++ ([119, 104, 105, 108, 101, 32] ++ T ++ [32] ++ V))) := by show Bt _ _ _ _; simpa using HR3.out
  have HGz : Hid (Gr w w3 v v3) := by show Gr _ _ _ _; exact (HG3.out).pre HBW.out (fun k hk => (HR0.out.lt k hk).2)
  go_wp2
  go_ret
  exact ⟨v3, rfl, HRz.out, HGz.out⟩
theorem addBlocksTry {n : Nat} (hA : Small n) {name : ByteArray} {exprs : List TE} {body els : List TS} {pos : Int} (hsz : szS (.mk 7 name exprs body els pos) ≤ n)
 {B : Nat} {w : World} {v : Value} {l : Bs} {vx vb ve : Value} (hR : Bt B w v l) (hB : B ≤ w.heap.size) (hG : Lg B w) (hE : SIn (· < B) w (.mk 7 name exprs body els pos) vx vb ve) (hl : l.length + (blocksT 7 name (txEs exprs) (txSs body) els.isEmpty (txSs els)).length ≤ 1000000000) :
 Calls Tryz.prog 77 #[v, stV (.mk 7 name exprs body els pos) vx vb ve] w fun en w' => ∃ v', en = .returned v' ∧ Bt B w' v' (l ++ blocksT 7 name (txEs exprs) (txSs body) els.isEmpty (txSs els)) ∧ Gr w w' v v' := by
 have hszx : szEs exprs < n := by unfold szS at hsz; omega
 have hszb : szSs body < n := by unfold szS at hsz; omega
 have hsze : szSs els < n := by unfold szS at hsz; omega
 have hE2 := hE
 obtain ⟨hk8, ⟨pa, pc, rfl, hpc1, hpc2, hpg⟩, ⟨na, nc, rfl, hnc1, hnc2, hng⟩, ⟨ba, bc, rfl, hbc1, hbc2, hbg⟩⟩ := hE2
 unfold maxLen at hpc2 hnc2 hbc2
 have HBB : Hid (∀ W u X, Bt B W u X → B ≤ W.heap.size → Below B w W → X.length + (blockT (txSs body)).length ≤ 1000000000 → Calls Tryz.prog 112 #[u, .slice na body.length nc] W fun en W2 => ∃ u2, en = .returned u2 ∧ Bt B W2 u2 (X ++ blockT (txSs body)) ∧ Gr W W2 u u2) := fun W u X h1 h2 h3 h4 => addBlock_any hA hszb h1 h2 (hG.on h3) (SsIn.on (show SsIn B w _ body from hE.2.2.1) h3) h4
 have HBE : Hid (∀ W u X, Bt B W u X → B ≤ W.heap.size → Below B w W → X.length + (blockT (txSs els)).length ≤ 1000000000 → Calls Tryz.prog 112 #[u, .slice ba els.length bc] W fun en W2 => ∃ u2, en = .returned u2 ∧ Bt B W2 u2 (X ++ blockT (txSs els)) ∧ Gr W W2 u u2) := fun W u X h1 h2 h3 h4 => addBlock_any hA hsze h1 h2 (hG.on h3) (SsIn.on (show SsIn B w _ els from hE.2.2.2) h3) h4
 have hT : blocksT 7 name (txEs exprs) (txSs body) els.isEmpty (txSs els) = [116, 114, 121, 32] ++ blockT (txSs body) ++ [32, 99, 97, 116, 99, 104, 32] ++ name.data.toList ++ [32] ++ blockT (txSs els) := rfl
 rw [hT] at hl ⊢
 clear hT
 generalize blockT (txSs body) = V at hl HBB ⊢
 generalize blockT (txSs els) = U at hl HBE ⊢
 have hnm : name.data.toList.length = name.size := rfl
 have hlT : l.length + V.length + U.length + name.size + 12 ≤ 1000000000 := by rw [← hnm]; simp at hl ⊢; omega
 have HR0 : Hid (Bt B w v l) := hR
 clear hE hl hA hsz hszx hszb hsze hR hG hpc1 hpc2 hpg hnc1 hnc2 hng hbc1 hbg hbc2 hnm
 unfold stV
 go_enter Tryz.func77, Tryz.ntmps77
 go_wp2_with fail
 obtain ⟨w1, hw1⟩ : ∃ w1, w1 = w.alloc (.cells #[.int .i64 7, .string name, .slice pa exprs.length pc, .slice na body.length nc, .slice ba els.length bc, .int .i64 pos] 60) := ⟨_, rfl⟩
 obtain ⟨gb, hgb⟩ : ∃ gb, gb = w.heap.size := ⟨_, rfl⟩
 have HBW : Hid (Below w.heap.size w w1) := by rw [hw1]; exact (Below.refl _ _).alloc (Nat.le_refl _) _
 have HBX : Hid (w1.heap[gb]? = some (.cells #[.int .i64 7, .string name, .slice pa exprs.length pc, .slice na body.length nc, .slice ba els.length bc, .int .i64 pos] 60 (0, 0))) := by rw [hw1, hgb]; exact heap_alloc_new _ _
 have HR : Hid (Bt B w1 v l) := by rw [hw1]; exact HR0.out.alloc _
 have hB1 : B ≤ w1.heap.size := Nat.le_trans hB HBW.out.size
 rw [← hw1, ← hgb]
 clear hw1 hgb
 refine region_sh (valQ v gb 3 (.slice na body.length nc)) (JC B w1 v l [(1, 47, (⟨#[116, 114, 121, 32]⟩ : ByteArray).data.toList), (4, 50, V), (5, 0, [])] 1000 1000 1001 [] 5 0) (by kernel_rfl) (by kernel_rfl) (by kernel_rfl) (JC.start HR.out _ rfl) ?_ ?_
 ·intro hon q hq L a1 W hC hl hBh hS hJ K hK
  have hqn : q < 6 := hq
  clear hq
  rcases (show q = 0 ∨ q = 1 ∨ q = 2 ∨ q = 3 ∨ q = 4 ∨ q = 5 from by omega) with rfl | rfl | rfl | rfl | rfl | rfl
  ·have hz : L 5 = false := closed_not hC hl (i := 5) (j := 0) rfl (g := .phase) (by simp) rfl
   have e0 := (eval_tmp a1 0).symm.trans (hJ.s0 hz)
   refine wpOp_step rfl (fun K' hK' => ?_)
   go_simp
   exact hK' _ _ (hK _ _ (hS.put hon (i := 0) rfl rfl (fun u hu => by cases hu; rfl)) (hJ.pure (by simp) (by decide)))
  ·have n4 : L 4 = false := closed_not hC hl (i := 4) (j := 1) rfl (g := .data) (by simp) rfl
   have n5 : L 5 = false := closed_not hC n4 (i := 5) (j := 4) rfl (g := .data) (by simp) rfl
   have hx : curX L l [(1, 47, (⟨#[116, 114, 121, 32]⟩ : ByteArray).data.toList), (4, 50, V), (5, 0, [])] = l := by simp [curX, hl]
   have e46 := (hS.get hBh (i := 1) rfl 0 (by simp) rfl rfl rfl)
   have ek : ∀ c, a1.eval (Operand.const c) = c := fun c => rfl
   obtain ⟨u, W2, hrun, hT⟩ := hJ.str (C1 := []) (C2 := [(4, 50, V), (5, 0, [])]) (s := (⟨#[116, 114, 121, 32]⟩ : ByteArray)) hB1 (by rw [hS.size]; exact (by decide : (47 : Nat) < 63)) (by simp) hl (by simp [n4, n5]) (by decide) (vc := v) (by simp [cur, hl]) (by refine Nat.le_trans (Nat.add_le_add_right (Nat.le_of_eq (congrArg List.length hx)) _) ?_; first | omega | (show _ + 4 ≤ _; first | omega | (simp; omega)) | (simp; omega)) 73
   refine wpOp_run rfl rfl (v := u) (w' := W2) ?_ (hK _ _ (hS.put hon (i := 1) rfl rfl (fun u hu => by cases hu)) hT)
   simp [execOp, resolve, invoke, builtin, e46, ek, hrun, Result.andThen]
  ·have e3 := (eval_tmp a1 3).symm.trans ((hS.kept 3 (by kernel_rfl)).trans rfl)
   refine wpOp_step rfl (fun K' hK' => ?_)
   go_simp
   exact hK' _ _ (hK _ _ (hS.put hon (i := 2) rfl rfl (fun u hu => by cases hu; rfl)) (hJ.pure (by simp) (by decide)))
  ·have e48 := (eval_tmp a1 48).symm.trans (hS.get hBh (i := 3) rfl 2 (by simp) rfl rfl rfl)
   have hbx : W.heap[gb]? = _ := HR.out.block (hJ.gr) HBX.out (by decide)
   have hcl2 : W.cell? ⟨gb, 3, none⟩ = some (.slice na body.length nc) := by simp [World.cell?, hbx]
   refine wpOp_step rfl (fun K' hK' => ?_)
   go_simp
   exact hK' _ _ (hK _ _ (hS.put hon (i := 3) rfl rfl (fun u hu => by cases hu; rfl)) (hJ.pure (by simp) (by decide)))
  ·have d1 : L 1 = true := hBh _ rfl ⟨1, .data⟩ (by simp) rfl
   have n5 : L 5 = false := closed_not hC hl (i := 5) (j := 4) rfl (g := .data) (by simp) rfl
   obtain ⟨vc, hvc⟩ : ∃ x, a1.eval (.tmp 47) = x := ⟨_, rfl⟩
   have hx : curX L l [(1, 47, (⟨#[116, 114, 121, 32]⟩ : ByteArray).data.toList), (4, 50, V), (5, 0, [])] = l ++ ((⟨#[116, 114, 121, 32]⟩ : ByteArray).data.toList) := by simp [curX, d1, hl]
   have e49 := (eval_tmp a1 49).symm.trans (hS.get hBh (i := 4) rfl 3 (by simp) rfl rfl rfl)
   have hvc2 := (eval_tmp a1 47).symm.trans hvc
   have hrow := hJ.row
   rw [hx] at hrow
   have hcu : cur L a1 v [(1, 47, (⟨#[116, 114, 121, 32]⟩ : ByteArray).data.toList), (4, 50, V), (5, 0, [])] = vc := (by rw [← hvc]; simp [cur, d1, hl])
   rw [hcu] at hrow
   have hgr := hJ.gr
   rw [hcu] at hgr
   have hB2 : B ≤ W.heap.size := Nat.le_trans hB1 hgr.size
   have hbel := HR.out.bel hgr hB1
   refine wpOp_call (f := 112) (args := #[vc, .slice na body.length nc]) (R := fun u W2 => Bt B W2 u (l ++ ((⟨#[116, 114, 121, 32]⟩ : ByteArray).data.toList) ++ (V)) ∧ Gr W W2 vc u) rfl rfl (by simp [execOp, resolve, invoke, e49, hvc2, go_sem]) ((HBB.out W vc _ hrow hB2 ((HBW.out.mono hB).trans hbel) (by first | omega | (simp; omega))).mono fun e W2 ⟨u, h1, h2, h3⟩ => ⟨u, h1, h2, h3⟩) ?_
   rintro u W2 ⟨r1, r2⟩
   exact hK _ _ (hS.put hon (i := 4) rfl rfl (fun u hu => by cases hu)) (hJ.step (C1 := [(1, 47, (⟨#[116, 114, 121, 32]⟩ : ByteArray).data.toList)]) (C2 := [(5, 0, [])]) (by rw [hS.size]; exact (by decide : (50 : Nat) < 63)) (by simp [d1]) hl (by simp [n5]) (by decide) (by show Bt B W2 u (curX L l [(1, 47, (⟨#[116, 114, 121, 32]⟩ : ByteArray).data.toList), (4, 50, V), (5, 0, [])] ++ (V)); rw [hx]; exact r1) (by show Gr W W2 (cur L a1 v [(1, 47, (⟨#[116, 114, 121, 32]⟩ : ByteArray).data.toList), (4, 50, V), (5, 0, [])]) u; rw [hcu]; exact r2))
  ·have d4 : L 4 = true := hBh _ rfl ⟨4, .data⟩ (by simp) rfl
   have d1 : L 1 = true := hBh _ rfl ⟨1, .phase⟩ (by simp) rfl
   obtain ⟨vc, hvc⟩ : ∃ x, a1.eval (.tmp 50) = x := ⟨_, rfl⟩
   have hx : curX L l [(1, 47, (⟨#[116, 114, 121, 32]⟩ : ByteArray).data.toList), (4, 50, V), (5, 0, [])] = l ++ ((⟨#[116, 114, 121, 32]⟩ : ByteArray).data.toList) ++ (V) := by simp [curX, d1, d4, hl, List.append_assoc]
   have e9 := (eval_tmp a1 50).symm.trans hvc
   refine wpOp_step rfl (fun K' hK' => ?_)
   go_simp
   exact hK' _ _ (hK _ _ (hS.put hon (i := 5) rfl rfl (fun u hu => by cases hu)) (hJ.hand (C1 := [(1, 47, (⟨#[116, 114, 121, 32]⟩ : ByteArray).data.toList), (4, 50, V)]) (C2 := []) (by rw [hS.size]; exact (by decide : (0 : Nat) < 63)) (by simp [d1, d4]) hl (by simp) (by decide) (by rw [← hvc]; simp [cur, d1, d4, hl])))
 ·intro L a1 w2 hl hS hJ
  have d1 : L 1 = true := hl 1 (by decide)
  have d4 : L 4 = true := hl 4 (by decide)
  have d5 : L 5 = true := hl 5 (by decide)
  have hcu : cur L a1 v [(1, 47, (⟨#[116, 114, 121, 32]⟩ : ByteArray).data.toList), (4, 50, V), (5, 0, [])] = a1.eval (.tmp 0) := by simp [cur, d1, d4, d5]
  have hx : curX L l [(1, 47, (⟨#[116, 114, 121, 32]⟩ : ByteArray).data.toList), (4, 50, V), (5, 0, [])] = l ++ ((⟨#[116, 114, 121, 32]⟩ : ByteArray).data.toList) ++ (V) := by simp [curX, d1, d4, d5, List.append_assoc]
  have hrow := hJ.row
  have hgr := hJ.gr
  rw [hcu] at hgr
  rw [hcu, hx] at hrow
  have hfr := hS.frame [46, 47, 48, 49, 50, 0] rfl
  refine (‹∀ (a : Act) (w : World), Code.wp Tryz.prog _ _ a w → _› a1 w2 ?_)
  obtain ⟨z, hz⟩ : ∃ z : Nat → Value, z = fun k => a1.eval (.tmp k) := ⟨_, rfl⟩
  rw [← hz] at hfr
  have ze : a1.eval (.tmp 0) = z 0 := by rw [hz]
  rw [ze] at hrow hgr
  rw [hfr]
  clear hfr ze hz hS hJ hcu hx hl d1 d4 d5
  simp only [over, List.setIfInBounds_toArray, List.set_cons_zero, List.set_cons_succ]
  obtain ⟨v2, hv⟩ : ∃ u, z 0 = u := ⟨_, rfl⟩
  rw [hv] at hrow hgr ⊢
  clear hv
  have r2 := hrow
  have g2 := hgr
  clear hrow hgr
  have HR2 : Hid (Bt B w2 v2 (l ++ [116, 114, 121, 32] ++ V)) := by show Bt _ _ _ _; simpa using r2
  have HG2 : Hid (Gr w1 w2 v v2) := by show Gr _ _ _ _; exact (Gr.refl _ _).trans g2
  have hB2 : B ≤ w2.heap.size := Nat.le_trans hB1 HG2.out.size
  clear r2 g2
  go_wp2_with fail
  refine region_sh (valQ v2 gb 1 (.string name)) (JC B w2 v2 (l ++ [116, 114, 121, 32] ++ V) [(1, 52, (⟨#[32, 99, 97, 116, 99, 104, 32]⟩ : ByteArray).data.toList), (4, 55, name.data.toList), (6, 57, [32]), (7, 0, [])] 5 56 6 [32] 7 0) (by kernel_rfl) (by kernel_rfl) (by kernel_rfl) (JC.start HR2.out _ rfl) ?_ ?_
  ·intro hon q hq L a1 W hC hl hBh hS hJ K hK
   have hqn : q < 8 := hq
   clear hq
   rcases (show q = 0 ∨ q = 1 ∨ q = 2 ∨ q = 3 ∨ q = 4 ∨ q = 5 ∨ q = 6 ∨ q = 7 from by omega) with rfl | rfl | rfl | rfl | rfl | rfl | rfl | rfl
   ·have hz : L 7 = false := closed_not hC hl (i := 7) (j := 0) rfl (g := .phase) (by simp) rfl
    have e0 := (eval_tmp a1 0).symm.trans (hJ.s0 hz)
    refine wpOp_step rfl (fun K' hK' => ?_)
    go_simp
    exact hK' _ _ (hK _ _ (hS.put hon (i := 0) rfl rfl (fun u hu => by cases hu; rfl)) (hJ.pure (by simp) (by decide)))
   ·have n4 : L 4 = false := closed_not hC hl (i := 4) (j := 1) rfl (g := .data) (by simp) rfl
    have n6 : L 6 = false := closed_not hC n4 (i := 6) (j := 4) rfl (g := .data) (by simp) rfl
    have n7 : L 7 = false := closed_not hC n6 (i := 7) (j := 6) rfl (g := .data) (by simp) rfl
    have hx : curX L (l ++ [116, 114, 121, 32] ++ V) [(1, 52, (⟨#[32, 99, 97, 116, 99, 104, 32]⟩ : ByteArray).data.toList), (4, 55, name.data.toList), (6, 57, [32]), (7, 0, [])] = (l ++ [116, 114, 121, 32] ++ V) := by simp [curX, hl]
    have e51 := (hS.get hBh (i := 1) rfl 0 (by simp) rfl rfl rfl)
    have ek : ∀ c, a1.eval (Operand.const c) = c := fun c => rfl
    obtain ⟨u, W2, hrun, hT⟩ := hJ.str (C1 := []) (C2 := [(4, 55, name.data.toList), (6, 57, [32]), (7, 0, [])]) (s := (⟨#[32, 99, 97, 116, 99, 104, 32]⟩ : ByteArray)) hB2 (by rw [hS.size]; exact (by decide : (52 : Nat) < 63)) (by simp) hl (by simp [n4, n6, n7]) (by decide) (vc := v2) (by simp [cur, hl]) (by refine Nat.le_trans (Nat.add_le_add_right (Nat.le_of_eq (congrArg List.length hx)) _) ?_; first | omega | (show _ + 7 ≤ _; first | omega | (simp; omega)) | (simp; omega)) 73
    refine wpOp_run rfl rfl (v := u) (w' := W2) ?_ (hK _ _ (hS.put hon (i := 1) rfl rfl (fun u hu => by cases hu)) hT)
    simp [execOp, resolve, invoke, builtin, e51, ek, hrun, Result.andThen]
   ·have e3 := (eval_tmp a1 3).symm.trans ((hS.kept 3 (by kernel_rfl)).trans rfl)
    refine wpOp_step rfl (fun K' hK' => ?_)
    go_simp
    exact hK' _ _ (hK _ _ (hS.put hon (i := 2) rfl rfl (fun u hu => by cases hu; rfl)) (hJ.pure (by simp) (by decide)))
   ·have e53 := (eval_tmp a1 53).symm.trans (hS.get hBh (i := 3) rfl 2 (by simp) rfl rfl rfl)
    have hbx : W.heap[gb]? = _ := HR.out.block (HG2.out.trans hJ.gr) HBX.out (by decide)
    have hcl2 : W.cell? ⟨gb, 1, none⟩ = some (.string name) := by simp [World.cell?, hbx]
    refine wpOp_step rfl (fun K' hK' => ?_)
    go_simp
    exact hK' _ _ (hK _ _ (hS.put hon (i := 3) rfl rfl (fun u hu => by cases hu; rfl)) (hJ.pure (by simp) (by decide)))
   ·have d1 : L 1 = true := hBh _ rfl ⟨1, .data⟩ (by simp) rfl
    have n6 : L 6 = false := closed_not hC hl (i := 6) (j := 4) rfl (g := .data) (by simp) rfl
    have n7 : L 7 = false := closed_not hC n6 (i := 7) (j := 6) rfl (g := .data) (by simp) rfl
    obtain ⟨vc, hvc⟩ : ∃ x, a1.eval (.tmp 52) = x := ⟨_, rfl⟩
    have hx : curX L (l ++ [116, 114, 121, 32] ++ V) [(1, 52, (⟨#[32, 99, 97, 116, 99, 104, 32]⟩ : ByteArray).data.toList), (4, 55, name.data.toList), (6, 57, [32]), (7, 0, [])] = (l ++ [116, 114, 121, 32] ++ V) ++ ((⟨#[32, 99, 97, 116, 99, 104, 32]⟩ : ByteArray).data.toList) := by simp [curX, d1, hl]
    have e54 := (hS.get hBh (i := 4) rfl 3 (by simp) rfl rfl rfl)
    obtain ⟨u, W2, hrun, hT⟩ := hJ.str (C1 := [(1, 52, (⟨#[32, 99, 97, 116, 99, 104, 32]⟩ : ByteArray).data.toList)]) (C2 := [(6, 57, [32]), (7, 0, [])]) (s := name) hB2 (by rw [hS.size]; exact (by decide : (55 : Nat) < 63)) (by simp [d1]) hl (by simp [n6, n7]) (by decide) (vc := vc) (by rw [← hvc]; simp [cur, d1, hl]) (by refine Nat.le_trans (Nat.add_le_add_right (Nat.le_of_eq (congrArg List.length hx)) _) ?_; first | omega | (show _ + 7 ≤ _; first | omega | (simp; omega)) | (simp; omega)) 73
    refine wpOp_run rfl rfl (v := u) (w' := W2) ?_ (hK _ _ (hS.put hon (i := 4) rfl rfl (fun u hu => by cases hu)) hT)
    simp [execOp, resolve, invoke, builtin, e54, hvc, hrun, Result.andThen]
   ·refine wpOp_step rfl (fun K' hK' => ?_)
    go_simp
    exact hK' _ _ (hK _ _ (hS.put hon (i := 5) rfl rfl (fun u hu => by cases hu)) (hJ.build (by simp) (by decide) (by rw [hS.size]; exact (by decide : (56 : Nat) < 63)) rfl rfl))
   ·have d4 : L 4 = true := hBh _ rfl ⟨4, .data⟩ (by simp) rfl
    have d1 : L 1 = true := hC 4 _ rfl d4 ⟨1, .data⟩ (by simp) rfl
    have n7 : L 7 = false := closed_not hC hl (i := 7) (j := 6) rfl (g := .data) (by simp) rfl
    obtain ⟨vc, hvc⟩ : ∃ x, a1.eval (.tmp 55) = x := ⟨_, rfl⟩
    have hx : curX L (l ++ [116, 114, 121, 32] ++ V) [(1, 52, (⟨#[32, 99, 97, 116, 99, 104, 32]⟩ : ByteArray).data.toList), (4, 55, name.data.toList), (6, 57, [32]), (7, 0, [])] = (l ++ [116, 114, 121, 32] ++ V) ++ ((⟨#[32, 99, 97, 116, 99, 104, 32]⟩ : ByteArray).data.toList) ++ (name.data.toList) := by simp [curX, d1, d4, hl, List.append_assoc]
    have hbi : L 5 = true := hBh _ rfl ⟨5, .data⟩ (by simp) rfl
    obtain ⟨g, u, W2, hge, hrun, hT⟩ := hJ.put (C1 := [(1, 52, (⟨#[32, 99, 97, 116, 99, 104, 32]⟩ : ByteArray).data.toList), (4, 55, name.data.toList)]) (C2 := [(7, 0, [])]) hB2 (by rw [hS.size]; exact (by decide : (57 : Nat) < 63)) (by simp [d1, d4]) hl hbi (by simp [n7]) (by decide) (k := 1) rfl (by decide) (vc := vc) (by rw [← hvc]; simp [cur, d1, d4, hl]) (by refine Nat.le_trans (Nat.add_le_add_right (Nat.le_of_eq (congrArg List.length hx)) _) ?_; first | omega | (show _ + 7 ≤ _; first | omega | (simp; omega)) | (simp; omega)) 73
    refine wpOp_run rfl rfl (v := u) (w' := W2) ?_ (hK _ _ (hS.put hon (i := 6) rfl rfl (fun u hu => by cases hu)) hT)
    simp [execOp, resolve, invoke, builtin, hvc, hge, hrun, Result.andThen]
   ·have d6 : L 6 = true := hBh _ rfl ⟨6, .data⟩ (by simp) rfl
    have d4 : L 4 = true := hBh _ rfl ⟨4, .phase⟩ (by simp) rfl
    have d1 : L 1 = true := hBh _ rfl ⟨1, .phase⟩ (by simp) rfl
    obtain ⟨vc, hvc⟩ : ∃ x, a1.eval (.tmp 57) = x := ⟨_, rfl⟩
    have hx : curX L (l ++ [116, 114, 121, 32] ++ V) [(1, 52, (⟨#[32, 99, 97, 116, 99, 104, 32]⟩ : ByteArray).data.toList), (4, 55, name.data.toList), (6, 57, [32]), (7, 0, [])] = (l ++ [116, 114, 121, 32] ++ V) ++ ((⟨#[32, 99, 97, 116, 99, 104, 32]⟩ : ByteArray).data.toList) ++ (name.data.toList) ++ ([32]) := by simp [curX, d1, d4, d6, hl, List.append_assoc]
    have e9 := (eval_tmp a1 57).symm.trans hvc
    refine wpOp_step rfl (fun K' hK' => ?_)
    go_simp
    exact hK' _ _ (hK _ _ (hS.put hon (i := 7) rfl rfl (fun u hu => by cases hu)) (hJ.hand (C1 := [(1, 52, (⟨#[32, 99, 97, 116, 99, 104, 32]⟩ : ByteArray).data.toList), (4, 55, name.data.toList), (6, 57, [32])]) (C2 := []) (by rw [hS.size]; exact (by decide : (0 : Nat) < 63)) (by simp [d1, d4, d6]) hl (by simp) (by decide) (by rw [← hvc]; simp [cur, d1, d4, d6, hl])))
  ·intro L a1 w3 hl hS hJ
   have d1 : L 1 = true := hl 1 (by decide)
   have d4 : L 4 = true := hl 4 (by decide)
   have d6 : L 6 = true := hl 6 (by decide)
   have d7 : L 7 = true := hl 7 (by decide)
   have hcu : cur L a1 v2 [(1, 52, (⟨#[32, 99, 97, 116, 99, 104, 32]⟩ : ByteArray).data.toList), (4, 55, name.data.toList), (6, 57, [32]), (7, 0, [])] = a1.eval (.tmp 0) := by simp [cur, d1, d4, d6, d7]
   have hx : curX L (l ++ [116, 114, 121, 32] ++ V) [(1, 52, (⟨#[32, 99, 97, 116, 99, 104, 32]⟩ : ByteArray).data.toList), (4, 55, name.data.toList), (6, 57, [32]), (7, 0, [])] = (l ++ [116, 114, 121, 32] ++ V) ++ ((⟨#[32, 99, 97, 116, 99, 104, 32]⟩ : ByteArray).data.toList) ++ (name.data.toList) ++ ([32]) := by simp [curX, d1, d4, d6, d7, List.append_assoc]
   have hrow := hJ.row
   have hgr := hJ.gr
   rw [hcu] at hgr
   rw [hcu, hx] at hrow
   have hfr := hS.frame [51, 52, 53, 54, 55, 56, 57, 0] rfl
   refine (‹∀ (a : Act) (w : World), Code.wp Tryz.prog _ _ a w → _› a1 w3 ?_)
   obtain ⟨z, hz⟩ : ∃ z : Nat → Value, z = fun k => a1.eval (.tmp k) := ⟨_, rfl⟩
   rw [← hz] at hfr
   have ze : a1.eval (.tmp 0) = z 0 := by rw [hz]
   rw [ze] at hrow hgr
   rw [hfr]
   clear hfr ze hz hS hJ hcu hx hl d1 d4 d6 d7
   simp only [over, List.setIfInBounds_toArray, List.set_cons_zero, List.set_cons_succ]
   obtain ⟨v3, hv⟩ : ∃ u, z 0 = u := ⟨_, rfl⟩
   rw [hv] at hrow hgr ⊢
   clear hv
   have r3 := hrow
   have g3 := hgr
   clear hrow hgr
   have HR3 : Hid (Bt B w3 v3 (l ++ [116, 114, 121, 32] ++ V ++ [32, 99, 97, 116, 99, 104, 32] ++ name.data.toList ++ [32])) := by show Bt _ _ _ _; simpa using r3
   have HG3 : Hid (Gr w1 w3 v v3) := by show Gr _ _ _ _; exact (HG2.out).trans g3
   have hB3 : B ≤ w3.heap.size := Nat.le_trans hB1 HG3.out.size
   clear r3 g3
   have hbx3 : w3.heap[gb]? = _ := HR.out.block (HG3.out) HBX.out (by decide)
   have hc3_4 : w3.cell? ⟨gb, 4, none⟩ = some (.slice ba els.length bc) := by simp [World.cell?, hbx3]
   clear hbx3
   go_wp2_with fail
   refine (HBE.out _ _ _ HR3.out hB3 ((HBW.out.mono hB).trans (HR.out.bel (HG3.out) hB1)) (by first | omega | (simp; omega))).mono ?_
   rintro e w4 ⟨v4, rfl, r4, g4⟩
   have HR4 : Hid (Bt B w4 v4 (l ++ [116, 114, 121, 32] ++ V ++ [32, 99, 97, 116, 99, 104, 32] ++ name.data.toList ++ [32] ++ U)) := by show Bt _ _ _ _; simpa using r4
   have HG4 : Hid (Gr w1 w4 v v4) := by show Gr _ _ _ _; exact (HG3.out).trans g4
   have hB4 : B ≤ w4.heap.size := Nat.le_trans hB1 HG4.out.size
   clear r4 g4
   have HRz : Hid (Bt B w4 v4 (l ++ ([116, 114, 121, 32] ++ V ++ [32, 99, 97, 116, 99, 104, 32] ++ name.data.toList ++ [32] ++ U))) := by show Bt _ _ _ _; simpa using HR4.out
   have HGz : Hid (Gr w w4 v v4) := by show Gr _ _ _ _; exact (HG4.out).pre HBW.out (fun k hk => (HR0.out.lt k hk).2)
   go_wp2
   go_ret
   exact ⟨v4, rfl, HRz.out, HGz.out⟩
end Go.Proofs.YtpboencfnjmmbaaGreatDoor
namespace Go.Proofs.YtpboencfnjmmbaaGreatDoor
open Go.RowKit TM
section
variable {B : Nat} {w w' : World} {v v' : Value} {l : Bs}
theorem Gr.set (h : Gr w w' v v') {p : Addr} (hp : w.heap.size ≤ p.block) (x : Value) : Gr w (w'.setCell p x) v v' :=
 ⟨⟨h.g.os, h.g.tape, h.g.output, by simp [World.setCell]; exact h.size, fun j hj hn => (Below.heap_setCell _ _ _ _ (by omega)).trans (h.g.block j hj hn)⟩, h.o⟩
theorem Bt.set (h : Bt B w v l) {p : Addr} (hp : v.ownBlock ≠ some p.block) (x : Value) : Bt B (w.setCell p x) v l := by
 refine ⟨h.1, ?_⟩
 rcases h.2 with h0 | ⟨g, cap, cur, rfl, hg, hh, r⟩
 ·exact .inl h0
 ·exact .inr ⟨g, cap, cur, rfl, hg, (Below.heap_setCell _ _ _ _ (fun e => hp (by simp [Value.ownBlock, e]))).trans hh, r⟩
end
def valL (v : Value) (gb : Nat) (x : Value) : Nat → Option Value
 | 0 => some v
 | 2 => some (.pointer (some ⟨gb, 1, none⟩))
 | 3 => some x
 | _ => none
theorem addSimpleLet {n : Nat} (hA : Small n) {name : ByteArray} {exprs : List TE} {body els : List TS} {pos : Int} (hsz : szS (.mk 0 name exprs body els pos) ≤ n)
 {B : Nat} {w : World} {v : Value} {l : Bs} {vx vb ve : Value} (hR : Bt B w v l) (hB : B ≤ w.heap.size) (hG : Lg B w) (hE : SIn (· < B) w (.mk 0 name exprs body els pos) vx vb ve) (hl : l.length + (simpleT 0 name (txEs exprs)).length ≤ 1000000000) :
 Calls Tryz.prog 78 #[v, stV (.mk 0 name exprs body els pos) vx vb ve] w fun en w' => ∃ v', en = .returned v' ∧ Bt B w' v' (l ++ simpleT 0 name (txEs exprs)) ∧ Gr w w' v v' := by
 have hszx : szEs exprs < n := by unfold szS at hsz; omega
 have hszb : szSs body < n := by unfold szS at hsz; omega
 have hsze : szSs els < n := by unfold szS at hsz; omega
 have hE2 := hE
 obtain ⟨hk8, ⟨pa, pc, rfl, hpc1, hpc2, hpg⟩, ⟨na, nc, rfl, hnc1, hnc2, hng⟩, ⟨ba, bc, rfl, hbc1, hbc2, hbg⟩⟩ := hE2
 unfold maxLen at hpc2 hnc2 hbc2
 obtain ⟨x, hx⟩ := pack hA (show EsIn B w _ exprs from hE.2.1) hB hG 0 (by omega) hszx
 have hT : simpleT 0 name (txEs exprs) = [108, 101, 116, 32] ++ name.data.toList ++ [32, 61, 32] ++ pt (txEs exprs) 0 := rfl
 rw [hT] at hl ⊢
 clear hT
 generalize pt (txEs exprs) 0 = T at hl hx ⊢
 have hnm : name.data.toList.length = name.size := rfl
 have hlT : l.length + T.length + name.size + 7 ≤ 1000000000 := by have h2 := hnm; simp at hl h2; omega
 obtain ⟨op2, num2, text2, a2, b2, c2, n1, m1, n2, m2, n3, m3, rfl⟩ := hx.six
 have HX : Hid (Pk B w (.slice pa exprs.length pc) 0 T (.agg #[.int .i64 op2, .int .i64 num2, .string text2, .slice a2 n1 m1, .slice b2 n2 m2, .slice c2 n3 m3])) := hx
 have HR0 : Hid (Bt B w v l) := hR
 clear hE hl hA hsz hszx hszb hsze hR hG hpc1 hpc2 hpg hnc1 hnc2 hng hbc1 hbg hx hbc2 hnm
 unfold stV
 go_enter Tryz.func78, Tryz.ntmps78
 go_wp2_with fail
 obtain ⟨w1, hw1⟩ : ∃ w1, w1 = w.alloc (.cells #[.int .i64 0, .string name, .slice pa exprs.length pc, .slice na body.length nc, .slice ba els.length bc, .int .i64 pos] 60) := ⟨_, rfl⟩
 obtain ⟨gb, hgb⟩ : ∃ gb, gb = w.heap.size := ⟨_, rfl⟩
 have HBW1 : Hid (Below w.heap.size w w1) := by rw [hw1]; exact (Below.refl _ _).alloc (Nat.le_refl _) _
 have HBX1 : Hid (w1.heap[gb]? = some (.cells #[.int .i64 0, .string name, .slice pa exprs.length pc, .slice na body.length nc, .slice ba els.length bc, .int .i64 pos] 60 (0, 0))) := by rw [hw1, hgb]; exact heap_alloc_new _ _
 rw [← hw1, ← hgb]
 clear hw1 hgb
 refine (HX.out.part _ (HBW1.out.mono hB)).mono ?_
 rintro e w2 ⟨rfl, b2w⟩
 have HBW2 : Hid (Below w.heap.size w w2) := HBW1.out.trans (b2w.mono HBW1.out.size)
 have HBX2 : Hid (w2.heap[gb]? = some (.cells #[.int .i64 0, .string name, .slice pa exprs.length pc, .slice na body.length nc, .slice ba els.length bc, .int .i64 pos] 60 (0, 0))) := by show _ = _; rw [b2w.block gb (Array.getElem?_eq_some_iff.1 HBX1.out).1]; exact HBX1.out
 clear b2w HBX1 HBW1
 have hbx2 := HBX2.out
 have hcx : w2.cell? ⟨gb, 0, none⟩ = some (.int .i64 0) := by simp [World.cell?, hbx2]
 have hgb2 : gb < w2.heap.size := (Array.getElem?_eq_some_iff.1 hbx2).1
 have hcy : w2.cell? ⟨gb, 1, none⟩ = some (.string name) := by simp [World.cell?, hbx2]
 clear hbx2
 go_wp2_with fail
 obtain ⟨w3, hw3⟩ : ∃ w3, w3 = w2.alloc (.cells #[.int .i64 op2, .int .i64 num2, .string text2, .slice a2 n1 m1, .slice b2 n2 m2, .slice c2 n3 m3] 65) := ⟨_, rfl⟩
 obtain ⟨gv, hgv⟩ : ∃ gv, gv = w2.heap.size := ⟨_, rfl⟩
 have HBW : Hid (Below w.heap.size w w3) := by rw [hw3]; exact HBW2.out.alloc HBW2.out.size _
 have HBX : Hid (w3.heap[gb]? = some (.cells #[.int .i64 0, .string name, .slice pa exprs.length pc, .slice na body.length nc, .slice ba els.length bc, .int .i64 pos] 60 (0, 0))) := by show _ = _; rw [hw3, Below.heap_alloc _ _ _ hgb2]; exact HBX2.out
 have HBV : Hid (w3.heap[gv]? = some (.cells #[.int .i64 op2, .int .i64 num2, .string text2, .slice a2 n1 m1, .slice b2 n2 m2, .slice c2 n3 m3] 65 (0, 0))) := by rw [hw3, hgv]; exact heap_alloc_new _ _
 have hwv : w.heap.size ≤ gv := by rw [hgv]; exact HBW2.out.size
 have HR : Hid (Bt B w3 v l) := by rw [hw3]; exact (HR0.out.below HBW2.out).alloc _
 have hB1 : B ≤ w3.heap.size := Nat.le_trans hB HBW.out.size
 rw [← hw3, ← hgv]
 clear hw3 hgv HBX2 hcx hgb2 hcy
 refine region_sh (valL v gb (.string name)) (JC B w3 v l [(1, 14, (⟨#[108, 101, 116, 32]⟩ : ByteArray).data.toList), (4, 17, name.data.toList), (5, 18, (⟨#[32, 61, 32]⟩ : ByteArray).data.toList), (6, 0, [])] 1000 1000 1001 [] 6 0) (by kernel_rfl) (by kernel_rfl) (by kernel_rfl) (JC.start HR.out _ rfl) ?_ ?_
 ·intro hon q hq L a1 W hC hl hBh hS hJ K hK
  have hqn : q < 7 := hq
  clear hq
  rcases (show q = 0 ∨ q = 1 ∨ q = 2 ∨ q = 3 ∨ q = 4 ∨ q = 5 ∨ q = 6 from by omega) with rfl | rfl | rfl | rfl | rfl | rfl | rfl
  ·have hz : L 6 = false := closed_not hC hl (i := 6) (j := 0) rfl (g := .phase) (by simp) rfl
   have e0 := (eval_tmp a1 0).symm.trans (hJ.s0 hz)
   refine wpOp_step rfl (fun K' hK' => ?_)
   go_simp
   exact hK' _ _ (hK _ _ (hS.put hon (i := 0) rfl rfl (fun u hu => by cases hu; rfl)) (hJ.pure (by simp) (by decide)))
  ·have n4 : L 4 = false := closed_not hC hl (i := 4) (j := 1) rfl (g := .data) (by simp) rfl
   have n5 : L 5 = false := closed_not hC n4 (i := 5) (j := 4) rfl (g := .data) (by simp) rfl
   have n6 : L 6 = false := closed_not hC n5 (i := 6) (j := 5) rfl (g := .data) (by simp) rfl
   have hx : curX L l [(1, 14, (⟨#[108, 101, 116, 32]⟩ : ByteArray).data.toList), (4, 17, name.data.toList), (5, 18, (⟨#[32, 61, 32]⟩ : ByteArray).data.toList), (6, 0, [])] = l := by simp [curX, hl]
   have e13 := (hS.get hBh (i := 1) rfl 0 (by simp) rfl rfl rfl)
   have ek : ∀ c, a1.eval (Operand.const c) = c := fun c => rfl
   obtain ⟨u, W2, hrun, hT⟩ := hJ.str (C1 := []) (C2 := [(4, 17, name.data.toList), (5, 18, (⟨#[32, 61, 32]⟩ : ByteArray).data.toList), (6, 0, [])]) (s := (⟨#[108, 101, 116, 32]⟩ : ByteArray)) hB1 (by rw [hS.size]; exact (by decide : (14 : Nat) < 47)) (by simp) hl (by simp [n4, n5, n6]) (by decide) (vc := v) (by simp [cur, hl]) (by refine Nat.le_trans (Nat.add_le_add_right (Nat.le_of_eq (congrArg List.length hx)) _) ?_; first | omega | (show _ + 4 ≤ _; first | omega | (simp; omega)) | (show _ + 3 ≤ _; first | omega | (simp; omega)) | (simp; omega)) 73
   refine wpOp_run rfl rfl (v := u) (w' := W2) ?_ (hK _ _ (hS.put hon (i := 1) rfl rfl (fun u hu => by cases hu)) hT)
   simp [execOp, resolve, invoke, builtin, e13, ek, hrun, Result.andThen]
  ·have e3 := (eval_tmp a1 3).symm.trans ((hS.kept 3 (by kernel_rfl)).trans rfl)
   refine wpOp_step rfl (fun K' hK' => ?_)
   go_simp
   exact hK' _ _ (hK _ _ (hS.put hon (i := 2) rfl rfl (fun u hu => by cases hu; rfl)) (hJ.pure (by simp) (by decide)))
  ·have e15 := (eval_tmp a1 15).symm.trans (hS.get hBh (i := 3) rfl 2 (by simp) rfl rfl rfl)
   have hbx : W.heap[gb]? = _ := HR.out.block (hJ.gr) HBX.out (by decide)
   have hcl2 : W.cell? ⟨gb, 1, none⟩ = some (.string name) := by simp [World.cell?, hbx]
   refine wpOp_step rfl (fun K' hK' => ?_)
   go_simp
   exact hK' _ _ (hK _ _ (hS.put hon (i := 3) rfl rfl (fun u hu => by cases hu; rfl)) (hJ.pure (by simp) (by decide)))
  ·have d1 : L 1 = true := hBh _ rfl ⟨1, .data⟩ (by simp) rfl
   have n5 : L 5 = false := closed_not hC hl (i := 5) (j := 4) rfl (g := .data) (by simp) rfl
   have n6 : L 6 = false := closed_not hC n5 (i := 6) (j := 5) rfl (g := .data) (by simp) rfl
   obtain ⟨vc, hvc⟩ : ∃ x, a1.eval (.tmp 14) = x := ⟨_, rfl⟩
   have hx : curX L l [(1, 14, (⟨#[108, 101, 116, 32]⟩ : ByteArray).data.toList), (4, 17, name.data.toList), (5, 18, (⟨#[32, 61, 32]⟩ : ByteArray).data.toList), (6, 0, [])] = l ++ ((⟨#[108, 101, 116, 32]⟩ : ByteArray).data.toList) := by simp [curX, d1, hl]
   have e16 := (hS.get hBh (i := 4) rfl 3 (by simp) rfl rfl rfl)
   obtain ⟨u, W2, hrun, hT⟩ := hJ.str (C1 := [(1, 14, (⟨#[108, 101, 116, 32]⟩ : ByteArray).data.toList)]) (C2 := [(5, 18, (⟨#[32, 61, 32]⟩ : ByteArray).data.toList), (6, 0, [])]) (s := name) hB1 (by rw [hS.size]; exact (by decide : (17 : Nat) < 47)) (by simp [d1]) hl (by simp [n5, n6]) (by decide) (vc := vc) (by rw [← hvc]; simp [cur, d1, hl]) (by refine Nat.le_trans (Nat.add_le_add_right (Nat.le_of_eq (congrArg List.length hx)) _) ?_; first | omega | (show _ + 4 ≤ _; first | omega | (simp; omega)) | (show _ + 3 ≤ _; first | omega | (simp; omega)) | (simp; omega)) 73
   refine wpOp_run rfl rfl (v := u) (w' := W2) ?_ (hK _ _ (hS.put hon (i := 4) rfl rfl (fun u hu => by cases hu)) hT)
   simp [execOp, resolve, invoke, builtin, e16, hvc, hrun, Result.andThen]
  ·have d4 : L 4 = true := hBh _ rfl ⟨4, .data⟩ (by simp) rfl
   have d1 : L 1 = true := hC 4 _ rfl d4 ⟨1, .data⟩ (by simp) rfl
   have n6 : L 6 = false := closed_not hC hl (i := 6) (j := 5) rfl (g := .data) (by simp) rfl
   obtain ⟨vc, hvc⟩ : ∃ x, a1.eval (.tmp 17) = x := ⟨_, rfl⟩
   have hx : curX L l [(1, 14, (⟨#[108, 101, 116, 32]⟩ : ByteArray).data.toList), (4, 17, name.data.toList), (5, 18, (⟨#[32, 61, 32]⟩ : ByteArray).data.toList), (6, 0, [])] = l ++ ((⟨#[108, 101, 116, 32]⟩ : ByteArray).data.toList) ++ (name.data.toList) := by simp [curX, d1, d4, hl, List.append_assoc]
   have ek : ∀ c, a1.eval (Operand.const c) = c := fun c => rfl
   obtain ⟨u, W2, hrun, hT⟩ := hJ.str (C1 := [(1, 14, (⟨#[108, 101, 116, 32]⟩ : ByteArray).data.toList), (4, 17, name.data.toList)]) (C2 := [(6, 0, [])]) (s := (⟨#[32, 61, 32]⟩ : ByteArray)) hB1 (by rw [hS.size]; exact (by decide : (18 : Nat) < 47)) (by simp [d1, d4]) hl (by simp [n6]) (by decide) (vc := vc) (by rw [← hvc]; simp [cur, d1, d4, hl]) (by refine Nat.le_trans (Nat.add_le_add_right (Nat.le_of_eq (congrArg List.length hx)) _) ?_; first | omega | (show _ + 4 ≤ _; first | omega | (simp; omega)) | (show _ + 3 ≤ _; first | omega | (simp; omega)) | (simp; omega)) 73
   refine wpOp_run rfl rfl (v := u) (w' := W2) ?_ (hK _ _ (hS.put hon (i := 5) rfl rfl (fun u hu => by cases hu)) hT)
   simp [execOp, resolve, invoke, builtin, hvc, ek, hrun, Result.andThen]
  ·have d5 : L 5 = true := hBh _ rfl ⟨5, .data⟩ (by simp) rfl
   have d4 : L 4 = true := hBh _ rfl ⟨4, .phase⟩ (by simp) rfl
   have d1 : L 1 = true := hBh _ rfl ⟨1, .phase⟩ (by simp) rfl
   obtain ⟨vc, hvc⟩ : ∃ x, a1.eval (.tmp 18) = x := ⟨_, rfl⟩
   have hx : curX L l [(1, 14, (⟨#[108, 101, 116, 32]⟩ : ByteArray).data.toList), (4, 17, name.data.toList), (5, 18, (⟨#[32, 61, 32]⟩ : ByteArray).data.toList), (6, 0, [])] = l ++ ((⟨#[108, 101, 116, 32]⟩ : ByteArray).data.toList) ++ (name.data.toList) ++ ((⟨#[32, 61, 32]⟩ : ByteArray).data.toList) := by simp [curX, d1, d4, d5, hl, List.append_assoc]
   have e9 := (eval_tmp a1 18).symm.trans hvc
   refine wpOp_step rfl (fun K' hK' => ?_)
   go_simp
   exact hK' _ _ (hK _ _ (hS.put hon (i := 6) rfl rfl (fun u hu => by cases hu)) (hJ.hand (C1 := [(1, 14, (⟨#[108, 101, 116, 32]⟩ : ByteArray).data.toList), (4, 17, name.data.toList), (5, 18, (⟨#[32, 61, 32]⟩ : ByteArray).data.toList)]) (C2 := []) (by rw [hS.size]; exact (by decide : (0 : Nat) < 47)) (by simp [d1, d4, d5]) hl (by simp) (by decide) (by rw [← hvc]; simp [cur, d1, d4, d5, hl])))
 ·intro L a1 w4 hl hS hJ
  have d1 : L 1 = true := hl 1 (by decide)
  have d4 : L 4 = true := hl 4 (by decide)
  have d5 : L 5 = true := hl 5 (by decide)
  have d6 : L 6 = true := hl 6 (by decide)
  have hcu : cur L a1 v [(1, 14, (⟨#[108, 101, 116, 32]⟩ : ByteArray).data.toList), (4, 17, name.data.toList), (5, 18, (⟨#[32, 61, 32]⟩ : ByteArray).data.toList), (6, 0, [])] = a1.eval (.tmp 0) := by simp [cur, d1, d4, d5, d6]
  have hx : curX L l [(1, 14, (⟨#[108, 101, 116, 32]⟩ : ByteArray).data.toList), (4, 17, name.data.toList), (5, 18, (⟨#[32, 61, 32]⟩ : ByteArray).data.toList), (6, 0, [])] = l ++ ((⟨#[108, 101, 116, 32]⟩ : ByteArray).data.toList) ++ (name.data.toList) ++ ((⟨#[32, 61, 32]⟩ : ByteArray).data.toList) := by simp [curX, d1, d4, d5, d6, List.append_assoc]
  have hrow := hJ.row
  have hgr := hJ.gr
  rw [hcu] at hgr
  rw [hcu, hx] at hrow
  have hfr := hS.frame [13, 14, 15, 16, 17, 18, 0] rfl
  refine (‹∀ (a : Act) (w : World), Code.wp Tryz.prog _ _ a w → _› a1 w4 ?_)
  obtain ⟨z, hz⟩ : ∃ z : Nat → Value, z = fun k => a1.eval (.tmp k) := ⟨_, rfl⟩
  rw [← hz] at hfr
  have ze : a1.eval (.tmp 0) = z 0 := by rw [hz]
  rw [ze] at hrow hgr
  rw [hfr]
  clear hfr ze hz hS hJ hcu hx hl d1 d4 d5 d6
  simp only [over, List.setIfInBounds_toArray, List.set_cons_zero, List.set_cons_succ]
  obtain ⟨v4, hv⟩ : ∃ u, z 0 = u := ⟨_, rfl⟩
  rw [hv] at hrow hgr ⊢
  clear hv
  have r4 := hrow
  have g4 := hgr
  clear hrow hgr
  have HR4 : Hid (Bt B w4 v4 (l ++ [108, 101, 116, 32] ++ name.data.toList ++ [32, 61, 32])) := by show Bt _ _ _ _; simpa using r4
  have HG4 : Hid (Gr w3 w4 v v4) := by show Gr _ _ _ _; exact (Gr.refl _ _).trans g4
  have hB4 : B ≤ w4.heap.size := Nat.le_trans hB1 HG4.out.size
  clear r4 g4
  have hbv : w4.heap[gv]? = _ := HR.out.block (HG4.out) HBV.out (by decide)
  have hv0 : w4.cell? ⟨gv, 0, none⟩ = some (.int .i64 op2) := by simp [World.cell?, hbv]
  have hv1 : w4.cell? ⟨gv, 1, none⟩ = some (.int .i64 num2) := by simp [World.cell?, hbv]
  have hv2 : w4.cell? ⟨gv, 2, none⟩ = some (.string text2) := by simp [World.cell?, hbv]
  have hv3 : w4.cell? ⟨gv, 3, none⟩ = some (.slice a2 n1 m1) := by simp [World.cell?, hbv]
  have hv4 : w4.cell? ⟨gv, 4, none⟩ = some (.slice b2 n2 m2) := by simp [World.cell?, hbv]
  have hv5 : w4.cell? ⟨gv, 5, none⟩ = some (.slice c2 n3 m3) := by simp [World.cell?, hbv]
  clear hbv
  go_wp2_with fail
  refine (HX.out.add _ _ _ HR4.out hB4 ((HBW.out.mono hB).trans (HR.out.bel (HG4.out) hB1)) (by first | omega | (simp; omega))).mono ?_
  rintro e w5 ⟨v5, rfl, r5, g5⟩
  have HR5 : Hid (Bt B w5 v5 (l ++ [108, 101, 116, 32] ++ name.data.toList ++ [32, 61, 32] ++ T)) := by show Bt _ _ _ _; simpa using r5
  have HG5 : Hid (Gr w3 w5 v v5) := by show Gr _ _ _ _; exact (HG4.out).trans g5
  have hB5 : B ≤ w5.heap.size := Nat.le_trans hB1 HG5.out.size
  clear r5 g5
  have HRz : Hid (Bt B w5 v5 (l ++ ([108, 101, 116, 32] ++ name.data.toList ++ [32, 61, 32] ++ T))) := by show Bt _ _ _ _; simpa using HR5.out
  have HGz : Hid (Gr w w5 v v5) := by show Gr _ _ _ _; exact (HG5.out).pre HBW.out (fun k hk => (HR0.out.lt k hk).2)
  go_wp2
  go_ret
  exact ⟨v5, rfl, HRz.out, HGz.out⟩
theorem addSimpleSet {n : Nat} (hA : Small n) {name : ByteArray} {exprs : List TE} {body els : List TS} {pos : Int} (hsz : szS (.mk 1 name exprs body els pos) ≤ n)
 {B : Nat} {w : World} {v : Value} {l : Bs} {vx vb ve : Value} (hR : Bt B w v l) (hB : B ≤ w.heap.size) (hG : Lg B w) (hE : SIn (· < B) w (.mk 1 name exprs body els pos) vx vb ve) (hl : l.length + (simpleT 1 name (txEs exprs)).length ≤ 1000000000) :
 Calls Tryz.prog 78 #[v, stV (.mk 1 name exprs body els pos) vx vb ve] w fun en w' => ∃ v', en = .returned v' ∧ Bt B w' v' (l ++ simpleT 1 name (txEs exprs)) ∧ Gr w w' v v' := by
 have hszx : szEs exprs < n := by unfold szS at hsz; omega
 have hszb : szSs body < n := by unfold szS at hsz; omega
 have hsze : szSs els < n := by unfold szS at hsz; omega
 have hE2 := hE
 obtain ⟨hk8, ⟨pa, pc, rfl, hpc1, hpc2, hpg⟩, ⟨na, nc, rfl, hnc1, hnc2, hng⟩, ⟨ba, bc, rfl, hbc1, hbc2, hbg⟩⟩ := hE2
 unfold maxLen at hpc2 hnc2 hbc2
 obtain ⟨x, hx⟩ := pack hA (show EsIn B w _ exprs from hE.2.1) hB hG 0 (by omega) hszx
 have hT : simpleT 1 name (txEs exprs) = name.data.toList ++ [32, 61, 32] ++ pt (txEs exprs) 0 := rfl
 rw [hT] at hl ⊢
 clear hT
 generalize pt (txEs exprs) 0 = T at hl hx ⊢
 have hnm : name.data.toList.length = name.size := rfl
 have hlT : l.length + T.length + name.size + 3 ≤ 1000000000 := by have h2 := hnm; simp at hl h2; omega
 obtain ⟨op2, num2, text2, a2, b2, c2, n1, m1, n2, m2, n3, m3, rfl⟩ := hx.six
 have HX : Hid (Pk B w (.slice pa exprs.length pc) 0 T (.agg #[.int .i64 op2, .int .i64 num2, .string text2, .slice a2 n1 m1, .slice b2 n2 m2, .slice c2 n3 m3])) := hx
 have HR0 : Hid (Bt B w v l) := hR
 clear hE hl hA hsz hszx hszb hsze hR hG hpc1 hpc2 hpg hnc1 hnc2 hng hbc1 hbg hx hbc2 hnm
 unfold stV
 go_enter Tryz.func78, Tryz.ntmps78
 go_wp2_with fail
 obtain ⟨w1, hw1⟩ : ∃ w1, w1 = w.alloc (.cells #[.int .i64 1, .string name, .slice pa exprs.length pc, .slice na body.length nc, .slice ba els.length bc, .int .i64 pos] 60) := ⟨_, rfl⟩
 obtain ⟨gb, hgb⟩ : ∃ gb, gb = w.heap.size := ⟨_, rfl⟩
 have HBW1 : Hid (Below w.heap.size w w1) := by rw [hw1]; exact (Below.refl _ _).alloc (Nat.le_refl _) _
 have HBX1 : Hid (w1.heap[gb]? = some (.cells #[.int .i64 1, .string name, .slice pa exprs.length pc, .slice na body.length nc, .slice ba els.length bc, .int .i64 pos] 60 (0, 0))) := by rw [hw1, hgb]; exact heap_alloc_new _ _
 rw [← hw1, ← hgb]
 clear hw1 hgb
 refine (HX.out.part _ (HBW1.out.mono hB)).mono ?_
 rintro e w2 ⟨rfl, b2w⟩
 have HBW2 : Hid (Below w.heap.size w w2) := HBW1.out.trans (b2w.mono HBW1.out.size)
 have HBX2 : Hid (w2.heap[gb]? = some (.cells #[.int .i64 1, .string name, .slice pa exprs.length pc, .slice na body.length nc, .slice ba els.length bc, .int .i64 pos] 60 (0, 0))) := by show _ = _; rw [b2w.block gb (Array.getElem?_eq_some_iff.1 HBX1.out).1]; exact HBX1.out
 clear b2w HBX1 HBW1
 have hbx2 := HBX2.out
 have hcx : w2.cell? ⟨gb, 0, none⟩ = some (.int .i64 1) := by simp [World.cell?, hbx2]
 have hgb2 : gb < w2.heap.size := (Array.getElem?_eq_some_iff.1 hbx2).1
 have hcy : w2.cell? ⟨gb, 1, none⟩ = some (.string name) := by simp [World.cell?, hbx2]
 clear hbx2
 go_wp2_with (at_builtin; refine Hid.out ?_)
 refine Lib.hid ?_
 obtain ⟨w3, hw3⟩ : ∃ w3, w3 = w2.alloc (.cells #[.int .i64 op2, .int .i64 num2, .string text2, .slice a2 n1 m1, .slice b2 n2 m2, .slice c2 n3 m3] 65) := ⟨_, rfl⟩
 obtain ⟨gv, hgv⟩ : ∃ gv, gv = w2.heap.size := ⟨_, rfl⟩
 have HBW : Hid (Below w.heap.size w w3) := by rw [hw3]; exact HBW2.out.alloc HBW2.out.size _
 have HBX : Hid (w3.heap[gb]? = some (.cells #[.int .i64 1, .string name, .slice pa exprs.length pc, .slice na body.length nc, .slice ba els.length bc, .int .i64 pos] 60 (0, 0))) := by show _ = _; rw [hw3, Below.heap_alloc _ _ _ hgb2]; exact HBX2.out
 have HBV : Hid (w3.heap[gv]? = some (.cells #[.int .i64 op2, .int .i64 num2, .string text2, .slice a2 n1 m1, .slice b2 n2 m2, .slice c2 n3 m3] 65 (0, 0))) := by rw [hw3, hgv]; exact heap_alloc_new _ _
 have hwv : w.heap.size ≤ gv := by rw [hgv]; exact HBW2.out.size
 have HR : Hid (Bt B w3 v l) := by rw [hw3]; exact (HR0.out.below HBW2.out).alloc _
 have hB1 : B ≤ w3.heap.size := Nat.le_trans hB HBW.out.size
 rw [← hw3, ← hgv]
 clear hw3 hgv HBX2 hcx hgb2 hcy
 refine wpList_app_str rfl (.tmp 21) (.tmp 23) rfl rfl HR.out hB1 name rfl (by show _ + name.size ≤ _; first | omega | (simp; omega)) ?_
 intro v4 w4 r4 g4
 have HR4 : Hid (Bt B w4 v4 (l ++ name.data.toList)) := by show Bt _ _ _ _; simpa using r4
 have HG4 : Hid (Gr w3 w4 v v4) := by show Gr _ _ _ _; exact (Gr.refl _ _).trans g4
 have hB4 : B ≤ w4.heap.size := Nat.le_trans hB1 HG4.out.size
 clear r4 g4
 go_wp2_with (at_builtin; refine wpList_app_str rfl (.tmp 24) _ rfl rfl HR4.out hB4 ⟨#[32, 61, 32]⟩ rfl (by show _ + 3 ≤ _; first | omega | (simp; omega)) ?_)
 intro v5 w5 r5 g5
 have HR5 : Hid (Bt B w5 v5 (l ++ name.data.toList ++ [32, 61, 32])) := by show Bt _ _ _ _; simpa using r5
 have HG5 : Hid (Gr w3 w5 v v5) := by show Gr _ _ _ _; exact (HG4.out).trans g5
 have hB5 : B ≤ w5.heap.size := Nat.le_trans hB1 HG5.out.size
 clear r5 g5
 have hbv : w5.heap[gv]? = _ := HR.out.block (HG5.out) HBV.out (by decide)
 have hv0 : w5.cell? ⟨gv, 0, none⟩ = some (.int .i64 op2) := by simp [World.cell?, hbv]
 have hv1 : w5.cell? ⟨gv, 1, none⟩ = some (.int .i64 num2) := by simp [World.cell?, hbv]
 have hv2 : w5.cell? ⟨gv, 2, none⟩ = some (.string text2) := by simp [World.cell?, hbv]
 have hv3 : w5.cell? ⟨gv, 3, none⟩ = some (.slice a2 n1 m1) := by simp [World.cell?, hbv]
 have hv4 : w5.cell? ⟨gv, 4, none⟩ = some (.slice b2 n2 m2) := by simp [World.cell?, hbv]
 have hv5 : w5.cell? ⟨gv, 5, none⟩ = some (.slice c2 n3 m3) := by simp [World.cell?, hbv]
 clear hbv
 go_wp2_with fail
 refine (HX.out.add _ _ _ HR5.out hB5 ((HBW.out.mono hB).trans (HR.out.bel (HG5.out) hB1)) (by first | omega | (simp; omega))).mono ?_
 rintro e w6 ⟨v6, rfl, r6, g6⟩
 have HR6 : Hid (Bt B w6 v6 (l ++ name.data.toList ++ [32, 61, 32] ++ T)) := by show Bt _ _ _ _; simpa using r6
 have HG6 : Hid (Gr w3 w6 v v6) := by show Gr _ _ _ _; exact (HG5.out).trans g6
 have hB6 : B ≤ w6.heap.size := Nat.le_trans hB1 HG6.out.size
 clear r6 g6
 have HRz : Hid (Bt B w6 v6 (l ++ (name.data.toList ++ [32, 61, 32] ++ T))) := by show Bt _ _ _ _; simpa using HR6.out
 have HGz : Hid (Gr w w6 v v6) := by show Gr _ _ _ _; exact (HG6.out).pre HBW.out (fun k hk => (HR0.out.lt k hk).2)
 go_wp2
 go_ret
 exact ⟨v6, rfl, HRz.out, HGz.out⟩
theorem addSimpleRet {n : Nat} (hA : Small n) {name : ByteArray} {exprs : List TE} {body els : List TS} {pos : Int} (hsz : szS (.mk 5 name exprs body els pos) ≤ n)
 {B : Nat} {w : World} {v : Value} {l : Bs} {vx vb ve : Value} (hR : Bt B w v l) (hB : B ≤ w.heap.size) (hG : Lg B w) (hE : SIn (· < B) w (.mk 5 name exprs body els pos) vx vb ve) (hl : l.length + (simpleT 5 name (txEs exprs)).length ≤ 1000000000) :
 Calls Tryz.prog 78 #[v, stV (.mk 5 name exprs body els pos) vx vb ve] w fun en w' => ∃ v', en = .returned v' ∧ Bt B w' v' (l ++ simpleT 5 name (txEs exprs)) ∧ Gr w w' v v' := by
 have hszx : szEs exprs < n := by unfold szS at hsz; omega
 have hszb : szSs body < n := by unfold szS at hsz; omega
 have hsze : szSs els < n := by unfold szS at hsz; omega
 have hE2 := hE
 obtain ⟨hk8, ⟨pa, pc, rfl, hpc1, hpc2, hpg⟩, ⟨na, nc, rfl, hnc1, hnc2, hng⟩, ⟨ba, bc, rfl, hbc1, hbc2, hbg⟩⟩ := hE2
 unfold maxLen at hpc2 hnc2 hbc2
 obtain ⟨x, hx⟩ := pack hA (show EsIn B w _ exprs from hE.2.1) hB hG 0 (by omega) hszx
 have hT : simpleT 5 name (txEs exprs) = [114, 101, 116, 117, 114, 110, 32] ++ pt (txEs exprs) 0 := rfl
 rw [hT] at hl ⊢
 clear hT
 generalize pt (txEs exprs) 0 = T at hl hx ⊢
 have hnm : name.data.toList.length = name.size := rfl
 have hlT : l.length + T.length + 7 ≤ 1000000000 := by have h2 := hnm; simp at hl h2; omega
 obtain ⟨op2, num2, text2, a2, b2, c2, n1, m1, n2, m2, n3, m3, rfl⟩ := hx.six
 have HX : Hid (Pk B w (.slice pa exprs.length pc) 0 T (.agg #[.int .i64 op2, .int .i64 num2, .string text2, .slice a2 n1 m1, .slice b2 n2 m2, .slice c2 n3 m3])) := hx
 have HR0 : Hid (Bt B w v l) := hR
 clear hE hl hA hsz hszx hszb hsze hR hG hpc1 hpc2 hpg hnc1 hnc2 hng hbc1 hbg hx hbc2 hnm
 unfold stV
 go_enter Tryz.func78, Tryz.ntmps78
 go_wp2_with fail
 obtain ⟨w1, hw1⟩ : ∃ w1, w1 = w.alloc (.cells #[.int .i64 5, .string name, .slice pa exprs.length pc, .slice na body.length nc, .slice ba els.length bc, .int .i64 pos] 60) := ⟨_, rfl⟩
 obtain ⟨gb, hgb⟩ : ∃ gb, gb = w.heap.size := ⟨_, rfl⟩
 have HBW1 : Hid (Below w.heap.size w w1) := by rw [hw1]; exact (Below.refl _ _).alloc (Nat.le_refl _) _
 have HBX1 : Hid (w1.heap[gb]? = some (.cells #[.int .i64 5, .string name, .slice pa exprs.length pc, .slice na body.length nc, .slice ba els.length bc, .int .i64 pos] 60 (0, 0))) := by rw [hw1, hgb]; exact heap_alloc_new _ _
 rw [← hw1, ← hgb]
 clear hw1 hgb
 refine (HX.out.part _ (HBW1.out.mono hB)).mono ?_
 rintro e w2 ⟨rfl, b2w⟩
 have HBW2 : Hid (Below w.heap.size w w2) := HBW1.out.trans (b2w.mono HBW1.out.size)
 have HBX2 : Hid (w2.heap[gb]? = some (.cells #[.int .i64 5, .string name, .slice pa exprs.length pc, .slice na body.length nc, .slice ba els.length bc, .int .i64 pos] 60 (0, 0))) := by show _ = _; rw [b2w.block gb (Array.getElem?_eq_some_iff.1 HBX1.out).1]; exact HBX1.out
 clear b2w HBX1 HBW1
 have hbx2 := HBX2.out
 have hcx : w2.cell? ⟨gb, 0, none⟩ = some (.int .i64 5) := by simp [World.cell?, hbx2]
 have hgb2 : gb < w2.heap.size := (Array.getElem?_eq_some_iff.1 hbx2).1
 clear hbx2
 go_wp2_with (at_builtin; refine Hid.out ?_)
 refine Lib.hid ?_
 obtain ⟨w3, hw3⟩ : ∃ w3, w3 = w2.alloc (.cells #[.int .i64 op2, .int .i64 num2, .string text2, .slice a2 n1 m1, .slice b2 n2 m2, .slice c2 n3 m3] 65) := ⟨_, rfl⟩
 obtain ⟨gv, hgv⟩ : ∃ gv, gv = w2.heap.size := ⟨_, rfl⟩
 have HBW : Hid (Below w.heap.size w w3) := by rw [hw3]; exact HBW2.out.alloc HBW2.out.size _
 have HBX : Hid (w3.heap[gb]? = some (.cells #[.int .i64 5, .string name, .slice pa exprs.length pc, .slice na body.length nc, .slice ba els.length bc, .int .i64 pos] 60 (0, 0))) := by show _ = _; rw [hw3, Below.heap_alloc _ _ _ hgb2]; exact HBX2.out
 have HBV : Hid (w3.heap[gv]? = some (.cells #[.int .i64 op2, .int .i64 num2, .string text2, .slice a2 n1 m1, .slice b2 n2 m2, .slice c2 n3 m3] 65 (0, 0))) := by rw [hw3, hgv]; exact heap_alloc_new _ _
 have hwv : w.heap.size ≤ gv := by rw [hgv]; exact HBW2.out.size
 have HR : Hid (Bt B w3 v l) := by rw [hw3]; exact (HR0.out.below HBW2.out).alloc _
 have hB1 : B ≤ w3.heap.size := Nat.le_trans hB HBW.out.size
 rw [← hw3, ← hgv]
 clear hw3 hgv HBX2 hcx hgb2
 refine wpList_app_str rfl (.tmp 38) _ rfl rfl HR.out hB1 ⟨#[114, 101, 116, 117, 114, 110, 32]⟩ rfl (by show _ + 7 ≤ _; first | omega | (simp; omega)) ?_
 intro v4 w4 r4 g4
 have HR4 : Hid (Bt B w4 v4 (l ++ [114, 101, 116, 117, 114, 110, 32])) := by show Bt _ _ _ _; simpa using r4
 have HG4 : Hid (Gr w3 w4 v v4) := by show Gr _ _ _ _; exact (Gr.refl _ _).trans g4
 have hB4 : B ≤ w4.heap.size := Nat.le_trans hB1 HG4.out.size
 clear r4 g4
 have hbv : w4.heap[gv]? = _ := HR.out.block (HG4.out) HBV.out (by decide)
 have hv0 : w4.cell? ⟨gv, 0, none⟩ = some (.int .i64 op2) := by simp [World.cell?, hbv]
 have hv1 : w4.cell? ⟨gv, 1, none⟩ = some (.int .i64 num2) := by simp [World.cell?, hbv]
 have hv2 : w4.cell? ⟨gv, 2, none⟩ = some (.string text2) := by simp [World.cell?, hbv]
 have hv3 : w4.cell? ⟨gv, 3, none⟩ = some (.slice a2 n1 m1) := by simp [World.cell?, hbv]
 have hv4 : w4.cell? ⟨gv, 4, none⟩ = some (.slice b2 n2 m2) := by simp [World.cell?, hbv]
 have hv5 : w4.cell? ⟨gv, 5, none⟩ = some (.slice c2 n3 m3) := by simp [World.cell?, hbv]
 clear hbv
 go_wp2_with fail
 refine (HX.out.add _ _ _ HR4.out hB4 ((HBW.out.mono hB).trans (HR.out.bel (HG4.out) hB1)) (by first | omega | (simp; omega))).mono ?_
 rintro e w5 ⟨v5, rfl, r5, g5⟩
 have HR5 : Hid (Bt B w5 v5 (l ++ [114, 101, 116, 117, 114, 110, 32] ++ T)) := by show Bt _ _ _ _; simpa using r5
 have HG5 : Hid (Gr w3 w5 v v5) := by show Gr _ _ _ _; exact (HG4.out).trans g5
 have hB5 : B ≤ w5.heap.size := Nat.le_trans hB1 HG5.out.size
 clear r5 g5
 have HRz : Hid (Bt B w5 v5 (l ++ ([114, 101, 116, 117, 114, 110, 32] ++ T))) := by show Bt _ _ _ _; simpa using HR5.out
 have HGz : Hid (Gr w w5 v v5) := by show Gr _ _ _ _; exact (HG5.out).pre HBW.out (fun k hk => (HR0.out.lt k hk).2)
 go_wp2
 go_ret
 exact ⟨v5, rfl, HRz.out, HGz.out⟩
theorem addSimpleThr {n : Nat} (hA : Small n) {name : ByteArray} {exprs : List TE} {body els : List TS} {pos : Int} (hsz : szS (.mk 6 name exprs body els pos) ≤ n)
 {B : Nat} {w : World} {v : Value} {l : Bs} {vx vb ve : Value} (hR : Bt B w v l) (hB : B ≤ w.heap.size) (hG : Lg B w) (hE : SIn (· < B) w (.mk 6 name exprs body els pos) vx vb ve) (hl : l.length + (simpleT 6 name (txEs exprs)).length ≤ 1000000000) :
 Calls Tryz.prog 78 #[v, stV (.mk 6 name exprs body els pos) vx vb ve] w fun en w' => ∃ v', en = .returned v' ∧ Bt B w' v' (l ++ simpleT 6 name (txEs exprs)) ∧ Gr w w' v v' := by
 have hszx : szEs exprs < n := by unfold szS at hsz; omega
 have hszb : szSs body < n := by unfold szS at hsz; omega
 have hsze : szSs els < n := by unfold szS at hsz; omega
 have hE2 := hE
 obtain ⟨hk8, ⟨pa, pc, rfl, hpc1, hpc2, hpg⟩, ⟨na, nc, rfl, hnc1, hnc2, hng⟩, ⟨ba, bc, rfl, hbc1, hbc2, hbg⟩⟩ := hE2
 unfold maxLen at hpc2 hnc2 hbc2
 obtain ⟨x, hx⟩ := pack hA (show EsIn B w _ exprs from hE.2.1) hB hG 0 (by omega) hszx
 have hT : simpleT 6 name (txEs exprs) = [116, 104, 114, 111, 119, 32] ++ pt (txEs exprs) 0 := rfl
 rw [hT] at hl ⊢
 clear hT
 generalize pt (txEs exprs) 0 = T at hl hx ⊢
 have hnm : name.data.toList.length = name.size := rfl
 have hlT : l.length + T.length + 6 ≤ 1000000000 := by have h2 := hnm; simp at hl h2; omega
 obtain ⟨op2, num2, text2, a2, b2, c2, n1, m1, n2, m2, n3, m3, rfl⟩ := hx.six
 have HX : Hid (Pk B w (.slice pa exprs.length pc) 0 T (.agg #[.int .i64 op2, .int .i64 num2, .string text2, .slice a2 n1 m1, .slice b2 n2 m2, .slice c2 n3 m3])) := hx
 have HR0 : Hid (Bt B w v l) := hR
 clear hE hl hA hsz hszx hszb hsze hR hG hpc1 hpc2 hpg hnc1 hnc2 hng hbc1 hbg hx hbc2 hnm
 unfold stV
 go_enter Tryz.func78, Tryz.ntmps78
 go_wp2_with fail
 obtain ⟨w1, hw1⟩ : ∃ w1, w1 = w.alloc (.cells #[.int .i64 6, .string name, .slice pa exprs.length pc, .slice na body.length nc, .slice ba els.length bc, .int .i64 pos] 60) := ⟨_, rfl⟩
 obtain ⟨gb, hgb⟩ : ∃ gb, gb = w.heap.size := ⟨_, rfl⟩
 have HBW1 : Hid (Below w.heap.size w w1) := by rw [hw1]; exact (Below.refl _ _).alloc (Nat.le_refl _) _
 have HBX1 : Hid (w1.heap[gb]? = some (.cells #[.int .i64 6, .string name, .slice pa exprs.length pc, .slice na body.length nc, .slice ba els.length bc, .int .i64 pos] 60 (0, 0))) := by rw [hw1, hgb]; exact heap_alloc_new _ _
 rw [← hw1, ← hgb]
 clear hw1 hgb
 refine (HX.out.part _ (HBW1.out.mono hB)).mono ?_
 rintro e w2 ⟨rfl, b2w⟩
 have HBW2 : Hid (Below w.heap.size w w2) := HBW1.out.trans (b2w.mono HBW1.out.size)
 have HBX2 : Hid (w2.heap[gb]? = some (.cells #[.int .i64 6, .string name, .slice pa exprs.length pc, .slice na body.length nc, .slice ba els.length bc, .int .i64 pos] 60 (0, 0))) := by show _ = _; rw [b2w.block gb (Array.getElem?_eq_some_iff.1 HBX1.out).1]; exact HBX1.out
 clear b2w HBX1 HBW1
 have hbx2 := HBX2.out
 have hcx : w2.cell? ⟨gb, 0, none⟩ = some (.int .i64 6) := by simp [World.cell?, hbx2]
 have hgb2 : gb < w2.heap.size := (Array.getElem?_eq_some_iff.1 hbx2).1
 clear hbx2
 go_wp2_with (at_builtin; refine Hid.out ?_)
 refine Lib.hid ?_
 obtain ⟨w3, hw3⟩ : ∃ w3, w3 = w2.alloc (.cells #[.int .i64 op2, .int .i64 num2, .string text2, .slice a2 n1 m1, .slice b2 n2 m2, .slice c2 n3 m3] 65) := ⟨_, rfl⟩
 obtain ⟨gv, hgv⟩ : ∃ gv, gv = w2.heap.size := ⟨_, rfl⟩
 have HBW : Hid (Below w.heap.size w w3) := by rw [hw3]; exact HBW2.out.alloc HBW2.out.size _
 have HBX : Hid (w3.heap[gb]? = some (.cells #[.int .i64 6, .string name, .slice pa exprs.length pc, .slice na body.length nc, .slice ba els.length bc, .int .i64 pos] 60 (0, 0))) := by show _ = _; rw [hw3, Below.heap_alloc _ _ _ hgb2]; exact HBX2.out
 have HBV : Hid (w3.heap[gv]? = some (.cells #[.int .i64 op2, .int .i64 num2, .string text2, .slice a2 n1 m1, .slice b2 n2 m2, .slice c2 n3 m3] 65 (0, 0))) := by rw [hw3, hgv]; exact heap_alloc_new _ _
 have hwv : w.heap.size ≤ gv := by rw [hgv]; exact HBW2.out.size
 have HR : Hid (Bt B w3 v l) := by rw [hw3]; exact (HR0.out.below HBW2.out).alloc _
 have hB1 : B ≤ w3.heap.size := Nat.le_trans hB HBW.out.size
 rw [← hw3, ← hgv]
 clear hw3 hgv HBX2 hcx hgb2
 refine wpList_app_str rfl (.tmp 42) _ rfl rfl HR.out hB1 ⟨#[116, 104, 114, 111, 119, 32]⟩ rfl (by show _ + 6 ≤ _; first | omega | (simp; omega)) ?_
 intro v4 w4 r4 g4
 have HR4 : Hid (Bt B w4 v4 (l ++ [116, 104, 114, 111, 119, 32])) := by show Bt _ _ _ _; simpa using r4
 have HG4 : Hid (Gr w3 w4 v v4) := by show Gr _ _ _ _; exact (Gr.refl _ _).trans g4
 have hB4 : B ≤ w4.heap.size := Nat.le_trans hB1 HG4.out.size
 clear r4 g4
 have hbv : w4.heap[gv]? = _ := HR.out.block (HG4.out) HBV.out (by decide)
 have hv0 : w4.cell? ⟨gv, 0, none⟩ = some (.int .i64 op2) := by simp [World.cell?, hbv]
 have hv1 : w4.cell? ⟨gv, 1, none⟩ = some (.int .i64 num2) := by simp [World.cell?, hbv]
 have hv2 : w4.cell? ⟨gv, 2, none⟩ = some (.string text2) := by simp [World.cell?, hbv]
 have hv3 : w4.cell? ⟨gv, 3, none⟩ = some (.slice a2 n1 m1) := by simp [World.cell?, hbv]
 have hv4 : w4.cell? ⟨gv, 4, none⟩ = some (.slice b2 n2 m2) := by simp [World.cell?, hbv]
 have hv5 : w4.cell? ⟨gv, 5, none⟩ = some (.slice c2 n3 m3) := by simp [World.cell?, hbv]
 clear hbv
 go_wp2_with fail
 refine (HX.out.add _ _ _ HR4.out hB4 ((HBW.out.mono hB).trans (HR.out.bel (HG4.out) hB1)) (by first | omega | (simp; omega))).mono ?_
 rintro e w5 ⟨v5, rfl, r5, g5⟩
 have HR5 : Hid (Bt B w5 v5 (l ++ [116, 104, 114, 111, 119, 32] ++ T)) := by show Bt _ _ _ _; simpa using r5
 have HG5 : Hid (Gr w3 w5 v v5) := by show Gr _ _ _ _; exact (HG4.out).trans g5
 have hB5 : B ≤ w5.heap.size := Nat.le_trans hB1 HG5.out.size
 clear r5 g5
 have HRz : Hid (Bt B w5 v5 (l ++ ([116, 104, 114, 111, 119, 32] ++ T))) := by show Bt _ _ _ _; simpa using HR5.out
 have HGz : Hid (Gr w w5 v v5) := by show Gr _ _ _ _; exact (HG5.out).pre HBW.out (fun k hk => (HR0.out.lt k hk).2)
 go_wp2
 go_ret
 exact ⟨v5, rfl, HRz.out, HGz.out⟩
theorem addSimpleDo {n : Nat} (hA : Small n) {name : ByteArray} {exprs : List TE} {body els : List TS} {pos : Int} (hsz : szS (.mk 8 name exprs body els pos) ≤ n)
 {B : Nat} {w : World} {v : Value} {l : Bs} {vx vb ve : Value} (hR : Bt B w v l) (hB : B ≤ w.heap.size) (hG : Lg B w) (hE : SIn (· < B) w (.mk 8 name exprs body els pos) vx vb ve) (hl : l.length + (simpleT 8 name (txEs exprs)).length ≤ 1000000000) :
 Calls Tryz.prog 78 #[v, stV (.mk 8 name exprs body els pos) vx vb ve] w fun en w' => ∃ v', en = .returned v' ∧ Bt B w' v' (l ++ simpleT 8 name (txEs exprs)) ∧ Gr w w' v v' := by
 have hszx : szEs exprs < n := by unfold szS at hsz; omega
 have hszb : szSs body < n := by unfold szS at hsz; omega
 have hsze : szSs els < n := by unfold szS at hsz; omega
 have hE2 := hE
 obtain ⟨hk8, ⟨pa, pc, rfl, hpc1, hpc2, hpg⟩, ⟨na, nc, rfl, hnc1, hnc2, hng⟩, ⟨ba, bc, rfl, hbc1, hbc2, hbg⟩⟩ := hE2
 unfold maxLen at hpc2 hnc2 hbc2
 obtain ⟨x, hx⟩ := pack hA (show EsIn B w _ exprs from hE.2.1) hB hG 0 (by omega) hszx
 have hT : simpleT 8 name (txEs exprs) = pt (txEs exprs) 0 := rfl
 rw [hT] at hl ⊢
 clear hT
 generalize pt (txEs exprs) 0 = T at hl hx ⊢
 have hnm : name.data.toList.length = name.size := rfl
 have hlT : l.length + T.length + 0 ≤ 1000000000 := by have h2 := hnm; simp at hl h2; omega
 obtain ⟨op2, num2, text2, a2, b2, c2, n1, m1, n2, m2, n3, m3, rfl⟩ := hx.six
 have HX : Hid (Pk B w (.slice pa exprs.length pc) 0 T (.agg #[.int .i64 op2, .int .i64 num2, .string text2, .slice a2 n1 m1, .slice b2 n2 m2, .slice c2 n3 m3])) := hx
 have HR0 : Hid (Bt B w v l) := hR
 clear hE hl hA hsz hszx hszb hsze hR hG hpc1 hpc2 hpg hnc1 hnc2 hng hbc1 hbg hx hbc2 hnm
 unfold stV
 go_enter Tryz.func78, Tryz.ntmps78
 go_wp2_with fail
 obtain ⟨w1, hw1⟩ : ∃ w1, w1 = w.alloc (.cells #[.int .i64 8, .string name, .slice pa exprs.length pc, .slice na body.length nc, .slice ba els.length bc, .int .i64 pos] 60) := ⟨_, rfl⟩
 obtain ⟨gb, hgb⟩ : ∃ gb, gb = w.heap.size := ⟨_, rfl⟩
 have HBW1 : Hid (Below w.heap.size w w1) := by rw [hw1]; exact (Below.refl _ _).alloc (Nat.le_refl _) _
 have HBX1 : Hid (w1.heap[gb]? = some (.cells #[.int .i64 8, .string name, .slice pa exprs.length pc, .slice na body.length nc, .slice ba els.length bc, .int .i64 pos] 60 (0, 0))) := by rw [hw1, hgb]; exact heap_alloc_new _ _
 rw [← hw1, ← hgb]
 clear hw1 hgb
 refine (HX.out.part _ (HBW1.out.mono hB)).mono ?_
 rintro e w2 ⟨rfl, b2w⟩
 have HBW2 : Hid (Below w.heap.size w w2) := HBW1.out.trans (b2w.mono HBW1.out.size)
 have HBX2 : Hid (w2.heap[gb]? = some (.cells #[.int .i64 8, .string name, .slice pa exprs.length pc, .slice na body.length nc, .slice ba els.length bc, .int .i64 pos] 60 (0, 0))) := by show _ = _; rw [b2w.block gb (Array.getElem?_eq_some_iff.1 HBX1.out).1]; exact HBX1.out
 clear b2w HBX1 HBW1
 have hbx2 := HBX2.out
 have hcx : w2.cell? ⟨gb, 0, none⟩ = some (.int .i64 8) := by simp [World.cell?, hbx2]
 have hgb2 : gb < w2.heap.size := (Array.getElem?_eq_some_iff.1 hbx2).1
 clear hbx2
 go_wp2_with fail
 obtain ⟨w3, hw3⟩ : ∃ w3, w3 = w2.alloc (.cells #[.int .i64 op2, .int .i64 num2, .string text2, .slice a2 n1 m1, .slice b2 n2 m2, .slice c2 n3 m3] 65) := ⟨_, rfl⟩
 obtain ⟨gv, hgv⟩ : ∃ gv, gv = w2.heap.size := ⟨_, rfl⟩
 have HBW : Hid (Below w.heap.size w w3) := by rw [hw3]; exact HBW2.out.alloc HBW2.out.size _
 have HBX : Hid (w3.heap[gb]? = some (.cells #[.int .i64 8, .string name, .slice pa exprs.length pc, .slice na body.length nc, .slice ba els.length bc, .int .i64 pos] 60 (0, 0))) := by show _ = _; rw [hw3, Below.heap_alloc _ _ _ hgb2]; exact HBX2.out
 have HBV : Hid (w3.heap[gv]? = some (.cells #[.int .i64 op2, .int .i64 num2, .string text2, .slice a2 n1 m1, .slice b2 n2 m2, .slice c2 n3 m3] 65 (0, 0))) := by rw [hw3, hgv]; exact heap_alloc_new _ _
 have hwv : w.heap.size ≤ gv := by rw [hgv]; exact HBW2.out.size
 have HR : Hid (Bt B w3 v l) := by rw [hw3]; exact (HR0.out.below HBW2.out).alloc _
 have hB1 : B ≤ w3.heap.size := Nat.le_trans hB HBW.out.size
 rw [← hw3, ← hgv]
 clear hw3 hgv HBX2 hcx hgb2
 refine (HX.out.add _ _ _ HR.out hB1 ((HBW.out.mono hB).trans (HR.out.bel (Gr.refl _ _) hB1)) (by first | omega | (simp; omega))).mono ?_
 rintro e w4 ⟨v4, rfl, r4, g4⟩
 have HR4 : Hid (Bt B w4 v4 (l ++ T)) := by show Bt _ _ _ _; simpa using r4
 have HG4 : Hid (Gr w3 w4 v v4) := by show Gr _ _ _ _; exact (Gr.refl _ _).trans g4
 have hB4 : B ≤ w4.heap.size := Nat.le_trans hB1 HG4.out.size
 clear r4 g4
 have HRz : Hid (Bt B w4 v4 (l ++ (T))) := by show Bt _ _ _ _; simpa using HR4.out
 have HGz : Hid (Gr w w4 v v4) := by show Gr _ _ _ _; exact (HG4.out).pre HBW.out (fun k hk => (HR0.out.lt k hk).2)
 go_wp2
 go_ret
 exact ⟨v4, rfl, HRz.out, HGz.out⟩
theorem bel_sets {B : Nat} {w w3 w' : World} {v v' : Value} {l : Bs} {g : Nat} {x0 x1 x2 x3 x4 x5 : Value} (h0 : Below B w w3) (hR : Bt B w3 v l) (hg : Gr w3 w' v v') (hB : B ≤ w3.heap.size) (hb : B ≤ g) : Below B w ((((((w'.setCell ⟨g, 0, none⟩ x0).setCell ⟨g, 1, none⟩ x1).setCell ⟨g, 2, none⟩ x2).setCell ⟨g, 3, none⟩ x3).setCell ⟨g, 4, none⟩ x4).setCell ⟨g, 5, none⟩ x5) :=
 (((((((h0.trans (hR.bel hg hB)).setCell hb _).setCell hb _).setCell hb _).setCell hb _).setCell hb _).setCell hb _)
theorem addSimplePut {n : Nat} (hA : Small n) {name : ByteArray} {exprs : List TE} {body els : List TS} {pos : Int} (hsz : szS (.mk 2 name exprs body els pos) ≤ n)
 {B : Nat} {w : World} {v : Value} {l : Bs} {vx vb ve : Value} (hR : Bt B w v l) (hB : B ≤ w.heap.size) (hG : Lg B w) (hE : SIn (· < B) w (.mk 2 name exprs body els pos) vx vb ve) (hl : l.length + (simpleT 2 name (txEs exprs)).length ≤ 1000000000) :
 Calls Tryz.prog 78 #[v, stV (.mk 2 name exprs body els pos) vx vb ve] w fun en w' => ∃ v', en = .returned v' ∧ Bt B w' v' (l ++ simpleT 2 name (txEs exprs)) ∧ Gr w w' v v' := by
 have hszx : szEs exprs < n := by unfold szS at hsz; omega
 have hszb : szSs body < n := by unfold szS at hsz; omega
 have hsze : szSs els < n := by unfold szS at hsz; omega
 have hE2 := hE
 obtain ⟨hk8, ⟨pa, pc, rfl, hpc1, hpc2, hpg⟩, ⟨na, nc, rfl, hnc1, hnc2, hng⟩, ⟨ba, bc, rfl, hbc1, hbc2, hbg⟩⟩ := hE2
 unfold maxLen at hpc2 hnc2 hbc2
 obtain ⟨x, hx⟩ := pack hA (show EsIn B w _ exprs from hE.2.1) hB hG 0 (by omega) hszx
 obtain ⟨y, hy⟩ := pack hA (show EsIn B w _ exprs from hE.2.1) hB hG 2 (by omega) hszx
 have HF : Hid (∀ W u X, Bt B W u X → B ≤ W.heap.size → Below B w W → X.length + (fieldT (txEs exprs)).length ≤ 1000000000 → Calls Tryz.prog 83 #[u, .slice pa exprs.length pc] W fun en W2 => ∃ u2, en = .returned u2 ∧ Bt B W2 u2 (X ++ fieldT (txEs exprs)) ∧ Gr W W2 u u2) := fun W u X h1 h2 h3 h4 => addField_any hA hszx h1 h2 (hG.on h3) (EsIn.on (show EsIn B w _ exprs from hE.2.1) h3) h4
 have hT : simpleT 2 name (txEs exprs) = fieldT (txEs exprs) ++ [32, 61, 32] ++ pt (txEs exprs) 2 := rfl
 rw [hT] at hl ⊢
 clear hT
 generalize fieldT (txEs exprs) = F at hl HF ⊢
 generalize pt (txEs exprs) 2 = U at hl hy ⊢
 have hlT : l.length + F.length + U.length + 3 ≤ 1000000000 := by simp at hl; omega
 obtain ⟨op2, num2, text2, a2, b2, c2, n1, m1, n2, m2, n3, m3, rfl⟩ := hx.six
 obtain ⟨op4, num4, text4, a4, b4, c4, n41, m41, n42, m42, n43, m43, rfl⟩ := hy.six
 have HX : Hid (Pk B w (.slice pa exprs.length pc) 0 (pt (txEs exprs) 0) (.agg #[.int .i64 op2, .int .i64 num2, .string text2, .slice a2 n1 m1, .slice b2 n2 m2, .slice c2 n3 m3])) := hx
 have HR0 : Hid (Bt B w v l) := hR
 have HY : Hid (Pk B w (.slice pa exprs.length pc) 2 U (.agg #[.int .i64 op4, .int .i64 num4, .string text4, .slice a4 n41 m41, .slice b4 n42 m42, .slice c4 n43 m43])) := hy
 clear hE hl hA hsz hszx hszb hsze hR hG hpc1 hpc2 hpg hnc1 hnc2 hng hbc1 hbg hx hbc2 hy
 unfold stV
 go_enter Tryz.func78, Tryz.ntmps78
 go_wp2_with fail
 obtain ⟨w1, hw1⟩ : ∃ w1, w1 = w.alloc (.cells #[.int .i64 2, .string name, .slice pa exprs.length pc, .slice na body.length nc, .slice ba els.length bc, .int .i64 pos] 60) := ⟨_, rfl⟩
 obtain ⟨gb, hgb⟩ : ∃ gb, gb = w.heap.size := ⟨_, rfl⟩
 have HBW1 : Hid (Below w.heap.size w w1) := by rw [hw1]; exact (Below.refl _ _).alloc (Nat.le_refl _) _
 have HBX1 : Hid (w1.heap[gb]? = some (.cells #[.int .i64 2, .string name, .slice pa exprs.length pc, .slice na body.length nc, .slice ba els.length bc, .int .i64 pos] 60 (0, 0))) := by rw [hw1, hgb]; exact heap_alloc_new _ _
 rw [← hw1, ← hgb]
 clear hw1 hgb
 refine (HX.out.part _ (HBW1.out.mono hB)).mono ?_
 rintro e w2 ⟨rfl, b2w⟩
 have HBW2 : Hid (Below w.heap.size w w2) := HBW1.out.trans (b2w.mono HBW1.out.size)
 have HBX2 : Hid (w2.heap[gb]? = some (.cells #[.int .i64 2, .string name, .slice pa exprs.length pc, .slice na body.length nc, .slice ba els.length bc, .int .i64 pos] 60 (0, 0))) := by show _ = _; rw [b2w.block gb (Array.getElem?_eq_some_iff.1 HBX1.out).1]; exact HBX1.out
 clear b2w HBX1 HBW1
 have hbx2 := HBX2.out
 have hcx : w2.cell? ⟨gb, 0, none⟩ = some (.int .i64 2) := by simp [World.cell?, hbx2]
 have hgb2 : gb < w2.heap.size := (Array.getElem?_eq_some_iff.1 hbx2).1
 have hcy : w2.cell? ⟨gb, 2, none⟩ = some (.slice pa exprs.length pc) := by simp [World.cell?, hbx2]
 clear hbx2
 go_wp2_with fail
 obtain ⟨w3, hw3⟩ : ∃ w3, w3 = w2.alloc (.cells #[.int .i64 op2, .int .i64 num2, .string text2, .slice a2 n1 m1, .slice b2 n2 m2, .slice c2 n3 m3] 65) := ⟨_, rfl⟩
 obtain ⟨gv, hgv⟩ : ∃ gv, gv = w2.heap.size := ⟨_, rfl⟩
 have HBW : Hid (Below w.heap.size w w3) := by rw [hw3]; exact HBW2.out.alloc HBW2.out.size _
 have HBX : Hid (w3.heap[gb]? = some (.cells #[.int .i64 2, .string name, .slice pa exprs.length pc, .slice na body.length nc, .slice ba els.length bc, .int .i64 pos] 60 (0, 0))) := by show _ = _; rw [hw3, Below.heap_alloc _ _ _ hgb2]; exact HBX2.out
 have HBV : Hid (w3.heap[gv]? = some (.cells #[.int .i64 op2, .int .i64 num2, .string text2, .slice a2 n1 m1, .slice b2 n2 m2, .slice c2 n3 m3] 65 (0, 0))) := by rw [hw3, hgv]; exact heap_alloc_new _ _
 have hwv : w.heap.size ≤ gv := by rw [hgv]; exact HBW2.out.size
 have HR : Hid (Bt B w3 v l) := by rw [hw3]; exact (HR0.out.below HBW2.out).alloc _
 have hB1 : B ≤ w3.heap.size := Nat.le_trans hB HBW.out.size
 rw [← hw3, ← hgv]
 clear hw3 hgv HBX2 hcx hgb2 hcy
 refine (HF.out _ _ _ HR.out hB1 ((HBW.out.mono hB).trans (HR.out.bel (Gr.refl _ _) hB1)) (by first | omega | (simp; omega))).mono ?_
 rintro e w4 ⟨v4, rfl, r4, g4⟩
 have HR4 : Hid (Bt B w4 v4 (l ++ F)) := by show Bt _ _ _ _; simpa using r4
 have HG4 : Hid (Gr w3 w4 v v4) := by show Gr _ _ _ _; exact (Gr.refl _ _).trans g4
 have hB4 : B ≤ w4.heap.size := Nat.le_trans hB1 HG4.out.size
 clear r4 g4
 go_wp2_with (at_builtin; refine wpList_app_str rfl (.tmp 31) _ rfl rfl HR4.out hB4 ⟨#[32, 61, 32]⟩ rfl (by show _ + 3 ≤ _; first | omega | (simp; omega)) ?_)
 intro v5 w5 r5 g5
 have HR5 : Hid (Bt B w5 v5 (l ++ F ++ [32, 61, 32])) := by show Bt _ _ _ _; simpa using r5
 have HG5 : Hid (Gr w3 w5 v v5) := by show Gr _ _ _ _; exact (HG4.out).trans g5
 have hB5 : B ≤ w5.heap.size := Nat.le_trans hB1 HG5.out.size
 clear r5 g5
 have hbx5 : w5.heap[gb]? = _ := HR.out.block (HG5.out) HBX.out (by decide)
 have hc5_2 : w5.cell? ⟨gb, 2, none⟩ = some (.slice pa exprs.length pc) := by simp [World.cell?, hbx5]
 clear hbx5
 go_wp2_with fail
 refine (HY.out.part _ ((HBW.out.mono hB).trans (HR.out.bel (HG5.out) hB1))).mono ?_
 rintro e w6 ⟨rfl, b6⟩
 have HR6 : Hid (Bt B w6 v5 (l ++ F ++ [32, 61, 32])) := by show Bt _ _ _ _; exact HR5.out.below b6
 have HG6 : Hid (Gr w3 w6 v v5) := by show Gr _ _ _ _; exact (HG5.out).below b6
 have hB6 : B ≤ w6.heap.size := Nat.le_trans hB1 HG6.out.size
 clear b6
 have hbv : w6.heap[gv]? = _ := HR.out.block (HG6.out) HBV.out (by decide)
 have hv0 : w6.cell? ⟨gv, 0, none⟩ = some (.int .i64 op2) := by simp [World.cell?, hbv]
 have hv1 : w6.cell? ⟨gv, 1, none⟩ = some (.int .i64 num2) := by simp [World.cell?, hbv]
 have hv2 : w6.cell? ⟨gv, 2, none⟩ = some (.string text2) := by simp [World.cell?, hbv]
 have hv3 : w6.cell? ⟨gv, 3, none⟩ = some (.slice a2 n1 m1) := by simp [World.cell?, hbv]
 have hv4 : w6.cell? ⟨gv, 4, none⟩ = some (.slice b2 n2 m2) := by simp [World.cell?, hbv]
 have hv5 : w6.cell? ⟨gv, 5, none⟩ = some (.slice c2 n3 m3) := by simp [World.cell?, hbv]
 clear hbv
 have hgvl : gv < w6.heap.size := Nat.lt_of_lt_of_le (Array.getElem?_eq_some_iff.1 HBV.out).1 HG6.out.size
 have hbv2 : w6.heap[gv]? = _ := HR.out.block (HG6.out) HBV.out (by decide)
 have hfz : ∀ i, w6.frozen? ⟨gv, i, none⟩ = false := fun i => by simp [World.frozen?, hbv2]
 have hne : v5.ownBlock ≠ some gv := fun e => by obtain ⟨c, f, h⟩ := HR6.out.kind gv e; rw [hbv2] at h; cases h
 have HBV2 := Lib.hid hbv2
 clear hbv2
 have HNE := Lib.hid hne
 clear hne
 go_wp2_with fail
 refine (HY.out.add _ _ _ ((((((HR6.out.set (p := ⟨gv, 0, none⟩) HNE.out _).set (p := ⟨gv, 1, none⟩) HNE.out _).set (p := ⟨gv, 2, none⟩) HNE.out _).set (p := ⟨gv, 3, none⟩) HNE.out _).set (p := ⟨gv, 4, none⟩) HNE.out _).set (p := ⟨gv, 5, none⟩) HNE.out _) ?_ ?_ (by first | omega | (simp; omega))).mono ?_
 ·simp; omega
 ·exact bel_sets (HBW.out.mono hB) HR.out (HG6.out) hB1 (Nat.le_trans hB hwv)
 rintro e w7 ⟨v7, rfl, r7, g7⟩
 have HRz : Hid (Bt B w7 v7 (l ++ (F ++ [32, 61, 32] ++ U))) := by show Bt _ _ _ _; simpa using r7
 have HGz : Hid (Gr w w7 v v7) := by show Gr _ _ _ _; exact (((((((HG6.out.pre HBW.out (fun k hk => (HR0.out.lt k hk).2)).set (p := ⟨gv, 0, none⟩) hwv _).set (p := ⟨gv, 1, none⟩) hwv _).set (p := ⟨gv, 2, none⟩) hwv _).set (p := ⟨gv, 3, none⟩) hwv _).set (p := ⟨gv, 4, none⟩) hwv _).set (p := ⟨gv, 5, none⟩) hwv _).trans g7
 clear r7 g7
 go_wp2
 go_ret
 exact ⟨v7, rfl, HRz.out, HGz.out⟩
end Go.Proofs.YtpboencfnjmmbaaGreatDoor
namespace Go.Proofs.YtpboencfnjmmbaaGreatDoor
open Go.RowKit TM
theorem addStmt0 {name : ByteArray} {exprs : List TE} {body els : List TS} {pos : Int} {pa na ba : Option Addr} {pc nc bc : Nat} {B : Nat} {w : World} {v : Value} {l M : Bs} (hR : Bt B w v l) (hB : B ≤ w.heap.size) (hlM : l.length + M.length + 1 ≤ 1000000000)
 (HM : Hid (∀ W u X, Bt B W u X → B ≤ W.heap.size → Below B w W → X.length + M.length ≤ 1000000000 → Calls Tryz.prog 78 #[u, .agg #[.int .i64 0, .string name, .slice pa exprs.length pc, .slice na body.length nc, .slice ba els.length bc, .int .i64 pos]] W fun en W2 => ∃ u2, en = .returned u2 ∧ Bt B W2 u2 (X ++ M) ∧ Gr W W2 u u2)) :
 Calls Tryz.prog 49 #[v, .agg #[.int .i64 0, .string name, .slice pa exprs.length pc, .slice na body.length nc, .slice ba els.length bc, .int .i64 pos]] w fun en w' => ∃ v', en = .returned v' ∧ Bt B w' v' (l ++ (M ++ [59] ++ [10])) ∧ Gr w w' v v' := by
 have HR0 : Hid (Bt B w v l) := hR
 clear hR
 go_enter Tryz.func49, Tryz.ntmps49
 go_wp2_with fail
 obtain ⟨w1, hw1⟩ : ∃ w1, w1 = w.alloc (.cells #[.int .i64 0, .string name, .slice pa exprs.length pc, .slice na body.length nc, .slice ba els.length bc, .int .i64 pos] 60) := ⟨_, rfl⟩
 obtain ⟨gb, hgb⟩ : ∃ gb, gb = w.heap.size := ⟨_, rfl⟩
 have HBW : Hid (Below w.heap.size w w1) := by rw [hw1]; exact (Below.refl _ _).alloc (Nat.le_refl _) _
 have HBX : Hid (w1.heap[gb]? = some (.cells #[.int .i64 0, .string name, .slice pa exprs.length pc, .slice na body.length nc, .slice ba els.length bc, .int .i64 pos] 60 (0, 0))) := by rw [hw1, hgb]; exact heap_alloc_new _ _
 have HR : Hid (Bt B w1 v l) := by rw [hw1]; exact HR0.out.alloc _
 have hB1 : B ≤ w1.heap.size := Nat.le_trans hB HBW.out.size
 rw [← hw1, ← hgb]
 clear hw1 hgb
 refine (HM.out _ _ _ HR.out hB1 (HBW.out.mono hB) (by first | omega | (simp; omega))).mono ?_
 rintro e w2 ⟨v2, rfl, r2, g2⟩
 have HR2 : Hid (Bt B w2 v2 (l ++ M)) := by show Bt _ _ _ _; simpa using r2
 have HG2 : Hid (Gr w1 w2 v v2) := by show Gr _ _ _ _; exact (Gr.refl _ _).trans g2
 have hB2 : B ≤ w2.heap.size := Nat.le_trans hB1 HG2.out.size
 clear r2 g2
 go_wp2_with (at_builtin; refine wpList_app_row rfl (.tmp 9) (.tmp 10) rfl rfl HR2.out hB2 [59] rfl (by rfl) rfl (by simp) (by first | omega | (simp; omega)) ?_)
 intro v3 w3 r3 g3
 have HR3 : Hid (Bt B w3 v3 (l ++ M ++ [59])) := by show Bt _ _ _ _; simpa using r3
 have HG3 : Hid (Gr w1 w3 v v3) := by show Gr _ _ _ _; exact (HG2.out).trans g3
 have hB3 : B ≤ w3.heap.size := Nat.le_trans hB1 HG3.out.size
 clear r3 g3
 go_wp2_with (at_builtin; refine wpList_app_row rfl (.tmp 19) (.tmp 20) rfl rfl HR3.out hB3 [10] rfl (by rfl) rfl (by simp) (by first | omega | (simp; omega)) ?_)
 intro v4 w4 r4 g4
 have HR4 : Hid (Bt B w4 v4 (l ++ M ++ [59] ++ [10])) := by show Bt _ _ _ _; simpa using r4
 have HG4 : Hid (Gr w1 w4 v v4) := by show Gr _ _ _ _; exact (HG3.out).trans g4
 have hB4 : B ≤ w4.heap.size := Nat.le_trans hB1 HG4.out.size
 clear r4 g4
 have HRz : Hid (Bt B w4 v4 (l ++ (M ++ [59] ++ [10]))) := by show Bt _ _ _ _; simpa using HR4.out
 have HGz : Hid (Gr w w4 v v4) := by show Gr _ _ _ _; exact (HG4.out).pre HBW.out (fun k hk => (HR0.out.lt k hk).2)
 go_wp2
 go_ret
 exact ⟨v4, rfl, HRz.out, HGz.out⟩
theorem addStmt1 {name : ByteArray} {exprs : List TE} {body els : List TS} {pos : Int} {pa na ba : Option Addr} {pc nc bc : Nat} {B : Nat} {w : World} {v : Value} {l M : Bs} (hR : Bt B w v l) (hB : B ≤ w.heap.size) (hlM : l.length + M.length + 1 ≤ 1000000000)
 (HM : Hid (∀ W u X, Bt B W u X → B ≤ W.heap.size → Below B w W → X.length + M.length ≤ 1000000000 → Calls Tryz.prog 78 #[u, .agg #[.int .i64 1, .string name, .slice pa exprs.length pc, .slice na body.length nc, .slice ba els.length bc, .int .i64 pos]] W fun en W2 => ∃ u2, en = .returned u2 ∧ Bt B W2 u2 (X ++ M) ∧ Gr W W2 u u2)) :
 Calls Tryz.prog 49 #[v, .agg #[.int .i64 1, .string name, .slice pa exprs.length pc, .slice na body.length nc, .slice ba els.length bc, .int .i64 pos]] w fun en w' => ∃ v', en = .returned v' ∧ Bt B w' v' (l ++ (M ++ [59] ++ [10])) ∧ Gr w w' v v' := by
 have HR0 : Hid (Bt B w v l) := hR
 clear hR
 go_enter Tryz.func49, Tryz.ntmps49
 go_wp2_with fail
 obtain ⟨w1, hw1⟩ : ∃ w1, w1 = w.alloc (.cells #[.int .i64 1, .string name, .slice pa exprs.length pc, .slice na body.length nc, .slice ba els.length bc, .int .i64 pos] 60) := ⟨_, rfl⟩
 obtain ⟨gb, hgb⟩ : ∃ gb, gb = w.heap.size := ⟨_, rfl⟩
 have HBW : Hid (Below w.heap.size w w1) := by rw [hw1]; exact (Below.refl _ _).alloc (Nat.le_refl _) _
 have HBX : Hid (w1.heap[gb]? = some (.cells #[.int .i64 1, .string name, .slice pa exprs.length pc, .slice na body.length nc, .slice ba els.length bc, .int .i64 pos] 60 (0, 0))) := by rw [hw1, hgb]; exact heap_alloc_new _ _
 have HR : Hid (Bt B w1 v l) := by rw [hw1]; exact HR0.out.alloc _
 have hB1 : B ≤ w1.heap.size := Nat.le_trans hB HBW.out.size
 rw [← hw1, ← hgb]
 clear hw1 hgb
 refine (HM.out _ _ _ HR.out hB1 (HBW.out.mono hB) (by first | omega | (simp; omega))).mono ?_
 rintro e w2 ⟨v2, rfl, r2, g2⟩
 have HR2 : Hid (Bt B w2 v2 (l ++ M)) := by show Bt _ _ _ _; simpa using r2
 have HG2 : Hid (Gr w1 w2 v v2) := by show Gr _ _ _ _; exact (Gr.refl _ _).trans g2
 have hB2 : B ≤ w2.heap.size := Nat.le_trans hB1 HG2.out.size
 clear r2 g2
 go_wp2_with (at_builtin; refine wpList_app_row rfl (.tmp 9) (.tmp 10) rfl rfl HR2.out hB2 [59] rfl (by rfl) rfl (by simp) (by first | omega | (simp; omega)) ?_)
 intro v3 w3 r3 g3
 have HR3 : Hid (Bt B w3 v3 (l ++ M ++ [59])) := by show Bt _ _ _ _; simpa using r3
 have HG3 : Hid (Gr w1 w3 v v3) := by show Gr _ _ _ _; exact (HG2.out).trans g3
 have hB3 : B ≤ w3.heap.size := Nat.le_trans hB1 HG3.out.size
 clear r3 g3
 go_wp2_with (at_builtin; refine wpList_app_row rfl (.tmp 19) (.tmp 20) rfl rfl HR3.out hB3 [10] rfl (by rfl) rfl (by simp) (by first | omega | (simp; omega)) ?_)
 intro v4 w4 r4 g4
 have HR4 : Hid (Bt B w4 v4 (l ++ M ++ [59] ++ [10])) := by show Bt _ _ _ _; simpa using r4
 have HG4 : Hid (Gr w1 w4 v v4) := by show Gr _ _ _ _; exact (HG3.out).trans g4
 have hB4 : B ≤ w4.heap.size := Nat.le_trans hB1 HG4.out.size
 clear r4 g4
 have HRz : Hid (Bt B w4 v4 (l ++ (M ++ [59] ++ [10]))) := by show Bt _ _ _ _; simpa using HR4.out
 have HGz : Hid (Gr w w4 v v4) := by show Gr _ _ _ _; exact (HG4.out).pre HBW.out (fun k hk => (HR0.out.lt k hk).2)
 go_wp2
 go_ret
 exact ⟨v4, rfl, HRz.out, HGz.out⟩
theorem addStmt2 {name : ByteArray} {exprs : List TE} {body els : List TS} {pos : Int} {pa na ba : Option Addr} {pc nc bc : Nat} {B : Nat} {w : World} {v : Value} {l M : Bs} (hR : Bt B w v l) (hB : B ≤ w.heap.size) (hlM : l.length + M.length + 1 ≤ 1000000000)
 (HM : Hid (∀ W u X, Bt B W u X → B ≤ W.heap.size → Below B w W → X.length + M.length ≤ 1000000000 → Calls Tryz.prog 78 #[u, .agg #[.int .i64 2, .string name, .slice pa exprs.length pc, .slice na body.length nc, .slice ba els.length bc, .int .i64 pos]] W fun en W2 => ∃ u2, en = .returned u2 ∧ Bt B W2 u2 (X ++ M) ∧ Gr W W2 u u2)) :
 Calls Tryz.prog 49 #[v, .agg #[.int .i64 2, .string name, .slice pa exprs.length pc, .slice na body.length nc, .slice ba els.length bc, .int .i64 pos]] w fun en w' => ∃ v', en = .returned v' ∧ Bt B w' v' (l ++ (M ++ [59] ++ [10])) ∧ Gr w w' v v' := by
 have HR0 : Hid (Bt B w v l) := hR
 clear hR
 go_enter Tryz.func49, Tryz.ntmps49
 go_wp2_with fail
 obtain ⟨w1, hw1⟩ : ∃ w1, w1 = w.alloc (.cells #[.int .i64 2, .string name, .slice pa exprs.length pc, .slice na body.length nc, .slice ba els.length bc, .int .i64 pos] 60) := ⟨_, rfl⟩
 obtain ⟨gb, hgb⟩ : ∃ gb, gb = w.heap.size := ⟨_, rfl⟩
 have HBW : Hid (Below w.heap.size w w1) := by rw [hw1]; exact (Below.refl _ _).alloc (Nat.le_refl _) _
 have HBX : Hid (w1.heap[gb]? = some (.cells #[.int .i64 2, .string name, .slice pa exprs.length pc, .slice na body.length nc, .slice ba els.length bc, .int .i64 pos] 60 (0, 0))) := by rw [hw1, hgb]; exact heap_alloc_new _ _
 have HR : Hid (Bt B w1 v l) := by rw [hw1]; exact HR0.out.alloc _
 have hB1 : B ≤ w1.heap.size := Nat.le_trans hB HBW.out.size
 rw [← hw1, ← hgb]
 clear hw1 hgb
 refine (HM.out _ _ _ HR.out hB1 (HBW.out.mono hB) (by first | omega | (simp; omega))).mono ?_
 rintro e w2 ⟨v2, rfl, r2, g2⟩
 have HR2 : Hid (Bt B w2 v2 (l ++ M)) := by show Bt _ _ _ _; simpa using r2
 have HG2 : Hid (Gr w1 w2 v v2) := by show Gr _ _ _ _; exact (Gr.refl _ _).trans g2
 have hB2 : B ≤ w2.heap.size := Nat.le_trans hB1 HG2.out.size
 clear r2 g2
 go_wp2_with (at_builtin; refine wpList_app_row rfl (.tmp 9) (.tmp 10) rfl rfl HR2.out hB2 [59] rfl (by rfl) rfl (by simp) (by first | omega | (simp; omega)) ?_)
 intro v3 w3 r3 g3
 have HR3 : Hid (Bt B w3 v3 (l ++ M ++ [59])) := by show Bt _ _ _ _; simpa using r3
 have HG3 : Hid (Gr w1 w3 v v3) := by show Gr _ _ _ _; exact (HG2.out).trans g3
 have hB3 : B ≤ w3.heap.size := Nat.le_trans hB1 HG3.out.size
 clear r3 g3
 go_wp2_with (at_builtin; refine wpList_app_row rfl (.tmp 19) (.tmp 20) rfl rfl HR3.out hB3 [10] rfl (by rfl) rfl (by simp) (by first | omega | (simp; omega)) ?_)
 intro v4 w4 r4 g4
 have HR4 : Hid (Bt B w4 v4 (l ++ M ++ [59] ++ [10])) := by show Bt _ _ _ _; simpa using r4
 have HG4 : Hid (Gr w1 w4 v v4) := by show Gr _ _ _ _; exact (HG3.out).trans g4
 have hB4 : B ≤ w4.heap.size := Nat.le_trans hB1 HG4.out.size
 clear r4 g4
 have HRz : Hid (Bt B w4 v4 (l ++ (M ++ [59] ++ [10]))) := by show Bt _ _ _ _; simpa using HR4.out
 have HGz : Hid (Gr w w4 v v4) := by show Gr _ _ _ _; exact (HG4.out).pre HBW.out (fun k hk => (HR0.out.lt k hk).2)
 go_wp2
 go_ret
 exact ⟨v4, rfl, HRz.out, HGz.out⟩
theorem addStmt3 {name : ByteArray} {exprs : List TE} {body els : List TS} {pos : Int} {pa na ba : Option Addr} {pc nc bc : Nat} {B : Nat} {w : World} {v : Value} {l M : Bs} (hR : Bt B w v l) (hB : B ≤ w.heap.size) (hlM : l.length + M.length + 1 ≤ 1000000000)
 (HM : Hid (∀ W u X, Bt B W u X → B ≤ W.heap.size → Below B w W → X.length + M.length ≤ 1000000000 → Calls Tryz.prog 77 #[u, .agg #[.int .i64 3, .string name, .slice pa exprs.length pc, .slice na body.length nc, .slice ba els.length bc, .int .i64 pos]] W fun en W2 => ∃ u2, en = .returned u2 ∧ Bt B W2 u2 (X ++ M) ∧ Gr W W2 u u2)) :
 Calls Tryz.prog 49 #[v, .agg #[.int .i64 3, .string name, .slice pa exprs.length pc, .slice na body.length nc, .slice ba els.length bc, .int .i64 pos]] w fun en w' => ∃ v', en = .returned v' ∧ Bt B w' v' (l ++ (M ++ [10])) ∧ Gr w w' v v' := by
 have HR0 : Hid (Bt B w v l) := hR
 clear hR
 go_enter Tryz.func49, Tryz.ntmps49
 go_wp2_with fail
 obtain ⟨w1, hw1⟩ : ∃ w1, w1 = w.alloc (.cells #[.int .i64 3, .string name, .slice pa exprs.length pc, .slice na body.length nc, .slice ba els.length bc, .int .i64 pos] 60) := ⟨_, rfl⟩
 obtain ⟨gb, hgb⟩ : ∃ gb, gb = w.heap.size := ⟨_, rfl⟩
 have HBW : Hid (Below w.heap.size w w1) := by rw [hw1]; exact (Below.refl _ _).alloc (Nat.le_refl _) _
 have HBX : Hid (w1.heap[gb]? = some (.cells #[.int .i64 3, .string name, .slice pa exprs.length pc, .slice na body.length nc, .slice ba els.length bc, .int .i64 pos] 60 (0, 0))) := by rw [hw1, hgb]; exact heap_alloc_new _ _
 have HR : Hid (Bt B w1 v l) := by rw [hw1]; exact HR0.out.alloc _
 have hB1 : B ≤ w1.heap.size := Nat.le_trans hB HBW.out.size
 rw [← hw1, ← hgb]
 clear hw1 hgb
 refine (HM.out _ _ _ HR.out hB1 (HBW.out.mono hB) (by first | omega | (simp; omega))).mono ?_
 rintro e w2 ⟨v2, rfl, r2, g2⟩
 have HR2 : Hid (Bt B w2 v2 (l ++ M)) := by show Bt _ _ _ _; simpa using r2
 have HG2 : Hid (Gr w1 w2 v v2) := by show Gr _ _ _ _; exact (Gr.refl _ _).trans g2
 have hB2 : B ≤ w2.heap.size := Nat.le_trans hB1 HG2.out.size
 clear r2 g2
 go_wp2_with (at_builtin; refine wpList_app_row rfl (.tmp 19) (.tmp 20) rfl rfl HR2.out hB2 [10] rfl (by rfl) rfl (by simp) (by first | omega | (simp; omega)) ?_)
 intro v3 w3 r3 g3
 have HR3 : Hid (Bt B w3 v3 (l ++ M ++ [10])) := by show Bt _ _ _ _; simpa using r3
 have HG3 : Hid (Gr w1 w3 v v3) := by show Gr _ _ _ _; exact (HG2.out).trans g3
 have hB3 : B ≤ w3.heap.size := Nat.le_trans hB1 HG3.out.size
 clear r3 g3
 have HRz : Hid (Bt B w3 v3 (l ++ (M ++ [10]))) := by show Bt _ _ _ _; simpa using HR3.out
 have HGz : Hid (Gr w w3 v v3) := by show Gr _ _ _ _; exact (HG3.out).pre HBW.out (fun k hk => (HR0.out.lt k hk).2)
 go_wp2
 go_ret
 exact ⟨v3, rfl, HRz.out, HGz.out⟩
theorem addStmt4 {name : ByteArray} {exprs : List TE} {body els : List TS} {pos : Int} {pa na ba : Option Addr} {pc nc bc : Nat} {B : Nat} {w : World} {v : Value} {l M : Bs} (hR : Bt B w v l) (hB : B ≤ w.heap.size) (hlM : l.length + M.length + 1 ≤ 1000000000)
 (HM : Hid (∀ W u X, Bt B W u X → B ≤ W.heap.size → Below B w W → X.length + M.length ≤ 1000000000 → Calls Tryz.prog 77 #[u, .agg #[.int .i64 4, .string name, .slice pa exprs.length pc, .slice na body.length nc, .slice ba els.length bc, .int .i64 pos]] W fun en W2 => ∃ u2, en = .returned u2 ∧ Bt B W2 u2 (X ++ M) ∧ Gr W W2 u u2)) :
 Calls Tryz.prog 49 #[v, .agg #[.int .i64 4, .string name, .slice pa exprs.length pc, .slice na body.length nc, .slice ba els.length bc, .int .i64 pos]] w fun en w' => ∃ v', en = .returned v' ∧ Bt B w' v' (l ++ (M ++ [10])) ∧ Gr w w' v v' := by
 have HR0 : Hid (Bt B w v l) := hR
 clear hR
 go_enter Tryz.func49, Tryz.ntmps49
 go_wp2_with fail
 obtain ⟨w1, hw1⟩ : ∃ w1, w1 = w.alloc (.cells #[.int .i64 4, .string name, .slice pa exprs.length pc, .slice na body.length nc, .slice ba els.length bc, .int .i64 pos] 60) := ⟨_, rfl⟩
 obtain ⟨gb, hgb⟩ : ∃ gb, gb = w.heap.size := ⟨_, rfl⟩
 have HBW : Hid (Below w.heap.size w w1) := by rw [hw1]; exact (Below.refl _ _).alloc (Nat.le_refl _) _
 have HBX : Hid (w1.heap[gb]? = some (.cells #[.int .i64 4, .string name, .slice pa exprs.length pc, .slice na body.length nc, .slice ba els.length bc, .int .i64 pos] 60 (0, 0))) := by rw [hw1, hgb]; exact heap_alloc_new _ _
 have HR : Hid (Bt B w1 v l) := by rw [hw1]; exact HR0.out.alloc _
 have hB1 : B ≤ w1.heap.size := Nat.le_trans hB HBW.out.size
 rw [← hw1, ← hgb]
 clear hw1 hgb
 refine (HM.out _ _ _ HR.out hB1 (HBW.out.mono hB) (by first | omega | (simp; omega))).mono ?_
 rintro e w2 ⟨v2, rfl, r2, g2⟩
 have HR2 : Hid (Bt B w2 v2 (l ++ M)) := by show Bt _ _ _ _; simpa using r2
 have HG2 : Hid (Gr w1 w2 v v2) := by show Gr _ _ _ _; exact (Gr.refl _ _).trans g2
 have hB2 : B ≤ w2.heap.size := Nat.le_trans hB1 HG2.out.size
 clear r2 g2
 go_wp2_with (at_builtin; refine wpList_app_row rfl (.tmp 19) (.tmp 20) rfl rfl HR2.out hB2 [10] rfl (by rfl) rfl (by simp) (by first | omega | (simp; omega)) ?_)
 intro v3 w3 r3 g3
 have HR3 : Hid (Bt B w3 v3 (l ++ M ++ [10])) := by show Bt _ _ _ _; simpa using r3
 have HG3 : Hid (Gr w1 w3 v v3) := by show Gr _ _ _ _; exact (HG2.out).trans g3
 have hB3 : B ≤ w3.heap.size := Nat.le_trans hB1 HG3.out.size
 clear r3 g3
 have HRz : Hid (Bt B w3 v3 (l ++ (M ++ [10]))) := by show Bt _ _ _ _; simpa using HR3.out
 have HGz : Hid (Gr w w3 v v3) := by show Gr _ _ _ _; exact (HG3.out).pre HBW.out (fun k hk => (HR0.out.lt k hk).2)
 go_wp2
 go_ret
 exact ⟨v3, rfl, HRz.out, HGz.out⟩
theorem addStmt5 {name : ByteArray} {exprs : List TE} {body els : List TS} {pos : Int} {pa na ba : Option Addr} {pc nc bc : Nat} {B : Nat} {w : World} {v : Value} {l M : Bs} (hR : Bt B w v l) (hB : B ≤ w.heap.size) (hlM : l.length + M.length + 1 ≤ 1000000000)
 (HM : Hid (∀ W u X, Bt B W u X → B ≤ W.heap.size → Below B w W → X.length + M.length ≤ 1000000000 → Calls Tryz.prog 78 #[u, .agg #[.int .i64 5, .string name, .slice pa exprs.length pc, .slice na body.length nc, .slice ba els.length bc, .int .i64 pos]] W fun en W2 => ∃ u2, en = .returned u2 ∧ Bt B W2 u2 (X ++ M) ∧ Gr W W2 u u2)) :
 Calls Tryz.prog 49 #[v, .agg #[.int .i64 5, .string name, .slice pa exprs.length pc, .slice na body.length nc, .slice ba els.length bc, .int .i64 pos]] w fun en w' => ∃ v', en = .returned v' ∧ Bt B w' v' (l ++ (M ++ [59] ++ [10])) ∧ Gr w w' v v' := by
 have HR0 : Hid (Bt B w v l) := hR
 clear hR
 go_enter Tryz.func49, Tryz.ntmps49
 go_wp2_with fail
 obtain ⟨w1, hw1⟩ : ∃ w1, w1 = w.alloc (.cells #[.int .i64 5, .string name, .slice pa exprs.length pc, .slice na body.length nc, .slice ba els.length bc, .int .i64 pos] 60) := ⟨_, rfl⟩
 obtain ⟨gb, hgb⟩ : ∃ gb, gb = w.heap.size := ⟨_, rfl⟩
 have HBW : Hid (Below w.heap.size w w1) := by rw [hw1]; exact (Below.refl _ _).alloc (Nat.le_refl _) _
 have HBX : Hid (w1.heap[gb]? = some (.cells #[.int .i64 5, .string name, .slice pa exprs.length pc, .slice na body.length nc, .slice ba els.length bc, .int .i64 pos] 60 (0, 0))) := by rw [hw1, hgb]; exact heap_alloc_new _ _
 have HR : Hid (Bt B w1 v l) := by rw [hw1]; exact HR0.out.alloc _
 have hB1 : B ≤ w1.heap.size := Nat.le_trans hB HBW.out.size
 rw [← hw1, ← hgb]
 clear hw1 hgb
 refine (HM.out _ _ _ HR.out hB1 (HBW.out.mono hB) (by first | omega | (simp; omega))).mono ?_
 rintro e w2 ⟨v2, rfl, r2, g2⟩
 have HR2 : Hid (Bt B w2 v2 (l ++ M)) := by show Bt _ _ _ _; simpa using r2
 have HG2 : Hid (Gr w1 w2 v v2) := by show Gr _ _ _ _; exact (Gr.refl _ _).trans g2
 have hB2 : B ≤ w2.heap.size := Nat.le_trans hB1 HG2.out.size
 clear r2 g2
 go_wp2_with (at_builtin; refine wpList_app_row rfl (.tmp 9) (.tmp 10) rfl rfl HR2.out hB2 [59] rfl (by rfl) rfl (by simp) (by first | omega | (simp; omega)) ?_)
 intro v3 w3 r3 g3
 have HR3 : Hid (Bt B w3 v3 (l ++ M ++ [59])) := by show Bt _ _ _ _; simpa using r3
 have HG3 : Hid (Gr w1 w3 v v3) := by show Gr _ _ _ _; exact (HG2.out).trans g3
 have hB3 : B ≤ w3.heap.size := Nat.le_trans hB1 HG3.out.size
 clear r3 g3
 go_wp2_with (at_builtin; refine wpList_app_row rfl (.tmp 19) (.tmp 20) rfl rfl HR3.out hB3 [10] rfl (by rfl) rfl (by simp) (by first | omega | (simp; omega)) ?_)
 intro v4 w4 r4 g4
 have HR4 : Hid (Bt B w4 v4 (l ++ M ++ [59] ++ [10])) := by show Bt _ _ _ _; simpa using r4
 have HG4 : Hid (Gr w1 w4 v v4) := by show Gr _ _ _ _; exact (HG3.out).trans g4
 have hB4 : B ≤ w4.heap.size := Nat.le_trans hB1 HG4.out.size
 clear r4 g4
 have HRz : Hid (Bt B w4 v4 (l ++ (M ++ [59] ++ [10]))) := by show Bt _ _ _ _; simpa using HR4.out
 have HGz : Hid (Gr w w4 v v4) := by show Gr _ _ _ _; exact (HG4.out).pre HBW.out (fun k hk => (HR0.out.lt k hk).2)
 go_wp2
 go_ret
 exact ⟨v4, rfl, HRz.out, HGz.out⟩
theorem addStmt6 {name : ByteArray} {exprs : List TE} {body els : List TS} {pos : Int} {pa na ba : Option Addr} {pc nc bc : Nat} {B : Nat} {w : World} {v : Value} {l M : Bs} (hR : Bt B w v l) (hB : B ≤ w.heap.size) (hlM : l.length + M.length + 1 ≤ 1000000000)
 (HM : Hid (∀ W u X, Bt B W u X → B ≤ W.heap.size → Below B w W → X.length + M.length ≤ 1000000000 → Calls Tryz.prog 78 #[u, .agg #[.int .i64 6, .string name, .slice pa exprs.length pc, .slice na body.length nc, .slice ba els.length bc, .int .i64 pos]] W fun en W2 => ∃ u2, en = .returned u2 ∧ Bt B W2 u2 (X ++ M) ∧ Gr W W2 u u2)) :
 Calls Tryz.prog 49 #[v, .agg #[.int .i64 6, .string name, .slice pa exprs.length pc, .slice na body.length nc, .slice ba els.length bc, .int .i64 pos]] w fun en w' => ∃ v', en = .returned v' ∧ Bt B w' v' (l ++ (M ++ [59] ++ [10])) ∧ Gr w w' v v' := by
 have HR0 : Hid (Bt B w v l) := hR
 clear hR
 go_enter Tryz.func49, Tryz.ntmps49
 go_wp2_with fail
 obtain ⟨w1, hw1⟩ : ∃ w1, w1 = w.alloc (.cells #[.int .i64 6, .string name, .slice pa exprs.length pc, .slice na body.length nc, .slice ba els.length bc, .int .i64 pos] 60) := ⟨_, rfl⟩
 obtain ⟨gb, hgb⟩ : ∃ gb, gb = w.heap.size := ⟨_, rfl⟩
 have HBW : Hid (Below w.heap.size w w1) := by rw [hw1]; exact (Below.refl _ _).alloc (Nat.le_refl _) _
 have HBX : Hid (w1.heap[gb]? = some (.cells #[.int .i64 6, .string name, .slice pa exprs.length pc, .slice na body.length nc, .slice ba els.length bc, .int .i64 pos] 60 (0, 0))) := by rw [hw1, hgb]; exact heap_alloc_new _ _
 have HR : Hid (Bt B w1 v l) := by rw [hw1]; exact HR0.out.alloc _
 have hB1 : B ≤ w1.heap.size := Nat.le_trans hB HBW.out.size
 rw [← hw1, ← hgb]
 clear hw1 hgb
 refine (HM.out _ _ _ HR.out hB1 (HBW.out.mono hB) (by first | omega | (simp; omega))).mono ?_
 rintro e w2 ⟨v2, rfl, r2, g2⟩
 have HR2 : Hid (Bt B w2 v2 (l ++ M)) := by show Bt _ _ _ _; simpa using r2
 have HG2 : Hid (Gr w1 w2 v v2) := by show Gr _ _ _ _; exact (Gr.refl _ _).trans g2
 have hB2 : B ≤ w2.heap.size := Nat.le_trans hB1 HG2.out.size
 clear r2 g2
 go_wp2_with (at_builtin; refine wpList_app_row rfl (.tmp 9) (.tmp 10) rfl rfl HR2.out hB2 [59] rfl (by rfl) rfl (by simp) (by first | omega | (simp; omega)) ?_)
 intro v3 w3 r3 g3
 have HR3 : Hid (Bt B w3 v3 (l ++ M ++ [59])) := by show Bt _ _ _ _; simpa using r3
 have HG3 : Hid (Gr w1 w3 v v3) := by show Gr _ _ _ _; exact (HG2.out).trans g3
 have hB3 : B ≤ w3.heap.size := Nat.le_trans hB1 HG3.out.size
 clear r3 g3
 go_wp2_with (at_builtin; refine wpList_app_row rfl (.tmp 19) (.tmp 20) rfl rfl HR3.out hB3 [10] rfl (by rfl) rfl (by simp) (by first | omega | (simp; omega)) ?_)
 intro v4 w4 r4 g4
 have HR4 : Hid (Bt B w4 v4 (l ++ M ++ [59] ++ [10])) := by show Bt _ _ _ _; simpa using r4
 have HG4 : Hid (Gr w1 w4 v v4) := by show Gr _ _ _ _; exact (HG3.out).trans g4
 have hB4 : B ≤ w4.heap.size := Nat.le_trans hB1 HG4.out.size
 clear r4 g4
 have HRz : Hid (Bt B w4 v4 (l ++ (M ++ [59] ++ [10]))) := by show Bt _ _ _ _; simpa using HR4.out
 have HGz : Hid (Gr w w4 v v4) := by show Gr _ _ _ _; exact (HG4.out).pre HBW.out (fun k hk => (HR0.out.lt k hk).2)
 go_wp2
 go_ret
 exact ⟨v4, rfl, HRz.out, HGz.out⟩
theorem addStmt7 {name : ByteArray} {exprs : List TE} {body els : List TS} {pos : Int} {pa na ba : Option Addr} {pc nc bc : Nat} {B : Nat} {w : World} {v : Value} {l M : Bs} (hR : Bt B w v l) (hB : B ≤ w.heap.size) (hlM : l.length + M.length + 1 ≤ 1000000000)
 (HM : Hid (∀ W u X, Bt B W u X → B ≤ W.heap.size → Below B w W → X.length + M.length ≤ 1000000000 → Calls Tryz.prog 77 #[u, .agg #[.int .i64 7, .string name, .slice pa exprs.length pc, .slice na body.length nc, .slice ba els.length bc, .int .i64 pos]] W fun en W2 => ∃ u2, en = .returned u2 ∧ Bt B W2 u2 (X ++ M) ∧ Gr W W2 u u2)) :
 Calls Tryz.prog 49 #[v, .agg #[.int .i64 7, .string name, .slice pa exprs.length pc, .slice na body.length nc, .slice ba els.length bc, .int .i64 pos]] w fun en w' => ∃ v', en = .returned v' ∧ Bt B w' v' (l ++ (M ++ [10])) ∧ Gr w w' v v' := by
 have HR0 : Hid (Bt B w v l) := hR
 clear hR
 go_enter Tryz.func49, Tryz.ntmps49
 go_wp2_with fail
 obtain ⟨w1, hw1⟩ : ∃ w1, w1 = w.alloc (.cells #[.int .i64 7, .string name, .slice pa exprs.length pc, .slice na body.length nc, .slice ba els.length bc, .int .i64 pos] 60) := ⟨_, rfl⟩
 obtain ⟨gb, hgb⟩ : ∃ gb, gb = w.heap.size := ⟨_, rfl⟩
 have HBW : Hid (Below w.heap.size w w1) := by rw [hw1]; exact (Below.refl _ _).alloc (Nat.le_refl _) _
 have HBX : Hid (w1.heap[gb]? = some (.cells #[.int .i64 7, .string name, .slice pa exprs.length pc, .slice na body.length nc, .slice ba els.length bc, .int .i64 pos] 60 (0, 0))) := by rw [hw1, hgb]; exact heap_alloc_new _ _
 have HR : Hid (Bt B w1 v l) := by rw [hw1]; exact HR0.out.alloc _
 have hB1 : B ≤ w1.heap.size := Nat.le_trans hB HBW.out.size
 rw [← hw1, ← hgb]
 clear hw1 hgb
 refine (HM.out _ _ _ HR.out hB1 (HBW.out.mono hB) (by first | omega | (simp; omega))).mono ?_
 rintro e w2 ⟨v2, rfl, r2, g2⟩
 have HR2 : Hid (Bt B w2 v2 (l ++ M)) := by show Bt _ _ _ _; simpa using r2
 have HG2 : Hid (Gr w1 w2 v v2) := by show Gr _ _ _ _; exact (Gr.refl _ _).trans g2
 have hB2 : B ≤ w2.heap.size := Nat.le_trans hB1 HG2.out.size
 clear r2 g2
 go_wp2_with (at_builtin; refine wpList_app_row rfl (.tmp 19) (.tmp 20) rfl rfl HR2.out hB2 [10] rfl (by rfl) rfl (by simp) (by first | omega | (simp; omega)) ?_)
 intro v3 w3 r3 g3
 have HR3 : Hid (Bt B w3 v3 (l ++ M ++ [10])) := by show Bt _ _ _ _; simpa using r3
 have HG3 : Hid (Gr w1 w3 v v3) := by show Gr _ _ _ _; exact (HG2.out).trans g3
 have hB3 : B ≤ w3.heap.size := Nat.le_trans hB1 HG3.out.size
 clear r3 g3
 have HRz : Hid (Bt B w3 v3 (l ++ (M ++ [10]))) := by show Bt _ _ _ _; simpa using HR3.out
 have HGz : Hid (Gr w w3 v v3) := by show Gr _ _ _ _; exact (HG3.out).pre HBW.out (fun k hk => (HR0.out.lt k hk).2)
 go_wp2
 go_ret
 exact ⟨v3, rfl, HRz.out, HGz.out⟩
theorem addStmt8 {name : ByteArray} {exprs : List TE} {body els : List TS} {pos : Int} {pa na ba : Option Addr} {pc nc bc : Nat} {B : Nat} {w : World} {v : Value} {l M : Bs} (hR : Bt B w v l) (hB : B ≤ w.heap.size) (hlM : l.length + M.length + 1 ≤ 1000000000)
 (HM : Hid (∀ W u X, Bt B W u X → B ≤ W.heap.size → Below B w W → X.length + M.length ≤ 1000000000 → Calls Tryz.prog 78 #[u, .agg #[.int .i64 8, .string name, .slice pa exprs.length pc, .slice na body.length nc, .slice ba els.length bc, .int .i64 pos]] W fun en W2 => ∃ u2, en = .returned u2 ∧ Bt B W2 u2 (X ++ M) ∧ Gr W W2 u u2)) :
 Calls Tryz.prog 49 #[v, .agg #[.int .i64 8, .string name, .slice pa exprs.length pc, .slice na body.length nc, .slice ba els.length bc, .int .i64 pos]] w fun en w' => ∃ v', en = .returned v' ∧ Bt B w' v' (l ++ (M ++ [59] ++ [10])) ∧ Gr w w' v v' := by
 have HR0 : Hid (Bt B w v l) := hR
 clear hR
 go_enter Tryz.func49, Tryz.ntmps49
 go_wp2_with fail
 obtain ⟨w1, hw1⟩ : ∃ w1, w1 = w.alloc (.cells #[.int .i64 8, .string name, .slice pa exprs.length pc, .slice na body.length nc, .slice ba els.length bc, .int .i64 pos] 60) := ⟨_, rfl⟩
 obtain ⟨gb, hgb⟩ : ∃ gb, gb = w.heap.size := ⟨_, rfl⟩
 have HBW : Hid (Below w.heap.size w w1) := by rw [hw1]; exact (Below.refl _ _).alloc (Nat.le_refl _) _
 have HBX : Hid (w1.heap[gb]? = some (.cells #[.int .i64 8, .string name, .slice pa exprs.length pc, .slice na body.length nc, .slice ba els.length bc, .int .i64 pos] 60 (0, 0))) := by rw [hw1, hgb]; exact heap_alloc_new _ _
 have HR : Hid (Bt B w1 v l) := by rw [hw1]; exact HR0.out.alloc _
 have hB1 : B ≤ w1.heap.size := Nat.le_trans hB HBW.out.size
 rw [← hw1, ← hgb]
 clear hw1 hgb
 refine (HM.out _ _ _ HR.out hB1 (HBW.out.mono hB) (by first | omega | (simp; omega))).mono ?_
 rintro e w2 ⟨v2, rfl, r2, g2⟩
 have HR2 : Hid (Bt B w2 v2 (l ++ M)) := by show Bt _ _ _ _; simpa using r2
 have HG2 : Hid (Gr w1 w2 v v2) := by show Gr _ _ _ _; exact (Gr.refl _ _).trans g2
 have hB2 : B ≤ w2.heap.size := Nat.le_trans hB1 HG2.out.size
 clear r2 g2
 go_wp2_with (at_builtin; refine wpList_app_row rfl (.tmp 9) (.tmp 10) rfl rfl HR2.out hB2 [59] rfl (by rfl) rfl (by simp) (by first | omega | (simp; omega)) ?_)
 intro v3 w3 r3 g3
 have HR3 : Hid (Bt B w3 v3 (l ++ M ++ [59])) := by show Bt _ _ _ _; simpa using r3
 have HG3 : Hid (Gr w1 w3 v v3) := by show Gr _ _ _ _; exact (HG2.out).trans g3
 have hB3 : B ≤ w3.heap.size := Nat.le_trans hB1 HG3.out.size
 clear r3 g3
 go_wp2_with (at_builtin; refine wpList_app_row rfl (.tmp 19) (.tmp 20) rfl rfl HR3.out hB3 [10] rfl (by rfl) rfl (by simp) (by first | omega | (simp; omega)) ?_)
 intro v4 w4 r4 g4
 have HR4 : Hid (Bt B w4 v4 (l ++ M ++ [59] ++ [10])) := by show Bt _ _ _ _; simpa using r4
 have HG4 : Hid (Gr w1 w4 v v4) := by show Gr _ _ _ _; exact (HG3.out).trans g4
 have hB4 : B ≤ w4.heap.size := Nat.le_trans hB1 HG4.out.size
 clear r4 g4
 have HRz : Hid (Bt B w4 v4 (l ++ (M ++ [59] ++ [10]))) := by show Bt _ _ _ _; simpa using HR4.out
 have HGz : Hid (Gr w w4 v v4) := by show Gr _ _ _ _; exact (HG4.out).pre HBW.out (fun k hk => (HR0.out.lt k hk).2)
 go_wp2
 go_ret
 exact ⟨v4, rfl, HRz.out, HGz.out⟩
theorem addStmt_any {n : Nat} (hA : Small n) (s : TS) (hsz : szS s ≤ n) {B : Nat} {w : World} {v : Value} {l : Bs} {vx vb ve : Value} (hR : Bt B w v l) (hB : B ≤ w.heap.size) (hG : Lg B w) (hE : SIn (· < B) w s vx vb ve) (hl : l.length + (txS s).length ≤ 1000000000) :
 Calls Tryz.prog 49 #[v, stV s vx vb ve] w fun en w' => ∃ v', en = .returned v' ∧ Bt B w' v' (l ++ txS s) ∧ Gr w w' v v' := by
 cases s with
 | mk kind name exprs body els pos =>
  have hE2 := hE
  obtain ⟨hk8, ⟨pa, pc, rfl, _⟩, ⟨na, nc, rfl, _⟩, ⟨ba, bc, rfl, _⟩⟩ := hE2
  have hT : txS (.mk kind name exprs body els pos) = stT kind name (txEs exprs) (txSs body) els.isEmpty (txSs els) := by rw [txS]
  rw [hT] at hl ⊢
  rcases (show kind = 0 ∨ kind = 1 ∨ kind = 2 ∨ kind = 3 ∨ kind = 4 ∨ kind = 5 ∨ kind = 6 ∨ kind = 7 ∨ kind = 8 from by omega) with rfl | rfl | rfl | rfl | rfl | rfl | rfl | rfl | rfl
  ·have hM : stT 0 name (txEs exprs) (txSs body) els.isEmpty (txSs els) = simpleT 0 name (txEs exprs) ++ [59] ++ [10] := rfl
   rw [hM] at hl ⊢
   exact addStmt0 hR hB (by simp at hl; omega) (fun W u X h1 h2 h3 h4 => addSimpleLet hA hsz h1 h2 (hG.on h3) (SIn.on hE h3) h4)
  ·have hM : stT 1 name (txEs exprs) (txSs body) els.isEmpty (txSs els) = simpleT 1 name (txEs exprs) ++ [59] ++ [10] := rfl
   rw [hM] at hl ⊢
   exact addStmt1 hR hB (by simp at hl; omega) (fun W u X h1 h2 h3 h4 => addSimpleSet hA hsz h1 h2 (hG.on h3) (SIn.on hE h3) h4)
  ·have hM : stT 2 name (txEs exprs) (txSs body) els.isEmpty (txSs els) = simpleT 2 name (txEs exprs) ++ [59] ++ [10] := rfl
   rw [hM] at hl ⊢
   exact addStmt2 hR hB (by simp at hl; omega) (fun W u X h1 h2 h3 h4 => addSimplePut hA hsz h1 h2 (hG.on h3) (SIn.on hE h3) h4)
  ·cases els with
   | nil =>
    have hM : stT 3 name (txEs exprs) (txSs body) ([] : List TS).isEmpty (txSs []) = blocksT 3 name (txEs exprs) (txSs body) true (txSs []) ++ [10] := rfl
    rw [hM] at hl ⊢
    exact addStmt3 hR hB (by simp at hl; omega) (fun W u X h1 h2 h3 h4 => addBlocksIf0 hA hsz rfl h1 h2 (hG.on h3) (SIn.on hE h3) h4)
   | cons s0 els =>
    have hM : stT 3 name (txEs exprs) (txSs body) (s0 :: els).isEmpty (txSs (s0 :: els)) = blocksT 3 name (txEs exprs) (txSs body) false (txSs (s0 :: els)) ++ [10] := rfl
    rw [hM] at hl ⊢
    exact addStmt3 hR hB (by simp at hl; omega) (fun W u X h1 h2 h3 h4 => addBlocksIf1 hA hsz (by simp) h1 h2 (hG.on h3) (SIn.on hE h3) h4)
  ·have hM : stT 4 name (txEs exprs) (txSs body) els.isEmpty (txSs els) = blocksT 4 name (txEs exprs) (txSs body) els.isEmpty (txSs els) ++ [10] := rfl
   rw [hM] at hl ⊢
   exact addStmt4 hR hB (by simp at hl; omega) (fun W u X h1 h2 h3 h4 => addBlocksWhile hA hsz h1 h2 (hG.on h3) (SIn.on hE h3) h4)
  ·have hM : stT 5 name (txEs exprs) (txSs body) els.isEmpty (txSs els) = simpleT 5 name (txEs exprs) ++ [59] ++ [10] := rfl
   rw [hM] at hl ⊢
   exact addStmt5 hR hB (by simp at hl; omega) (fun W u X h1 h2 h3 h4 => addSimpleRet hA hsz h1 h2 (hG.on h3) (SIn.on hE h3) h4)
  ·have hM : stT 6 name (txEs exprs) (txSs body) els.isEmpty (txSs els) = simpleT 6 name (txEs exprs) ++ [59] ++ [10] := rfl
   rw [hM] at hl ⊢
   exact addStmt6 hR hB (by simp at hl; omega) (fun W u X h1 h2 h3 h4 => addSimpleThr hA hsz h1 h2 (hG.on h3) (SIn.on hE h3) h4)
  ·have hM : stT 7 name (txEs exprs) (txSs body) els.isEmpty (txSs els) = blocksT 7 name (txEs exprs) (txSs body) els.isEmpty (txSs els) ++ [10] := rfl
   rw [hM] at hl ⊢
   exact addStmt7 hR hB (by simp at hl; omega) (fun W u X h1 h2 h3 h4 => addBlocksTry hA hsz h1 h2 (hG.on h3) (SIn.on hE h3) h4)
  ·have hM : stT 8 name (txEs exprs) (txSs body) els.isEmpty (txSs els) = simpleT 8 name (txEs exprs) ++ [59] ++ [10] := rfl
   rw [hM] at hl ⊢
   exact addStmt8 hR hB (by simp at hl; omega) (fun W u X h1 h2 h3 h4 => addSimpleDo hA hsz h1 h2 (hG.on h3) (SIn.on hE h3) h4)
theorem addStmts_any {n : Nat} (hA : Small n) (s : List TS) (hsz : szSs s ≤ n) : AddSs s := by
 intro B w v l vs hR hB hG hE hl
 obtain ⟨ad, cap, rfl, hc1, hc2, hg⟩ := hE
 unfold maxLen at hc2
 have HR0 : Hid (Bt B w v l) := hR
 have HPG : Hid (0 < s.length → ∃ g o, ad = some ⟨g, o, none⟩ ∧ g < B ∧ SsAt (· < B) w g o s) := hg
 have HC1 : Hid (∀ k e, s[k]? = some e → txSs (s.take (k + 1)) = txSs (s.take k) ++ txS e) := fun k e he => txSs_take he
 have hlC : ∀ k, (txSs (s.take k)).length ≤ (txSs s).length := fun k => by
  have := txSs_append (s.take k) (s.drop k)
  rw [List.take_append_drop] at this
  rw [this]; simp
 have HAT : Hid (∀ g o, g < B → SsAt (· < B) w g o s → ∀ k e, s[k]? = some e → ∃ (kd : Int) (nm : ByteArray) (a b c : Option Addr) (n1 c1 n2 c2 n3 c3 : Nat) (ps : Int), (∀ W, Below B w W → W.cell? ⟨g, o + k * 6, none⟩ = some (.int .i64 kd) ∧ W.cell? ⟨g, o + k * 6 + 1, none⟩ = some (.string nm) ∧ W.cell? ⟨g, o + k * 6 + 2, none⟩ = some (.slice a n1 c1) ∧ W.cell? ⟨g, o + k * 6 + 3, none⟩ = some (.slice b n2 c2) ∧ W.cell? ⟨g, o + k * 6 + 4, none⟩ = some (.slice c n3 c3) ∧ W.cell? ⟨g, o + k * 6 + 5, none⟩ = some (.int .i64 ps)) ∧ ∀ W vc X, Bt B W vc X → B ≤ W.heap.size → Below B w W → X.length + (txS e).length ≤ 1000000000 → Calls Tryz.prog 49 #[vc, .agg #[.int .i64 kd, .string nm, .slice a n1 c1, .slice b n2 c2, .slice c n3 c3, .int .i64 ps]] W fun en W2 => ∃ u, en = .returned u ∧ Bt B W2 u (X ++ txS e) ∧ Gr W W2 vc u) := by
  intro g o hgB hs k e he
  obtain ⟨vx, vb, ve, hc, hin⟩ := hs.get he
  have hlt := szSs_get he
  cases e with
  | mk kd nm xs bd el ps =>
   have hin2 := hin
   obtain ⟨_, ⟨pa, pc, rfl, _⟩, ⟨na, nc, rfl, _⟩, ⟨ba, bc, rfl, _⟩⟩ := hin2
   exact ⟨kd, nm, pa, na, ba, _, pc, _, nc, _, bc, ps, fun W hb => hc.kept (hb.block g hgB), fun W vc X hr hBW hbel hl => addStmt_any hA _ (by omega) hr hBW (hG.on hbel) (SIn.on hin hbel) hl⟩
 clear hR hg hG hA hsz
 go_enter Tryz.func48, Tryz.ntmps48
 go_wp2_with fail
 go_loopw [9, 0] (fun i u wr => ∃ k : Nat, i = .int .i64 (k : Int) ∧ k ≤ s.length ∧ Hid (Bt B wr u (l ++ txSs (s.take k))) ∧ Hid (Gr w wr v u))
  (fun i _ _ => s.length - (intOf i).toNat)
 case atStart => exact ⟨0, rfl, Nat.zero_le _, by simpa [txSs] using HR0, Gr.refl _ _⟩
 case round =>
  obtain ⟨k, rfl, hk, HRj, HGj⟩ := hrel
  have hBj : B ≤ wr.heap.size := Nat.le_trans hB HGj.out.size
  have HBEL : Hid (Below B w wr) := HR0.out.bel HGj.out hB
  by_cases hlt : k < s.length
  ·obtain ⟨e, he⟩ : ∃ e, s[k]? = some e := ⟨_, List.getElem?_eq_getElem hlt⟩
   obtain ⟨ga, oa, rfl, hgB, hSs⟩ := HPG.out (by omega)
   obtain ⟨kd, nm, a, b, c, n1, c1, n2, c2, n3, c3, ps, hce, had⟩ := HAT.out ga oa hgB hSs k e he
   obtain ⟨q0, q1, q2, q3, q4, q5⟩ := hce wr HBEL.out
   have HAD := Lib.hid had
   have hN := HC1.out k e he
   have HN : Hid (l ++ txSs (s.take (k + 1)) = l ++ txSs (s.take k) ++ txS e) := by show _ = _; rw [hN]; simp
   have hNl : l.length + (txSs (s.take k)).length + (txS e).length ≤ 1000000000 := by
    have h1 := hlC (k + 1)
    rw [hN, List.length_append] at h1
    omega
   generalize txS e = U at *
   obtain ⟨A, hA⟩ : ∃ A, l ++ txSs (s.take k) = A := ⟨_, rfl⟩
   have hAl : A.length + U.length ≤ 1000000000 := by rw [← hA, List.length_append]; omega
   rw [hA] at HRj HN
   have hidx : 0 ≤ (k : Int) ∧ (k : Int) < (s.length : Int) := ⟨by omega, by omega⟩
   have hgl : ga < wr.heap.size := Nat.lt_of_lt_of_le hgB hBj
   clear hce had he hSs hN hA
   go_wp2_with fail
   obtain ⟨w1, hw1⟩ : ∃ w1, w1 = wr.alloc (.cells #[.int .i64 kd, .string nm, .slice a n1 c1, .slice b n2 c2, .slice c n3 c3, .int .i64 ps] 60) := ⟨_, rfl⟩
   have HR1 : Hid (Bt B w1 u0 A) := by rw [hw1]; exact HRj.out.alloc _
   have HG1 : Hid (Gr w w1 v u0) := by rw [hw1]; exact HGj.out.alloc _
   rw [← hw1]
   clear hw1
   refine (HAD.out _ _ _ HR1.out (Nat.le_trans hB HG1.out.size) (HR0.out.bel HG1.out hB) hAl).mono ?_
   rintro en w5 ⟨v5, rfl, r5, g5⟩
   have HR5 : Hid (Bt B w5 v5 (l ++ txSs (s.take (k + 1)))) := by show Bt _ _ _ _; rw [HN.out]; exact r5
   have HG5 : Hid (Gr w w5 v v5) := HG1.out.trans g5
   clear r5 g5 q0 q1 q2 q3 q4 q5
   go_wp2_with fail
   go_roundw
   case rel => exact ⟨k + 1, by go_num, by omega, HR5, HG5⟩
   case measure => simp [intOf]; omega
  ·obtain rfl : k = s.length := by omega
   rw [List.take_length] at HRj
   go_wp2
   go_ret
   exact ⟨_, rfl, HRj.out, HGj.out⟩
end Go.Proofs.YtpboencfnjmmbaaGreatDoor
namespace Go.Proofs.YtpboencfnjmmbaaGreatDoor
open Go.RowKit TM
def valX (v : Value) (gb k : Nat) (s x : Value) : Nat → Option Value
 | 0 => some v
 | 1 => some (.pointer (some ⟨gb, 0, none⟩))
 | 2 => some (.int .i64 (k : Int))
 | 3 => some (.pointer (some ⟨0, k, none⟩))
 | 4 => some s
 | 5 => some x
 | _ => none
theorem addExpr0 {num : Int} {text : ByteArray} {parts : List TE} {params : List ByteArray} {body : List TS} {pa na ba : Option Addr} {pc nc bc : Nat} {B : Nat} {w : World} {v : Value} {l M : Bs} (hR : Bt B w v l) (hB : B ≤ w.heap.size) (hlM : l.length + M.length ≤ 1000000000) (hM : M = [110, 105, 108]) :
 Calls Tryz.prog 50 #[v, .agg #[.int .i64 0, .int .i64 num, .string text, .slice pa parts.length pc, .slice na params.length nc, .slice ba body.length bc]] w fun en w' => ∃ v', en = .returned v' ∧ Bt B w' v' (l ++ M) ∧ Gr w w' v v' := by
 subst hM
 have hlT : l.length + 3 ≤ 1000000000 := by simp at hlM; omega
 clear hlM
 have HR0 : Hid (Bt B w v l) := hR
 clear hR
 go_enter Tryz.func50, Tryz.ntmps50
 go_wp2_with (at_builtin; refine Hid.out ?_)
 refine Lib.hid ?_
 obtain ⟨w1, hw1⟩ : ∃ w1, w1 = w.alloc (.cells #[.int .i64 0, .int .i64 num, .string text, .slice pa parts.length pc, .slice na params.length nc, .slice ba body.length bc] 65) := ⟨_, rfl⟩
 obtain ⟨gb, hgb⟩ : ∃ gb, gb = w.heap.size := ⟨_, rfl⟩
 have HBW : Hid (Below w.heap.size w w1) := by rw [hw1]; exact (Below.refl _ _).alloc (Nat.le_refl _) _
 have HBX : Hid (w1.heap[gb]? = some (.cells #[.int .i64 0, .int .i64 num, .string text, .slice pa parts.length pc, .slice na params.length nc, .slice ba body.length bc] 65 (0, 0))) := by rw [hw1, hgb]; exact heap_alloc_new _ _
 have HR : Hid (Bt B w1 v l) := by rw [hw1]; exact HR0.out.alloc _
 have hB1 : B ≤ w1.heap.size := Nat.le_trans hB HBW.out.size
 rw [← hw1, ← hgb]
 clear hw1 hgb
 refine wpList_app_str rfl (.tmp 9) _ rfl rfl HR.out hB1 ⟨#[110, 105, 108]⟩ rfl (by show _ + 3 ≤ _; first | omega | (simp; omega)) ?_
 intro v2 w2 r2 g2
 have HR2 : Hid (Bt B w2 v2 (l ++ [110, 105, 108])) := by show Bt _ _ _ _; simpa using r2
 have HG2 : Hid (Gr w1 w2 v v2) := by show Gr _ _ _ _; exact (Gr.refl _ _).trans g2
 have hB2 : B ≤ w2.heap.size := Nat.le_trans hB1 HG2.out.size
 clear r2 g2
 have HRz : Hid (Bt B w2 v2 (l ++ [110, 105, 108])) := by show Bt _ _ _ _; simpa using HR2.out
 have HGz : Hid (Gr w w2 v v2) := by show Gr _ _ _ _; exact (HG2.out).pre HBW.out (fun k hk => (HR0.out.lt k hk).2)
 go_wp2
 go_ret
 exact ⟨v2, rfl, HRz.out, HGz.out⟩
theorem addExpr1 {num : Int} {text : ByteArray} {parts : List TE} {params : List ByteArray} {body : List TS} {pa na ba : Option Addr} {pc nc bc : Nat} {B : Nat} {w : World} {v : Value} {l M : Bs} (hR : Bt B w v l) (hB : B ≤ w.heap.size) (hlM : l.length + M.length ≤ 1000000000) (hM : M = [102, 97, 108, 115, 101]) :
 Calls Tryz.prog 50 #[v, .agg #[.int .i64 1, .int .i64 num, .string text, .slice pa parts.length pc, .slice na params.length nc, .slice ba body.length bc]] w fun en w' => ∃ v', en = .returned v' ∧ Bt B w' v' (l ++ M) ∧ Gr w w' v v' := by
 subst hM
 have hlT : l.length + 5 ≤ 1000000000 := by simp at hlM; omega
 clear hlM
 have HR0 : Hid (Bt B w v l) := hR
 clear hR
 go_enter Tryz.func50, Tryz.ntmps50
 go_wp2_with (at_builtin; refine Hid.out ?_)
 refine Lib.hid ?_
 obtain ⟨w1, hw1⟩ : ∃ w1, w1 = w.alloc (.cells #[.int .i64 1, .int .i64 num, .string text, .slice pa parts.length pc, .slice na params.length nc, .slice ba body.length bc] 65) := ⟨_, rfl⟩
 obtain ⟨gb, hgb⟩ : ∃ gb, gb = w.heap.size := ⟨_, rfl⟩
 have HBW : Hid (Below w.heap.size w w1) := by rw [hw1]; exact (Below.refl _ _).alloc (Nat.le_refl _) _
 have HBX : Hid (w1.heap[gb]? = some (.cells #[.int .i64 1, .int .i64 num, .string text, .slice pa parts.length pc, .slice na params.length nc, .slice ba body.length bc] 65 (0, 0))) := by rw [hw1, hgb]; exact heap_alloc_new _ _
 have HR : Hid (Bt B w1 v l) := by rw [hw1]; exact HR0.out.alloc _
 have hB1 : B ≤ w1.heap.size := Nat.le_trans hB HBW.out.size
 rw [← hw1, ← hgb]
 clear hw1 hgb
 refine wpList_app_str rfl (.tmp 13) _ rfl rfl HR.out hB1 ⟨#[102, 97, 108, 115, 101]⟩ rfl (by show _ + 5 ≤ _; first | omega | (simp; omega)) ?_
 intro v2 w2 r2 g2
 have HR2 : Hid (Bt B w2 v2 (l ++ [102, 97, 108, 115, 101])) := by show Bt _ _ _ _; simpa using r2
 have HG2 : Hid (Gr w1 w2 v v2) := by show Gr _ _ _ _; exact (Gr.refl _ _).trans g2
 have hB2 : B ≤ w2.heap.size := Nat.le_trans hB1 HG2.out.size
 clear r2 g2
 have HRz : Hid (Bt B w2 v2 (l ++ [102, 97, 108, 115, 101])) := by show Bt _ _ _ _; simpa using HR2.out
 have HGz : Hid (Gr w w2 v v2) := by show Gr _ _ _ _; exact (HG2.out).pre HBW.out (fun k hk => (HR0.out.lt k hk).2)
 go_wp2
 go_ret
 exact ⟨v2, rfl, HRz.out, HGz.out⟩
theorem addExpr2 {num : Int} {text : ByteArray} {parts : List TE} {params : List ByteArray} {body : List TS} {pa na ba : Option Addr} {pc nc bc : Nat} {B : Nat} {w : World} {v : Value} {l M : Bs} (hR : Bt B w v l) (hB : B ≤ w.heap.size) (hlM : l.length + M.length ≤ 1000000000) (hM : M = [116, 114, 117, 101]) :
 Calls Tryz.prog 50 #[v, .agg #[.int .i64 2, .int .i64 num, .string text, .slice pa parts.length pc, .slice na params.length nc, .slice ba body.length bc]] w fun en w' => ∃ v', en = .returned v' ∧ Bt B w' v' (l ++ M) ∧ Gr w w' v v' := by
 subst hM
 have hlT : l.length + 4 ≤ 1000000000 := by simp at hlM; omega
 clear hlM
 have HR0 : Hid (Bt B w v l) := hR
 clear hR
 go_enter Tryz.func50, Tryz.ntmps50
 go_wp2_with (at_builtin; refine Hid.out ?_)
 refine Lib.hid ?_
 obtain ⟨w1, hw1⟩ : ∃ w1, w1 = w.alloc (.cells #[.int .i64 2, .int .i64 num, .string text, .slice pa parts.length pc, .slice na params.length nc, .slice ba body.length bc] 65) := ⟨_, rfl⟩
 obtain ⟨gb, hgb⟩ : ∃ gb, gb = w.heap.size := ⟨_, rfl⟩
 have HBW : Hid (Below w.heap.size w w1) := by rw [hw1]; exact (Below.refl _ _).alloc (Nat.le_refl _) _
 have HBX : Hid (w1.heap[gb]? = some (.cells #[.int .i64 2, .int .i64 num, .string text, .slice pa parts.length pc, .slice na params.length nc, .slice ba body.length bc] 65 (0, 0))) := by rw [hw1, hgb]; exact heap_alloc_new _ _
 have HR : Hid (Bt B w1 v l) := by rw [hw1]; exact HR0.out.alloc _
 have hB1 : B ≤ w1.heap.size := Nat.le_trans hB HBW.out.size
 rw [← hw1, ← hgb]
 clear hw1 hgb
 refine wpList_app_str rfl (.tmp 17) _ rfl rfl HR.out hB1 ⟨#[116, 114, 117, 101]⟩ rfl (by show _ + 4 ≤ _; first | omega | (simp; omega)) ?_
 intro v2 w2 r2 g2
 have HR2 : Hid (Bt B w2 v2 (l ++ [116, 114, 117, 101])) := by show Bt _ _ _ _; simpa using r2
 have HG2 : Hid (Gr w1 w2 v v2) := by show Gr _ _ _ _; exact (Gr.refl _ _).trans g2
 have hB2 : B ≤ w2.heap.size := Nat.le_trans hB1 HG2.out.size
 clear r2 g2
 have HRz : Hid (Bt B w2 v2 (l ++ [116, 114, 117, 101])) := by show Bt _ _ _ _; simpa using HR2.out
 have HGz : Hid (Gr w w2 v v2) := by show Gr _ _ _ _; exact (HG2.out).pre HBW.out (fun k hk => (HR0.out.lt k hk).2)
 go_wp2
 go_ret
 exact ⟨v2, rfl, HRz.out, HGz.out⟩
theorem addExpr3 {num : Int} {text : ByteArray} {parts : List TE} {params : List ByteArray} {body : List TS} {pa na ba : Option Addr} {pc nc bc : Nat} {B : Nat} {w : World} {v : Value} {l M : Bs} (hR : Bt B w v l) (hB : B ≤ w.heap.size) (hlM : l.length + M.length ≤ 1000000000)
 (HM : Hid (∀ W u X, Bt B W u X → B ≤ W.heap.size → Below B w W → X.length + M.length ≤ 1000000000 → Calls Tryz.prog 79 #[u, .int .i64 num, .int .i64 10] W fun en W2 => ∃ u2, en = .returned u2 ∧ Bt B W2 u2 (X ++ M) ∧ Gr W W2 u u2)) :
 Calls Tryz.prog 50 #[v, .agg #[.int .i64 3, .int .i64 num, .string text, .slice pa parts.length pc, .slice na params.length nc, .slice ba body.length bc]] w fun en w' => ∃ v', en = .returned v' ∧ Bt B w' v' (l ++ M) ∧ Gr w w' v v' := by
 have HR0 : Hid (Bt B w v l) := hR
 clear hR
 go_enter Tryz.func50, Tryz.ntmps50
 go_wp2_with fail
 obtain ⟨w1, hw1⟩ : ∃ w1, w1 = w.alloc (.cells #[.int .i64 3, .int .i64 num, .string text, .slice pa parts.length pc, .slice na params.length nc, .slice ba body.length bc] 65) := ⟨_, rfl⟩
 obtain ⟨gb, hgb⟩ : ∃ gb, gb = w.heap.size := ⟨_, rfl⟩
 have HBW : Hid (Below w.heap.size w w1) := by rw [hw1]; exact (Below.refl _ _).alloc (Nat.le_refl _) _
 have HBX : Hid (w1.heap[gb]? = some (.cells #[.int .i64 3, .int .i64 num, .string text, .slice pa parts.length pc, .slice na params.length nc, .slice ba body.length bc] 65 (0, 0))) := by rw [hw1, hgb]; exact heap_alloc_new _ _
 have HR : Hid (Bt B w1 v l) := by rw [hw1]; exact HR0.out.alloc _
 have hB1 : B ≤ w1.heap.size := Nat.le_trans hB HBW.out.size
 rw [← hw1, ← hgb]
 clear hw1 hgb
 refine (HM.out _ _ _ HR.out hB1 (HBW.out.mono hB) hlM).mono ?_
 rintro e w2 ⟨v2, rfl, r2, g2⟩
 have HR2 : Hid (Bt B w2 v2 (l ++ M)) := by show Bt _ _ _ _; simpa using r2
 have HG2 : Hid (Gr w1 w2 v v2) := by show Gr _ _ _ _; exact (Gr.refl _ _).trans g2
 have hB2 : B ≤ w2.heap.size := Nat.le_trans hB1 HG2.out.size
 clear r2 g2
 have HRz : Hid (Bt B w2 v2 (l ++ M)) := by show Bt _ _ _ _; simpa using HR2.out
 have HGz : Hid (Gr w w2 v v2) := by show Gr _ _ _ _; exact (HG2.out).pre HBW.out (fun k hk => (HR0.out.lt k hk).2)
 go_wp2
 go_ret
 exact ⟨v2, rfl, HRz.out, HGz.out⟩
theorem addExpr4 {num : Int} {text : ByteArray} {parts : List TE} {params : List ByteArray} {body : List TS} {pa na ba : Option Addr} {pc nc bc : Nat} {B : Nat} {w : World} {v : Value} {l M : Bs} (hR : Bt B w v l) (hB : B ≤ w.heap.size) (hlM : l.length + M.length ≤ 1000000000)
 (HM : Hid (∀ W u X, Bt B W u X → B ≤ W.heap.size → Below B w W → X.length + M.length ≤ 1000000000 → Calls Tryz.prog 80 #[u, .string text] W fun en W2 => ∃ u2, en = .returned u2 ∧ Bt B W2 u2 (X ++ M) ∧ Gr W W2 u u2)) :
 Calls Tryz.prog 50 #[v, .agg #[.int .i64 4, .int .i64 num, .string text, .slice pa parts.length pc, .slice na params.length nc, .slice ba body.length bc]] w fun en w' => ∃ v', en = .returned v' ∧ Bt B w' v' (l ++ M) ∧ Gr w w' v v' := by
 have HR0 : Hid (Bt B w v l) := hR
 clear hR
 go_enter Tryz.func50, Tryz.ntmps50
 go_wp2_with fail
 obtain ⟨w1, hw1⟩ : ∃ w1, w1 = w.alloc (.cells #[.int .i64 4, .int .i64 num, .string text, .slice pa parts.length pc, .slice na params.length nc, .slice ba body.length bc] 65) := ⟨_, rfl⟩
 obtain ⟨gb, hgb⟩ : ∃ gb, gb = w.heap.size := ⟨_, rfl⟩
 have HBW : Hid (Below w.heap.size w w1) := by rw [hw1]; exact (Below.refl _ _).alloc (Nat.le_refl _) _
 have HBX : Hid (w1.heap[gb]? = some (.cells #[.int .i64 4, .int .i64 num, .string text, .slice pa parts.length pc, .slice na params.length nc, .slice ba body.length bc] 65 (0, 0))) := by rw [hw1, hgb]; exact heap_alloc_new _ _
 have HR : Hid (Bt B w1 v l) := by rw [hw1]; exact HR0.out.alloc _
 have hB1 : B ≤ w1.heap.size := Nat.le_trans hB HBW.out.size
 rw [← hw1, ← hgb]
 clear hw1 hgb
 refine (HM.out _ _ _ HR.out hB1 (HBW.out.mono hB) hlM).mono ?_
 rintro e w2 ⟨v2, rfl, r2, g2⟩
 have HR2 : Hid (Bt B w2 v2 (l ++ M)) := by show Bt _ _ _ _; simpa using r2
 have HG2 : Hid (Gr w1 w2 v v2) := by show Gr _ _ _ _; exact (Gr.refl _ _).trans g2
 have hB2 : B ≤ w2.heap.size := Nat.le_trans hB1 HG2.out.size
 clear r2 g2
 have HRz : Hid (Bt B w2 v2 (l ++ M)) := by show Bt _ _ _ _; simpa using HR2.out
 have HGz : Hid (Gr w w2 v v2) := by show Gr _ _ _ _; exact (HG2.out).pre HBW.out (fun k hk => (HR0.out.lt k hk).2)
 go_wp2
 go_ret
 exact ⟨v2, rfl, HRz.out, HGz.out⟩
theorem addExpr5 {num : Int} {text : ByteArray} {parts : List TE} {params : List ByteArray} {body : List TS} {pa na ba : Option Addr} {pc nc bc : Nat} {B : Nat} {w : World} {v : Value} {l M : Bs} (hR : Bt B w v l) (hB : B ≤ w.heap.size) (hlM : l.length + M.length ≤ 1000000000) (hM : M = text.data.toList) :
 Calls Tryz.prog 50 #[v, .agg #[.int .i64 5, .int .i64 num, .string text, .slice pa parts.length pc, .slice na params.length nc, .slice ba body.length bc]] w fun en w' => ∃ v', en = .returned v' ∧ Bt B w' v' (l ++ M) ∧ Gr w w' v v' := by
 have hlT : l.length + text.size ≤ 1000000000 := by rw [hM] at hlM; exact hlM
 subst hM
 clear hlM
 have HR0 : Hid (Bt B w v l) := hR
 clear hR
 go_enter Tryz.func50, Tryz.ntmps50
 go_wp2_with (at_builtin; refine Hid.out ?_)
 refine Lib.hid ?_
 obtain ⟨w1, hw1⟩ : ∃ w1, w1 = w.alloc (.cells #[.int .i64 5, .int .i64 num, .string text, .slice pa parts.length pc, .slice na params.length nc, .slice ba body.length bc] 65) := ⟨_, rfl⟩
 obtain ⟨gb, hgb⟩ : ∃ gb, gb = w.heap.size := ⟨_, rfl⟩
 have HBW : Hid (Below w.heap.size w w1) := by rw [hw1]; exact (Below.refl _ _).alloc (Nat.le_refl _) _
 have HBX : Hid (w1.heap[gb]? = some (.cells #[.int .i64 5, .int .i64 num, .string text, .slice pa parts.length pc, .slice na params.length nc, .slice ba body.length bc] 65 (0, 0))) := by rw [hw1, hgb]; exact heap_alloc_new _ _
 have HR : Hid (Bt B w1 v l) := by rw [hw1]; exact HR0.out.alloc _
 have hB1 : B ≤ w1.heap.size := Nat.le_trans hB HBW.out.size
 rw [← hw1, ← hgb]
 clear hw1 hgb
 refine wpList_app_str rfl (.tmp 33) (.tmp 35) rfl rfl HR.out hB1 text rfl (by show _ + text.size ≤ _; first | omega | (simp; omega)) ?_
 intro v2 w2 r2 g2
 have HR2 : Hid (Bt B w2 v2 (l ++ text.data.toList)) := by show Bt _ _ _ _; simpa using r2
 have HG2 : Hid (Gr w1 w2 v v2) := by show Gr _ _ _ _; exact (Gr.refl _ _).trans g2
 have hB2 : B ≤ w2.heap.size := Nat.le_trans hB1 HG2.out.size
 clear r2 g2
 have HRz : Hid (Bt B w2 v2 (l ++ text.data.toList)) := by show Bt _ _ _ _; simpa using HR2.out
 have HGz : Hid (Gr w w2 v v2) := by show Gr _ _ _ _; exact (HG2.out).pre HBW.out (fun k hk => (HR0.out.lt k hk).2)
 go_wp2
 go_ret
 exact ⟨v2, rfl, HRz.out, HGz.out⟩
theorem addExpr6 {num : Int} {text : ByteArray} {parts : List TE} {params : List ByteArray} {body : List TS} {pa na ba : Option Addr} {pc nc bc : Nat} {B : Nat} {w : World} {v : Value} {l M : Bs} (hR : Bt B w v l) (hB : B ≤ w.heap.size) (hlM : l.length + M.length ≤ 1000000000)
 (HM : Hid (∀ W u X, Bt B W u X → B ≤ W.heap.size → Below B w W → X.length + M.length ≤ 1000000000 → Calls Tryz.prog 81 #[u, .int .u8 45, .agg #[.int .i64 6, .int .i64 num, .string text, .slice pa parts.length pc, .slice na params.length nc, .slice ba body.length bc]] W fun en W2 => ∃ u2, en = .returned u2 ∧ Bt B W2 u2 (X ++ M) ∧ Gr W W2 u u2)) :
 Calls Tryz.prog 50 #[v, .agg #[.int .i64 6, .int .i64 num, .string text, .slice pa parts.length pc, .slice na params.length nc, .slice ba body.length bc]] w fun en w' => ∃ v', en = .returned v' ∧ Bt B w' v' (l ++ M) ∧ Gr w w' v v' := by
 have HR0 : Hid (Bt B w v l) := hR
 clear hR
 go_enter Tryz.func50, Tryz.ntmps50
 go_wp2_with fail
 obtain ⟨w1, hw1⟩ : ∃ w1, w1 = w.alloc (.cells #[.int .i64 6, .int .i64 num, .string text, .slice pa parts.length pc, .slice na params.length nc, .slice ba body.length bc] 65) := ⟨_, rfl⟩
 obtain ⟨gb, hgb⟩ : ∃ gb, gb = w.heap.size := ⟨_, rfl⟩
 have HBW : Hid (Below w.heap.size w w1) := by rw [hw1]; exact (Below.refl _ _).alloc (Nat.le_refl _) _
 have HBX : Hid (w1.heap[gb]? = some (.cells #[.int .i64 6, .int .i64 num, .string text, .slice pa parts.length pc, .slice na params.length nc, .slice ba body.length bc] 65 (0, 0))) := by rw [hw1, hgb]; exact heap_alloc_new _ _
 have HR : Hid (Bt B w1 v l) := by rw [hw1]; exact HR0.out.alloc _
 have hB1 : B ≤ w1.heap.size := Nat.le_trans hB HBW.out.size
 rw [← hw1, ← hgb]
 clear hw1 hgb
 refine (HM.out _ _ _ HR.out hB1 (HBW.out.mono hB) hlM).mono ?_
 rintro e w2 ⟨v2, rfl, r2, g2⟩
 have HR2 : Hid (Bt B w2 v2 (l ++ M)) := by show Bt _ _ _ _; simpa using r2
 have HG2 : Hid (Gr w1 w2 v v2) := by show Gr _ _ _ _; exact (Gr.refl _ _).trans g2
 have hB2 : B ≤ w2.heap.size := Nat.le_trans hB1 HG2.out.size
 clear r2 g2
 have HRz : Hid (Bt B w2 v2 (l ++ M)) := by show Bt _ _ _ _; simpa using HR2.out
 have HGz : Hid (Gr w w2 v v2) := by show Gr _ _ _ _; exact (HG2.out).pre HBW.out (fun k hk => (HR0.out.lt k hk).2)
 go_wp2
 go_ret
 exact ⟨v2, rfl, HRz.out, HGz.out⟩
theorem addExpr7 {num : Int} {text : ByteArray} {parts : List TE} {params : List ByteArray} {body : List TS} {pa na ba : Option Addr} {pc nc bc : Nat} {B : Nat} {w : World} {v : Value} {l M : Bs} (hR : Bt B w v l) (hB : B ≤ w.heap.size) (hlM : l.length + M.length ≤ 1000000000)
 (HM : Hid (∀ W u X, Bt B W u X → B ≤ W.heap.size → Below B w W → X.length + M.length ≤ 1000000000 → Calls Tryz.prog 81 #[u, .int .u8 33, .agg #[.int .i64 7, .int .i64 num, .string text, .slice pa parts.length pc, .slice na params.length nc, .slice ba body.length bc]] W fun en W2 => ∃ u2, en = .returned u2 ∧ Bt B W2 u2 (X ++ M) ∧ Gr W W2 u u2)) :
 Calls Tryz.prog 50 #[v, .agg #[.int .i64 7, .int .i64 num, .string text, .slice pa parts.length pc, .slice na params.length nc, .slice ba body.length bc]] w fun en w' => ∃ v', en = .returned v' ∧ Bt B w' v' (l ++ M) ∧ Gr w w' v v' := by
 have HR0 : Hid (Bt B w v l) := hR
 clear hR
 go_enter Tryz.func50, Tryz.ntmps50
 go_wp2_with fail
 obtain ⟨w1, hw1⟩ : ∃ w1, w1 = w.alloc (.cells #[.int .i64 7, .int .i64 num, .string text, .slice pa parts.length pc, .slice na params.length nc, .slice ba body.length bc] 65) := ⟨_, rfl⟩
 obtain ⟨gb, hgb⟩ : ∃ gb, gb = w.heap.size := ⟨_, rfl⟩
 have HBW : Hid (Below w.heap.size w w1) := by rw [hw1]; exact (Below.refl _ _).alloc (Nat.le_refl _) _
 have HBX : Hid (w1.heap[gb]? = some (.cells #[.int .i64 7, .int .i64 num, .string text, .slice pa parts.length pc, .slice na params.length nc, .slice ba body.length bc] 65 (0, 0))) := by rw [hw1, hgb]; exact heap_alloc_new _ _
 have HR : Hid (Bt B w1 v l) := by rw [hw1]; exact HR0.out.alloc _
 have hB1 : B ≤ w1.heap.size := Nat.le_trans hB HBW.out.size
 rw [← hw1, ← hgb]
 clear hw1 hgb
 refine (HM.out _ _ _ HR.out hB1 (HBW.out.mono hB) hlM).mono ?_
 rintro e w2 ⟨v2, rfl, r2, g2⟩
 have HR2 : Hid (Bt B w2 v2 (l ++ M)) := by show Bt _ _ _ _; simpa using r2
 have HG2 : Hid (Gr w1 w2 v v2) := by show Gr _ _ _ _; exact (Gr.refl _ _).trans g2
 have hB2 : B ≤ w2.heap.size := Nat.le_trans hB1 HG2.out.size
 clear r2 g2
 have HRz : Hid (Bt B w2 v2 (l ++ M)) := by show Bt _ _ _ _; simpa using HR2.out
 have HGz : Hid (Gr w w2 v v2) := by show Gr _ _ _ _; exact (HG2.out).pre HBW.out (fun k hk => (HR0.out.lt k hk).2)
 go_wp2
 go_ret
 exact ⟨v2, rfl, HRz.out, HGz.out⟩
theorem addExpr8 {num : Int} {text : ByteArray} {parts : List TE} {params : List ByteArray} {body : List TS} {pa na ba : Option Addr} {pc nc bc : Nat} {B : Nat} {w : World} {v : Value} {l M : Bs} (hR : Bt B w v l) (hB : B ≤ w.heap.size) (hlM : l.length + M.length ≤ 1000000000) (hS : ∀ W, Below B w W → W.cell? ⟨0, 8, none⟩ = some (.string ⟨(sign 8).toArray⟩))
 (HM : Hid (∀ W u X, Bt B W u X → B ≤ W.heap.size → Below B w W → X.length + M.length ≤ 1000000000 → Calls Tryz.prog 82 #[u, .string ⟨(sign 8).toArray⟩, .agg #[.int .i64 8, .int .i64 num, .string text, .slice pa parts.length pc, .slice na params.length nc, .slice ba body.length bc]] W fun en W2 => ∃ u2, en = .returned u2 ∧ Bt B W2 u2 (X ++ M) ∧ Gr W W2 u u2)) :
 Calls Tryz.prog 50 #[v, .agg #[.int .i64 8, .int .i64 num, .string text, .slice pa parts.length pc, .slice na params.length nc, .slice ba body.length bc]] w fun en w' => ∃ v', en = .returned v' ∧ Bt B w' v' (l ++ M) ∧ Gr w w' v v' := by
 have HR0 : Hid (Bt B w v l) := hR
 clear hR
 have HS := Lib.hid hS
 clear hS
 go_enter Tryz.func50, Tryz.ntmps50
 go_wp2_with fail
 obtain ⟨w1, hw1⟩ : ∃ w1, w1 = w.alloc (.cells #[.int .i64 8, .int .i64 num, .string text, .slice pa parts.length pc, .slice na params.length nc, .slice ba body.length bc] 65) := ⟨_, rfl⟩
 obtain ⟨gb, hgb⟩ : ∃ gb, gb = w.heap.size := ⟨_, rfl⟩
 have HBW : Hid (Below w.heap.size w w1) := by rw [hw1]; exact (Below.refl _ _).alloc (Nat.le_refl _) _
 have HBX : Hid (w1.heap[gb]? = some (.cells #[.int .i64 8, .int .i64 num, .string text, .slice pa parts.length pc, .slice na params.length nc, .slice ba body.length bc] 65 (0, 0))) := by rw [hw1, hgb]; exact heap_alloc_new _ _
 have HR : Hid (Bt B w1 v l) := by rw [hw1]; exact HR0.out.alloc _
 have hB1 : B ≤ w1.heap.size := Nat.le_trans hB HBW.out.size
 rw [← hw1, ← hgb]
 clear hw1 hgb
 refine region_sh (valX v gb 8 (.string ⟨(sign 8).toArray⟩) (.agg #[.int .i64 8, .int .i64 num, .string text, .slice pa parts.length pc, .slice na params.length nc, .slice ba body.length bc])) (JC B w1 v l [(6, 60, M), (7, 4, [])] 1000 1000 1001 [] 1000 0) (by kernel_rfl) (by kernel_rfl) (by kernel_rfl) (JC.start HR.out _ rfl) ?_ ?_
 ·intro hon q hq L a1 W hC hl hBh hS hJ K hK
  have hqn : q < 8 := hq
  clear hq
  rcases (show q = 0 ∨ q = 1 ∨ q = 2 ∨ q = 3 ∨ q = 4 ∨ q = 5 ∨ q = 6 ∨ q = 7 from by omega) with rfl | rfl | rfl | rfl | rfl | rfl | rfl | rfl
  ·have e0 := (eval_tmp a1 0).symm.trans ((hS.kept 0 (by kernel_rfl)).trans rfl)
   refine wpOp_step rfl (fun K' hK' => ?_)
   go_simp
   exact hK' _ _ (hK _ _ (hS.put hon (i := 0) rfl rfl (fun u hu => by cases hu; rfl)) (hJ.pure (by simp) (by decide)))
  ·have e3 := (eval_tmp a1 3).symm.trans ((hS.kept 3 (by kernel_rfl)).trans rfl)
   refine wpOp_step rfl (fun K' hK' => ?_)
   go_simp
   exact hK' _ _ (hK _ _ (hS.put hon (i := 1) rfl rfl (fun u hu => by cases hu; rfl)) (hJ.pure (by simp) (by decide)))
  ·have e55 := (eval_tmp a1 55).symm.trans (hS.get hBh (i := 2) rfl 1 (by simp) rfl rfl rfl)
   have hbx : W.heap[gb]? = _ := HR.out.block hJ.gr HBX.out (by decide)
   have hcl2 : W.cell? ⟨gb, 0, none⟩ = some (.int .i64 8) := by simp [World.cell?, hbx]
   refine wpOp_step rfl (fun K' hK' => ?_)
   go_simp
   exact hK' _ _ (hK _ _ (hS.put hon (i := 2) rfl rfl (fun u hu => by cases hu; rfl)) (hJ.pure (by simp) (by decide)))
  ·have e56 := (eval_tmp a1 56).symm.trans (hS.get hBh (i := 3) rfl 2 (by simp) rfl rfl rfl)
   refine wpOp_step rfl (fun K' hK' => ?_)
   go_simp
   exact hK' _ _ (hK _ _ (hS.put hon (i := 3) rfl rfl (fun u hu => by cases hu; rfl)) (hJ.pure (by simp) (by decide)))
  ·have e57 := (eval_tmp a1 57).symm.trans (hS.get hBh (i := 4) rfl 3 (by simp) rfl rfl rfl)
   have hsg := HS.out W ((HBW.out.mono hB).trans (HR.out.bel hJ.gr hB1))
   refine wpOp_step rfl (fun K' hK' => ?_)
   go_simp
   exact hK' _ _ (hK _ _ (hS.put hon (i := 4) rfl rfl (fun u hu => by cases hu; rfl)) (hJ.pure (by simp) (by decide)))
  ·have e3 := (eval_tmp a1 3).symm.trans ((hS.kept 3 (by kernel_rfl)).trans rfl)
   have hbx : W.heap[gb]? = _ := HR.out.block hJ.gr HBX.out (by decide)
   have hq0 : W.cell? ⟨gb, 0, none⟩ = some (.int .i64 8) := by simp [World.cell?, hbx]
   have hq1 : W.cell? ⟨gb, 1, none⟩ = some (.int .i64 num) := by simp [World.cell?, hbx]
   have hq2 : W.cell? ⟨gb, 2, none⟩ = some (.string text) := by simp [World.cell?, hbx]
   have hq3 : W.cell? ⟨gb, 3, none⟩ = some (.slice pa parts.length pc) := by simp [World.cell?, hbx]
   have hq4 : W.cell? ⟨gb, 4, none⟩ = some (.slice na params.length nc) := by simp [World.cell?, hbx]
   have hq5 : W.cell? ⟨gb, 5, none⟩ = some (.slice ba body.length bc) := by simp [World.cell?, hbx]
   refine wpOp_step rfl (fun K' hK' => ?_)
   go_simp
   exact hK' _ _ (hK _ _ (hS.put hon (i := 5) rfl rfl (fun u hu => by cases hu; rfl)) (hJ.pure (by simp) (by decide)))
  ·have n7 : L 7 = false := closed_not hC hl (i := 7) (j := 6) rfl (g := .data) (by simp) rfl
   have hx : curX L l [(6, 60, M), (7, 4, [])] = l := by simp [curX, hl]
   have e54 := (eval_tmp a1 54).symm.trans (hS.get hBh (i := 6) rfl 0 (by simp) rfl rfl rfl)
   have e58 := (eval_tmp a1 58).symm.trans (hS.get hBh (i := 6) rfl 4 (by simp) rfl rfl rfl)
   have e59 := (eval_tmp a1 59).symm.trans (hS.get hBh (i := 6) rfl 5 (by simp) rfl rfl rfl)
   have hrow := hJ.row
   rw [hx] at hrow
   have hcu : cur L a1 v [(6, 60, M), (7, 4, [])] = v := (by simp [cur, hl])
   rw [hcu] at hrow
   have hgr := hJ.gr
   rw [hcu] at hgr
   have hB2 : B ≤ W.heap.size := Nat.le_trans hB1 hgr.size
   have hbel := HR.out.bel hgr hB1
   refine wpOp_call (f := 82) (args := #[v, .string ⟨(sign 8).toArray⟩, .agg #[.int .i64 8, .int .i64 num, .string text, .slice pa parts.length pc, .slice na params.length nc, .slice ba body.length bc]]) (R := fun u W2 => Bt B W2 u (l ++ (M)) ∧ Gr W W2 v u) rfl rfl (by simp [execOp, resolve, invoke, e54, e58, e59, go_sem]) ((HM.out W v _ hrow hB2 ((HBW.out.mono hB).trans hbel) (by first | omega | (simp; omega))).mono fun e W2 ⟨u, h1, h2, h3⟩ => ⟨u, h1, h2, h3⟩) ?_
   rintro u W2 ⟨r1, r2⟩
   exact hK _ _ (hS.put hon (i := 6) rfl rfl (fun u hu => by cases hu)) (hJ.step (C1 := []) (C2 := [(7, 4, [])]) (by rw [hS.size]; exact (by decide : (60 : Nat) < 83)) (by simp) hl (by simp [n7]) (by decide) (by show Bt B W2 u (curX L l [(6, 60, M), (7, 4, [])] ++ (M)); rw [hx]; exact r1) (by show Gr W W2 (cur L a1 v [(6, 60, M), (7, 4, [])]) u; rw [hcu]; exact r2))
  ·have d6 : L 6 = true := hBh _ rfl ⟨6, .data⟩ (by simp) rfl
   obtain ⟨vc, hvc⟩ : ∃ x, a1.eval (.tmp 60) = x := ⟨_, rfl⟩
   have hx : curX L l [(6, 60, M), (7, 4, [])] = l ++ (M) := by simp [curX, d6, hl]
   have e9 := (eval_tmp a1 60).symm.trans hvc
   refine wpOp_step rfl (fun K' hK' => ?_)
   go_simp
   exact hK' _ _ (hK _ _ (hS.put hon (i := 7) rfl rfl (fun u hu => by cases hu)) (hJ.hand (C1 := [(6, 60, M)]) (C2 := []) (by rw [hS.size]; exact (by decide : (4 : Nat) < 83)) (by simp [d6]) hl (by simp) (by decide) (by rw [← hvc]; simp [cur, d6, hl])))
 ·intro L a1 w2 hl hS hJ
  have d6 : L 6 = true := hl 6 (by decide)
  have d7 : L 7 = true := hl 7 (by decide)
  have hcu : cur L a1 v [(6, 60, M), (7, 4, [])] = a1.eval (.tmp 4) := by simp [cur, d6, d7]
  have hx : curX L l [(6, 60, M), (7, 4, [])] = l ++ (M) := by simp [curX, d6, d7]
  have hrow := hJ.row
  have hgr := hJ.gr
  rw [hcu] at hgr
  rw [hcu, hx] at hrow
  have hfr := hS.frame [54, 55, 56, 57, 58, 59, 60, 4] rfl
  refine (‹∀ (a : Act) (w : World), Code.wp Tryz.prog _ _ a w → _› a1 w2 ?_)
  obtain ⟨z, hz⟩ : ∃ z : Nat → Value, z = fun k => a1.eval (.tmp k) := ⟨_, rfl⟩
  rw [← hz] at hfr
  have ze : a1.eval (.tmp 4) = z 4 := by rw [hz]
  rw [ze] at hrow hgr
  rw [hfr]
  clear hfr ze hz hS hJ hcu hx hl d6 d7
  simp only [over, List.setIfInBounds_toArray, List.set_cons_zero, List.set_cons_succ]
  obtain ⟨v2, hv⟩ : ∃ u, z 4 = u := ⟨_, rfl⟩
  rw [hv] at hrow hgr ⊢
  clear hv
  have r2 := hrow
  have g2 := hgr
  clear hrow hgr
  have HR2 : Hid (Bt B w2 v2 (l ++ M)) := by show Bt _ _ _ _; simpa using r2
  have HG2 : Hid (Gr w1 w2 v v2) := by show Gr _ _ _ _; exact (Gr.refl _ _).trans g2
  have hB2 : B ≤ w2.heap.size := Nat.le_trans hB1 HG2.out.size
  clear r2 g2
  have HRz : Hid (Bt B w2 v2 (l ++ M)) := by show Bt _ _ _ _; simpa using HR2.out
  have HGz : Hid (Gr w w2 v v2) := by show Gr _ _ _ _; exact (HG2.out).pre HBW.out (fun k hk => (HR0.out.lt k hk).2)
  go_wp2
  go_ret
  exact ⟨v2, rfl, HRz.out, HGz.out⟩
theorem addExpr9 {num : Int} {text : ByteArray} {parts : List TE} {params : List ByteArray} {body : List TS} {pa na ba : Option Addr} {pc nc bc : Nat} {B : Nat} {w : World} {v : Value} {l M : Bs} (hR : Bt B w v l) (hB : B ≤ w.heap.size) (hlM : l.length + M.length ≤ 1000000000) (hS : ∀ W, Below B w W → W.cell? ⟨0, 9, none⟩ = some (.string ⟨(sign 9).toArray⟩))
 (HM : Hid (∀ W u X, Bt B W u X → B ≤ W.heap.size → Below B w W → X.length + M.length ≤ 1000000000 → Calls Tryz.prog 82 #[u, .string ⟨(sign 9).toArray⟩, .agg #[.int .i64 9, .int .i64 num, .string text, .slice pa parts.length pc, .slice na params.length nc, .slice ba body.length bc]] W fun en W2 => ∃ u2, en = .returned u2 ∧ Bt B W2 u2 (X ++ M) ∧ Gr W W2 u u2)) :
 Calls Tryz.prog 50 #[v, .agg #[.int .i64 9, .int .i64 num, .string text, .slice pa parts.length pc, .slice na params.length nc, .slice ba body.length bc]] w fun en w' => ∃ v', en = .returned v' ∧ Bt B w' v' (l ++ M) ∧ Gr w w' v v' := by
 have HR0 : Hid (Bt B w v l) := hR
 clear hR
 have HS := Lib.hid hS
 clear hS
 go_enter Tryz.func50, Tryz.ntmps50
 go_wp2_with fail
 obtain ⟨w1, hw1⟩ : ∃ w1, w1 = w.alloc (.cells #[.int .i64 9, .int .i64 num, .string text, .slice pa parts.length pc, .slice na params.length nc, .slice ba body.length bc] 65) := ⟨_, rfl⟩
 obtain ⟨gb, hgb⟩ : ∃ gb, gb = w.heap.size := ⟨_, rfl⟩
 have HBW : Hid (Below w.heap.size w w1) := by rw [hw1]; exact (Below.refl _ _).alloc (Nat.le_refl _) _
 have HBX : Hid (w1.heap[gb]? = some (.cells #[.int .i64 9, .int .i64 num, .string text, .slice pa parts.length pc, .slice na params.length nc, .slice ba body.length bc] 65 (0, 0))) := by rw [hw1, hgb]; exact heap_alloc_new _ _
 have HR : Hid (Bt B w1 v l) := by rw [hw1]; exact HR0.out.alloc _
 have hB1 : B ≤ w1.heap.size := Nat.le_trans hB HBW.out.size
 rw [← hw1, ← hgb]
 clear hw1 hgb
 refine region_sh (valX v gb 9 (.string ⟨(sign 9).toArray⟩) (.agg #[.int .i64 9, .int .i64 num, .string text, .slice pa parts.length pc, .slice na params.length nc, .slice ba body.length bc])) (JC B w1 v l [(6, 60, M), (7, 4, [])] 1000 1000 1001 [] 1000 0) (by kernel_rfl) (by kernel_rfl) (by kernel_rfl) (JC.start HR.out _ rfl) ?_ ?_
 ·intro hon q hq L a1 W hC hl hBh hS hJ K hK
  have hqn : q < 8 := hq
  clear hq
  rcases (show q = 0 ∨ q = 1 ∨ q = 2 ∨ q = 3 ∨ q = 4 ∨ q = 5 ∨ q = 6 ∨ q = 7 from by omega) with rfl | rfl | rfl | rfl | rfl | rfl | rfl | rfl
  ·have e0 := (eval_tmp a1 0).symm.trans ((hS.kept 0 (by kernel_rfl)).trans rfl)
   refine wpOp_step rfl (fun K' hK' => ?_)
   go_simp
   exact hK' _ _ (hK _ _ (hS.put hon (i := 0) rfl rfl (fun u hu => by cases hu; rfl)) (hJ.pure (by simp) (by decide)))
  ·have e3 := (eval_tmp a1 3).symm.trans ((hS.kept 3 (by kernel_rfl)).trans rfl)
   refine wpOp_step rfl (fun K' hK' => ?_)
   go_simp
   exact hK' _ _ (hK _ _ (hS.put hon (i := 1) rfl rfl (fun u hu => by cases hu; rfl)) (hJ.pure (by simp) (by decide)))
  ·have e55 := (eval_tmp a1 55).symm.trans (hS.get hBh (i := 2) rfl 1 (by simp) rfl rfl rfl)
   have hbx : W.heap[gb]? = _ := HR.out.block hJ.gr HBX.out (by decide)
   have hcl2 : W.cell? ⟨gb, 0, none⟩ = some (.int .i64 9) := by simp [World.cell?, hbx]
   refine wpOp_step rfl (fun K' hK' => ?_)
   go_simp
   exact hK' _ _ (hK _ _ (hS.put hon (i := 2) rfl rfl (fun u hu => by cases hu; rfl)) (hJ.pure (by simp) (by decide)))
  ·have e56 := (eval_tmp a1 56).symm.trans (hS.get hBh (i := 3) rfl 2 (by simp) rfl rfl rfl)
   refine wpOp_step rfl (fun K' hK' => ?_)
   go_simp
   exact hK' _ _ (hK _ _ (hS.put hon (i := 3) rfl rfl (fun u hu => by cases hu; rfl)) (hJ.pure (by simp) (by decide)))
  ·have e57 := (eval_tmp a1 57).symm.trans (hS.get hBh (i := 4) rfl 3 (by simp) rfl rfl rfl)
   have hsg := HS.out W ((HBW.out.mono hB).trans (HR.out.bel hJ.gr hB1))
   refine wpOp_step rfl (fun K' hK' => ?_)
   go_simp
   exact hK' _ _ (hK _ _ (hS.put hon (i := 4) rfl rfl (fun u hu => by cases hu; rfl)) (hJ.pure (by simp) (by decide)))
  ·have e3 := (eval_tmp a1 3).symm.trans ((hS.kept 3 (by kernel_rfl)).trans rfl)
   have hbx : W.heap[gb]? = _ := HR.out.block hJ.gr HBX.out (by decide)
   have hq0 : W.cell? ⟨gb, 0, none⟩ = some (.int .i64 9) := by simp [World.cell?, hbx]
   have hq1 : W.cell? ⟨gb, 1, none⟩ = some (.int .i64 num) := by simp [World.cell?, hbx]
   have hq2 : W.cell? ⟨gb, 2, none⟩ = some (.string text) := by simp [World.cell?, hbx]
   have hq3 : W.cell? ⟨gb, 3, none⟩ = some (.slice pa parts.length pc) := by simp [World.cell?, hbx]
   have hq4 : W.cell? ⟨gb, 4, none⟩ = some (.slice na params.length nc) := by simp [World.cell?, hbx]
   have hq5 : W.cell? ⟨gb, 5, none⟩ = some (.slice ba body.length bc) := by simp [World.cell?, hbx]
   refine wpOp_step rfl (fun K' hK' => ?_)
   go_simp
   exact hK' _ _ (hK _ _ (hS.put hon (i := 5) rfl rfl (fun u hu => by cases hu; rfl)) (hJ.pure (by simp) (by decide)))
  ·have n7 : L 7 = false := closed_not hC hl (i := 7) (j := 6) rfl (g := .data) (by simp) rfl
   have hx : curX L l [(6, 60, M), (7, 4, [])] = l := by simp [curX, hl]
   have e54 := (eval_tmp a1 54).symm.trans (hS.get hBh (i := 6) rfl 0 (by simp) rfl rfl rfl)
   have e58 := (eval_tmp a1 58).symm.trans (hS.get hBh (i := 6) rfl 4 (by simp) rfl rfl rfl)
   have e59 := (eval_tmp a1 59).symm.trans (hS.get hBh (i := 6) rfl 5 (by simp) rfl rfl rfl)
   have hrow := hJ.row
   rw [hx] at hrow
   have hcu : cur L a1 v [(6, 60, M), (7, 4, [])] = v := (by simp [cur, hl])
   rw [hcu] at hrow
   have hgr := hJ.gr
   rw [hcu] at hgr
   have hB2 : B ≤ W.heap.size := Nat.le_trans hB1 hgr.size
   have hbel := HR.out.bel hgr hB1
   refine wpOp_call (f := 82) (args := #[v, .string ⟨(sign 9).toArray⟩, .agg #[.int .i64 9, .int .i64 num, .string text, .slice pa parts.length pc, .slice na params.length nc, .slice ba body.length bc]]) (R := fun u W2 => Bt B W2 u (l ++ (M)) ∧ Gr W W2 v u) rfl rfl (by simp [execOp, resolve, invoke, e54, e58, e59, go_sem]) ((HM.out W v _ hrow hB2 ((HBW.out.mono hB).trans hbel) (by first | omega | (simp; omega))).mono fun e W2 ⟨u, h1, h2, h3⟩ => ⟨u, h1, h2, h3⟩) ?_
   rintro u W2 ⟨r1, r2⟩
   exact hK _ _ (hS.put hon (i := 6) rfl rfl (fun u hu => by cases hu)) (hJ.step (C1 := []) (C2 := [(7, 4, [])]) (by rw [hS.size]; exact (by decide : (60 : Nat) < 83)) (by simp) hl (by simp [n7]) (by decide) (by show Bt B W2 u (curX L l [(6, 60, M), (7, 4, [])] ++ (M)); rw [hx]; exact r1) (by show Gr W W2 (cur L a1 v [(6, 60, M), (7, 4, [])]) u; rw [hcu]; exact r2))
  ·have d6 : L 6 = true := hBh _ rfl ⟨6, .data⟩ (by simp) rfl
   obtain ⟨vc, hvc⟩ : ∃ x, a1.eval (.tmp 60) = x := ⟨_, rfl⟩
   have hx : curX L l [(6, 60, M), (7, 4, [])] = l ++ (M) := by simp [curX, d6, hl]
   have e9 := (eval_tmp a1 60).symm.trans hvc
   refine wpOp_step rfl (fun K' hK' => ?_)
   go_simp
   exact hK' _ _ (hK _ _ (hS.put hon (i := 7) rfl rfl (fun u hu => by cases hu)) (hJ.hand (C1 := [(6, 60, M)]) (C2 := []) (by rw [hS.size]; exact (by decide : (4 : Nat) < 83)) (by simp [d6]) hl (by simp) (by decide) (by rw [← hvc]; simp [cur, d6, hl])))
 ·intro L a1 w2 hl hS hJ
  have d6 : L 6 = true := hl 6 (by decide)
  have d7 : L 7 = true := hl 7 (by decide)
  have hcu : cur L a1 v [(6, 60, M), (7, 4, [])] = a1.eval (.tmp 4) := by simp [cur, d6, d7]
  have hx : curX L l [(6, 60, M), (7, 4, [])] = l ++ (M) := by simp [curX, d6, d7]
  have hrow := hJ.row
  have hgr := hJ.gr
  rw [hcu] at hgr
  rw [hcu, hx] at hrow
  have hfr := hS.frame [54, 55, 56, 57, 58, 59, 60, 4] rfl
  refine (‹∀ (a : Act) (w : World), Code.wp Tryz.prog _ _ a w → _› a1 w2 ?_)
  obtain ⟨z, hz⟩ : ∃ z : Nat → Value, z = fun k => a1.eval (.tmp k) := ⟨_, rfl⟩
  rw [← hz] at hfr
  have ze : a1.eval (.tmp 4) = z 4 := by rw [hz]
  rw [ze] at hrow hgr
  rw [hfr]
  clear hfr ze hz hS hJ hcu hx hl d6 d7
  simp only [over, List.setIfInBounds_toArray, List.set_cons_zero, List.set_cons_succ]
  obtain ⟨v2, hv⟩ : ∃ u, z 4 = u := ⟨_, rfl⟩
  rw [hv] at hrow hgr ⊢
  clear hv
  have r2 := hrow
  have g2 := hgr
  clear hrow hgr
  have HR2 : Hid (Bt B w2 v2 (l ++ M)) := by show Bt _ _ _ _; simpa using r2
  have HG2 : Hid (Gr w1 w2 v v2) := by show Gr _ _ _ _; exact (Gr.refl _ _).trans g2
  have hB2 : B ≤ w2.heap.size := Nat.le_trans hB1 HG2.out.size
  clear r2 g2
  have HRz : Hid (Bt B w2 v2 (l ++ M)) := by show Bt _ _ _ _; simpa using HR2.out
  have HGz : Hid (Gr w w2 v v2) := by show Gr _ _ _ _; exact (HG2.out).pre HBW.out (fun k hk => (HR0.out.lt k hk).2)
  go_wp2
  go_ret
  exact ⟨v2, rfl, HRz.out, HGz.out⟩
theorem addExpr10 {num : Int} {text : ByteArray} {parts : List TE} {params : List ByteArray} {body : List TS} {pa na ba : Option Addr} {pc nc bc : Nat} {B : Nat} {w : World} {v : Value} {l M : Bs} (hR : Bt B w v l) (hB : B ≤ w.heap.size) (hlM : l.length + M.length ≤ 1000000000) (hS : ∀ W, Below B w W → W.cell? ⟨0, 10, none⟩ = some (.string ⟨(sign 10).toArray⟩))
 (HM : Hid (∀ W u X, Bt B W u X → B ≤ W.heap.size → Below B w W → X.length + M.length ≤ 1000000000 → Calls Tryz.prog 82 #[u, .string ⟨(sign 10).toArray⟩, .agg #[.int .i64 10, .int .i64 num, .string text, .slice pa parts.length pc, .slice na params.length nc, .slice ba body.length bc]] W fun en W2 => ∃ u2, en = .returned u2 ∧ Bt B W2 u2 (X ++ M) ∧ Gr W W2 u u2)) :
 Calls Tryz.prog 50 #[v, .agg #[.int .i64 10, .int .i64 num, .string text, .slice pa parts.length pc, .slice na params.length nc, .slice ba body.length bc]] w fun en w' => ∃ v', en = .returned v' ∧ Bt B w' v' (l ++ M) ∧ Gr w w' v v' := by
 have HR0 : Hid (Bt B w v l) := hR
 clear hR
 have HS := Lib.hid hS
 clear hS
 go_enter Tryz.func50, Tryz.ntmps50
 go_wp2_with fail
 obtain ⟨w1, hw1⟩ : ∃ w1, w1 = w.alloc (.cells #[.int .i64 10, .int .i64 num, .string text, .slice pa parts.length pc, .slice na params.length nc, .slice ba body.length bc] 65) := ⟨_, rfl⟩
 obtain ⟨gb, hgb⟩ : ∃ gb, gb = w.heap.size := ⟨_, rfl⟩
 have HBW : Hid (Below w.heap.size w w1) := by rw [hw1]; exact (Below.refl _ _).alloc (Nat.le_refl _) _
 have HBX : Hid (w1.heap[gb]? = some (.cells #[.int .i64 10, .int .i64 num, .string text, .slice pa parts.length pc, .slice na params.length nc, .slice ba body.length bc] 65 (0, 0))) := by rw [hw1, hgb]; exact heap_alloc_new _ _
 have HR : Hid (Bt B w1 v l) := by rw [hw1]; exact HR0.out.alloc _
 have hB1 : B ≤ w1.heap.size := Nat.le_trans hB HBW.out.size
 rw [← hw1, ← hgb]
 clear hw1 hgb
 refine region_sh (valX v gb 10 (.string ⟨(sign 10).toArray⟩) (.agg #[.int .i64 10, .int .i64 num, .string text, .slice pa parts.length pc, .slice na params.length nc, .slice ba body.length bc])) (JC B w1 v l [(6, 60, M), (7, 4, [])] 1000 1000 1001 [] 1000 0) (by kernel_rfl) (by kernel_rfl) (by kernel_rfl) (JC.start HR.out _ rfl) ?_ ?_
 ·intro hon q hq L a1 W hC hl hBh hS hJ K hK
  have hqn : q < 8 := hq
  clear hq
  rcases (show q = 0 ∨ q = 1 ∨ q = 2 ∨ q = 3 ∨ q = 4 ∨ q = 5 ∨ q = 6 ∨ q = 7 from by omega) with rfl | rfl | rfl | rfl | rfl | rfl | rfl | rfl
  ·have e0 := (eval_tmp a1 0).symm.trans ((hS.kept 0 (by kernel_rfl)).trans rfl)
   refine wpOp_step rfl (fun K' hK' => ?_)
   go_simp
   exact hK' _ _ (hK _ _ (hS.put hon (i := 0) rfl rfl (fun u hu => by cases hu; rfl)) (hJ.pure (by simp) (by decide)))
  ·have e3 := (eval_tmp a1 3).symm.trans ((hS.kept 3 (by kernel_rfl)).trans rfl)
   refine wpOp_step rfl (fun K' hK' => ?_)
   go_simp
   exact hK' _ _ (hK _ _ (hS.put hon (i := 1) rfl rfl (fun u hu => by cases hu; rfl)) (hJ.pure (by simp) (by decide)))
  ·have e55 := (eval_tmp a1 55).symm.trans (hS.get hBh (i := 2) rfl 1 (by simp) rfl rfl rfl)
   have hbx : W.heap[gb]? = _ := HR.out.block hJ.gr HBX.out (by decide)
   have hcl2 : W.cell? ⟨gb, 0, none⟩ = some (.int .i64 10) := by simp [World.cell?, hbx]
   refine wpOp_step rfl (fun K' hK' => ?_)
   go_simp
   exact hK' _ _ (hK _ _ (hS.put hon (i := 2) rfl rfl (fun u hu => by cases hu; rfl)) (hJ.pure (by simp) (by decide)))
  ·have e56 := (eval_tmp a1 56).symm.trans (hS.get hBh (i := 3) rfl 2 (by simp) rfl rfl rfl)
   refine wpOp_step rfl (fun K' hK' => ?_)
   go_simp
   exact hK' _ _ (hK _ _ (hS.put hon (i := 3) rfl rfl (fun u hu => by cases hu; rfl)) (hJ.pure (by simp) (by decide)))
  ·have e57 := (eval_tmp a1 57).symm.trans (hS.get hBh (i := 4) rfl 3 (by simp) rfl rfl rfl)
   have hsg := HS.out W ((HBW.out.mono hB).trans (HR.out.bel hJ.gr hB1))
   refine wpOp_step rfl (fun K' hK' => ?_)
   go_simp
   exact hK' _ _ (hK _ _ (hS.put hon (i := 4) rfl rfl (fun u hu => by cases hu; rfl)) (hJ.pure (by simp) (by decide)))
  ·have e3 := (eval_tmp a1 3).symm.trans ((hS.kept 3 (by kernel_rfl)).trans rfl)
   have hbx : W.heap[gb]? = _ := HR.out.block hJ.gr HBX.out (by decide)
   have hq0 : W.cell? ⟨gb, 0, none⟩ = some (.int .i64 10) := by simp [World.cell?, hbx]
   have hq1 : W.cell? ⟨gb, 1, none⟩ = some (.int .i64 num) := by simp [World.cell?, hbx]
   have hq2 : W.cell? ⟨gb, 2, none⟩ = some (.string text) := by simp [World.cell?, hbx]
   have hq3 : W.cell? ⟨gb, 3, none⟩ = some (.slice pa parts.length pc) := by simp [World.cell?, hbx]
   have hq4 : W.cell? ⟨gb, 4, none⟩ = some (.slice na params.length nc) := by simp [World.cell?, hbx]
   have hq5 : W.cell? ⟨gb, 5, none⟩ = some (.slice ba body.length bc) := by simp [World.cell?, hbx]
   refine wpOp_step rfl (fun K' hK' => ?_)
   go_simp
   exact hK' _ _ (hK _ _ (hS.put hon (i := 5) rfl rfl (fun u hu => by cases hu; rfl)) (hJ.pure (by simp) (by decide)))
  ·have n7 : L 7 = false := closed_not hC hl (i := 7) (j := 6) rfl (g := .data) (by simp) rfl
   have hx : curX L l [(6, 60, M), (7, 4, [])] = l := by simp [curX, hl]
   have e54 := (eval_tmp a1 54).symm.trans (hS.get hBh (i := 6) rfl 0 (by simp) rfl rfl rfl)
   have e58 := (eval_tmp a1 58).symm.trans (hS.get hBh (i := 6) rfl 4 (by simp) rfl rfl rfl)
   have e59 := (eval_tmp a1 59).symm.trans (hS.get hBh (i := 6) rfl 5 (by simp) rfl rfl rfl)
   have hrow := hJ.row
   rw [hx] at hrow
   have hcu : cur L a1 v [(6, 60, M), (7, 4, [])] = v := (by simp [cur, hl])
   rw [hcu] at hrow
   have hgr := hJ.gr
   rw [hcu] at hgr
   have hB2 : B ≤ W.heap.size := Nat.le_trans hB1 hgr.size
   have hbel := HR.out.bel hgr hB1
   refine wpOp_call (f := 82) (args := #[v, .string ⟨(sign 10).toArray⟩, .agg #[.int .i64 10, .int .i64 num, .string text, .slice pa parts.length pc, .slice na params.length nc, .slice ba body.length bc]]) (R := fun u W2 => Bt B W2 u (l ++ (M)) ∧ Gr W W2 v u) rfl rfl (by simp [execOp, resolve, invoke, e54, e58, e59, go_sem]) ((HM.out W v _ hrow hB2 ((HBW.out.mono hB).trans hbel) (by first | omega | (simp; omega))).mono fun e W2 ⟨u, h1, h2, h3⟩ => ⟨u, h1, h2, h3⟩) ?_
   rintro u W2 ⟨r1, r2⟩
   exact hK _ _ (hS.put hon (i := 6) rfl rfl (fun u hu => by cases hu)) (hJ.step (C1 := []) (C2 := [(7, 4, [])]) (by rw [hS.size]; exact (by decide : (60 : Nat) < 83)) (by simp) hl (by simp [n7]) (by decide) (by show Bt B W2 u (curX L l [(6, 60, M), (7, 4, [])] ++ (M)); rw [hx]; exact r1) (by show Gr W W2 (cur L a1 v [(6, 60, M), (7, 4, [])]) u; rw [hcu]; exact r2))
  ·have d6 : L 6 = true := hBh _ rfl ⟨6, .data⟩ (by simp) rfl
   obtain ⟨vc, hvc⟩ : ∃ x, a1.eval (.tmp 60) = x := ⟨_, rfl⟩
   have hx : curX L l [(6, 60, M), (7, 4, [])] = l ++ (M) := by simp [curX, d6, hl]
   have e9 := (eval_tmp a1 60).symm.trans hvc
   refine wpOp_step rfl (fun K' hK' => ?_)
   go_simp
   exact hK' _ _ (hK _ _ (hS.put hon (i := 7) rfl rfl (fun u hu => by cases hu)) (hJ.hand (C1 := [(6, 60, M)]) (C2 := []) (by rw [hS.size]; exact (by decide : (4 : Nat) < 83)) (by simp [d6]) hl (by simp) (by decide) (by rw [← hvc]; simp [cur, d6, hl])))
 ·intro L a1 w2 hl hS hJ
  have d6 : L 6 = true := hl 6 (by decide)
  have d7 : L 7 = true := hl 7 (by decide)
  have hcu : cur L a1 v [(6, 60, M), (7, 4, [])] = a1.eval (.tmp 4) := by simp [cur, d6, d7]
  have hx : curX L l [(6, 60, M), (7, 4, [])] = l ++ (M) := by simp [curX, d6, d7]
  have hrow := hJ.row
  have hgr := hJ.gr
  rw [hcu] at hgr
  rw [hcu, hx] at hrow
  have hfr := hS.frame [54, 55, 56, 57, 58, 59, 60, 4] rfl
  refine (‹∀ (a : Act) (w : World), Code.wp Tryz.prog _ _ a w → _› a1 w2 ?_)
  obtain ⟨z, hz⟩ : ∃ z : Nat → Value, z = fun k => a1.eval (.tmp k) := ⟨_, rfl⟩
  rw [← hz] at hfr
  have ze : a1.eval (.tmp 4) = z 4 := by rw [hz]
  rw [ze] at hrow hgr
  rw [hfr]
  clear hfr ze hz hS hJ hcu hx hl d6 d7
  simp only [over, List.setIfInBounds_toArray, List.set_cons_zero, List.set_cons_succ]
  obtain ⟨v2, hv⟩ : ∃ u, z 4 = u := ⟨_, rfl⟩
  rw [hv] at hrow hgr ⊢
  clear hv
  have r2 := hrow
  have g2 := hgr
  clear hrow hgr
  have HR2 : Hid (Bt B w2 v2 (l ++ M)) := by show Bt _ _ _ _; simpa using r2
  have HG2 : Hid (Gr w1 w2 v v2) := by show Gr _ _ _ _; exact (Gr.refl _ _).trans g2
  have hB2 : B ≤ w2.heap.size := Nat.le_trans hB1 HG2.out.size
  clear r2 g2
  have HRz : Hid (Bt B w2 v2 (l ++ M)) := by show Bt _ _ _ _; simpa using HR2.out
  have HGz : Hid (Gr w w2 v v2) := by show Gr _ _ _ _; exact (HG2.out).pre HBW.out (fun k hk => (HR0.out.lt k hk).2)
  go_wp2
  go_ret
  exact ⟨v2, rfl, HRz.out, HGz.out⟩
theorem addExpr11 {num : Int} {text : ByteArray} {parts : List TE} {params : List ByteArray} {body : List TS} {pa na ba : Option Addr} {pc nc bc : Nat} {B : Nat} {w : World} {v : Value} {l M : Bs} (hR : Bt B w v l) (hB : B ≤ w.heap.size) (hlM : l.length + M.length ≤ 1000000000) (hS : ∀ W, Below B w W → W.cell? ⟨0, 11, none⟩ = some (.string ⟨(sign 11).toArray⟩))
 (HM : Hid (∀ W u X, Bt B W u X → B ≤ W.heap.size → Below B w W → X.length + M.length ≤ 1000000000 → Calls Tryz.prog 82 #[u, .string ⟨(sign 11).toArray⟩, .agg #[.int .i64 11, .int .i64 num, .string text, .slice pa parts.length pc, .slice na params.length nc, .slice ba body.length bc]] W fun en W2 => ∃ u2, en = .returned u2 ∧ Bt B W2 u2 (X ++ M) ∧ Gr W W2 u u2)) :
 Calls Tryz.prog 50 #[v, .agg #[.int .i64 11, .int .i64 num, .string text, .slice pa parts.length pc, .slice na params.length nc, .slice ba body.length bc]] w fun en w' => ∃ v', en = .returned v' ∧ Bt B w' v' (l ++ M) ∧ Gr w w' v v' := by
 have HR0 : Hid (Bt B w v l) := hR
 clear hR
 have HS := Lib.hid hS
 clear hS
 go_enter Tryz.func50, Tryz.ntmps50
 go_wp2_with fail
 obtain ⟨w1, hw1⟩ : ∃ w1, w1 = w.alloc (.cells #[.int .i64 11, .int .i64 num, .string text, .slice pa parts.length pc, .slice na params.length nc, .slice ba body.length bc] 65) := ⟨_, rfl⟩
 obtain ⟨gb, hgb⟩ : ∃ gb, gb = w.heap.size := ⟨_, rfl⟩
 have HBW : Hid (Below w.heap.size w w1) := by rw [hw1]; exact (Below.refl _ _).alloc (Nat.le_refl _) _
 have HBX : Hid (w1.heap[gb]? = some (.cells #[.int .i64 11, .int .i64 num, .string text, .slice pa parts.length pc, .slice na params.length nc, .slice ba body.length bc] 65 (0, 0))) := by rw [hw1, hgb]; exact heap_alloc_new _ _
 have HR : Hid (Bt B w1 v l) := by rw [hw1]; exact HR0.out.alloc _
 have hB1 : B ≤ w1.heap.size := Nat.le_trans hB HBW.out.size
 rw [← hw1, ← hgb]
 clear hw1 hgb
 refine region_sh (valX v gb 11 (.string ⟨(sign 11).toArray⟩) (.agg #[.int .i64 11, .int .i64 num, .string text, .slice pa parts.length pc, .slice na params.length nc, .slice ba body.length bc])) (JC B w1 v l [(6, 60, M), (7, 4, [])] 1000 1000 1001 [] 1000 0) (by kernel_rfl) (by kernel_rfl) (by kernel_rfl) (JC.start HR.out _ rfl) ?_ ?_
 ·intro hon q hq L a1 W hC hl hBh hS hJ K hK
  have hqn : q < 8 := hq
  clear hq
  rcases (show q = 0 ∨ q = 1 ∨ q = 2 ∨ q = 3 ∨ q = 4 ∨ q = 5 ∨ q = 6 ∨ q = 7 from by omega) with rfl | rfl | rfl | rfl | rfl | rfl | rfl | rfl
  ·have e0 := (eval_tmp a1 0).symm.trans ((hS.kept 0 (by kernel_rfl)).trans rfl)
   refine wpOp_step rfl (fun K' hK' => ?_)
   go_simp
   exact hK' _ _ (hK _ _ (hS.put hon (i := 0) rfl rfl (fun u hu => by cases hu; rfl)) (hJ.pure (by simp) (by decide)))
  ·have e3 := (eval_tmp a1 3).symm.trans ((hS.kept 3 (by kernel_rfl)).trans rfl)
   refine wpOp_step rfl (fun K' hK' => ?_)
   go_simp
   exact hK' _ _ (hK _ _ (hS.put hon (i := 1) rfl rfl (fun u hu => by cases hu; rfl)) (hJ.pure (by simp) (by decide)))
  ·have e55 := (eval_tmp a1 55).symm.trans (hS.get hBh (i := 2) rfl 1 (by simp) rfl rfl rfl)
   have hbx : W.heap[gb]? = _ := HR.out.block hJ.gr HBX.out (by decide)
   have hcl2 : W.cell? ⟨gb, 0, none⟩ = some (.int .i64 11) := by simp [World.cell?, hbx]
   refine wpOp_step rfl (fun K' hK' => ?_)
   go_simp
   exact hK' _ _ (hK _ _ (hS.put hon (i := 2) rfl rfl (fun u hu => by cases hu; rfl)) (hJ.pure (by simp) (by decide)))
  ·have e56 := (eval_tmp a1 56).symm.trans (hS.get hBh (i := 3) rfl 2 (by simp) rfl rfl rfl)
   refine wpOp_step rfl (fun K' hK' => ?_)
   go_simp
   exact hK' _ _ (hK _ _ (hS.put hon (i := 3) rfl rfl (fun u hu => by cases hu; rfl)) (hJ.pure (by simp) (by decide)))
  ·have e57 := (eval_tmp a1 57).symm.trans (hS.get hBh (i := 4) rfl 3 (by simp) rfl rfl rfl)
   have hsg := HS.out W ((HBW.out.mono hB).trans (HR.out.bel hJ.gr hB1))
   refine wpOp_step rfl (fun K' hK' => ?_)
   go_simp
   exact hK' _ _ (hK _ _ (hS.put hon (i := 4) rfl rfl (fun u hu => by cases hu; rfl)) (hJ.pure (by simp) (by decide)))
  ·have e3 := (eval_tmp a1 3).symm.trans ((hS.kept 3 (by kernel_rfl)).trans rfl)
   have hbx : W.heap[gb]? = _ := HR.out.block hJ.gr HBX.out (by decide)
   have hq0 : W.cell? ⟨gb, 0, none⟩ = some (.int .i64 11) := by simp [World.cell?, hbx]
   have hq1 : W.cell? ⟨gb, 1, none⟩ = some (.int .i64 num) := by simp [World.cell?, hbx]
   have hq2 : W.cell? ⟨gb, 2, none⟩ = some (.string text) := by simp [World.cell?, hbx]
   have hq3 : W.cell? ⟨gb, 3, none⟩ = some (.slice pa parts.length pc) := by simp [World.cell?, hbx]
   have hq4 : W.cell? ⟨gb, 4, none⟩ = some (.slice na params.length nc) := by simp [World.cell?, hbx]
   have hq5 : W.cell? ⟨gb, 5, none⟩ = some (.slice ba body.length bc) := by simp [World.cell?, hbx]
   refine wpOp_step rfl (fun K' hK' => ?_)
   go_simp
   exact hK' _ _ (hK _ _ (hS.put hon (i := 5) rfl rfl (fun u hu => by cases hu; rfl)) (hJ.pure (by simp) (by decide)))
  ·have n7 : L 7 = false := closed_not hC hl (i := 7) (j := 6) rfl (g := .data) (by simp) rfl
   have hx : curX L l [(6, 60, M), (7, 4, [])] = l := by simp [curX, hl]
   have e54 := (eval_tmp a1 54).symm.trans (hS.get hBh (i := 6) rfl 0 (by simp) rfl rfl rfl)
   have e58 := (eval_tmp a1 58).symm.trans (hS.get hBh (i := 6) rfl 4 (by simp) rfl rfl rfl)
   have e59 := (eval_tmp a1 59).symm.trans (hS.get hBh (i := 6) rfl 5 (by simp) rfl rfl rfl)
   have hrow := hJ.row
   rw [hx] at hrow
   have hcu : cur L a1 v [(6, 60, M), (7, 4, [])] = v := (by simp [cur, hl])
   rw [hcu] at hrow
   have hgr := hJ.gr
   rw [hcu] at hgr
   have hB2 : B ≤ W.heap.size := Nat.le_trans hB1 hgr.size
   have hbel := HR.out.bel hgr hB1
   refine wpOp_call (f := 82) (args := #[v, .string ⟨(sign 11).toArray⟩, .agg #[.int .i64 11, .int .i64 num, .string text, .slice pa parts.length pc, .slice na params.length nc, .slice ba body.length bc]]) (R := fun u W2 => Bt B W2 u (l ++ (M)) ∧ Gr W W2 v u) rfl rfl (by simp [execOp, resolve, invoke, e54, e58, e59, go_sem]) ((HM.out W v _ hrow hB2 ((HBW.out.mono hB).trans hbel) (by first | omega | (simp; omega))).mono fun e W2 ⟨u, h1, h2, h3⟩ => ⟨u, h1, h2, h3⟩) ?_
   rintro u W2 ⟨r1, r2⟩
   exact hK _ _ (hS.put hon (i := 6) rfl rfl (fun u hu => by cases hu)) (hJ.step (C1 := []) (C2 := [(7, 4, [])]) (by rw [hS.size]; exact (by decide : (60 : Nat) < 83)) (by simp) hl (by simp [n7]) (by decide) (by show Bt B W2 u (curX L l [(6, 60, M), (7, 4, [])] ++ (M)); rw [hx]; exact r1) (by show Gr W W2 (cur L a1 v [(6, 60, M), (7, 4, [])]) u; rw [hcu]; exact r2))
  ·have d6 : L 6 = true := hBh _ rfl ⟨6, .data⟩ (by simp) rfl
   obtain ⟨vc, hvc⟩ : ∃ x, a1.eval (.tmp 60) = x := ⟨_, rfl⟩
   have hx : curX L l [(6, 60, M), (7, 4, [])] = l ++ (M) := by simp [curX, d6, hl]
   have e9 := (eval_tmp a1 60).symm.trans hvc
   refine wpOp_step rfl (fun K' hK' => ?_)
   go_simp
   exact hK' _ _ (hK _ _ (hS.put hon (i := 7) rfl rfl (fun u hu => by cases hu)) (hJ.hand (C1 := [(6, 60, M)]) (C2 := []) (by rw [hS.size]; exact (by decide : (4 : Nat) < 83)) (by simp [d6]) hl (by simp) (by decide) (by rw [← hvc]; simp [cur, d6, hl])))
 ·intro L a1 w2 hl hS hJ
  have d6 : L 6 = true := hl 6 (by decide)
  have d7 : L 7 = true := hl 7 (by decide)
  have hcu : cur L a1 v [(6, 60, M), (7, 4, [])] = a1.eval (.tmp 4) := by simp [cur, d6, d7]
  have hx : curX L l [(6, 60, M), (7, 4, [])] = l ++ (M) := by simp [curX, d6, d7]
  have hrow := hJ.row
  have hgr := hJ.gr
  rw [hcu] at hgr
  rw [hcu, hx] at hrow
  have hfr := hS.frame [54, 55, 56, 57, 58, 59, 60, 4] rfl
  refine (‹∀ (a : Act) (w : World), Code.wp Tryz.prog _ _ a w → _› a1 w2 ?_)
  obtain ⟨z, hz⟩ : ∃ z : Nat → Value, z = fun k => a1.eval (.tmp k) := ⟨_, rfl⟩
  rw [← hz] at hfr
  have ze : a1.eval (.tmp 4) = z 4 := by rw [hz]
  rw [ze] at hrow hgr
  rw [hfr]
  clear hfr ze hz hS hJ hcu hx hl d6 d7
  simp only [over, List.setIfInBounds_toArray, List.set_cons_zero, List.set_cons_succ]
  obtain ⟨v2, hv⟩ : ∃ u, z 4 = u := ⟨_, rfl⟩
  rw [hv] at hrow hgr ⊢
  clear hv
  have r2 := hrow
  have g2 := hgr
  clear hrow hgr
  have HR2 : Hid (Bt B w2 v2 (l ++ M)) := by show Bt _ _ _ _; simpa using r2
  have HG2 : Hid (Gr w1 w2 v v2) := by show Gr _ _ _ _; exact (Gr.refl _ _).trans g2
  have hB2 : B ≤ w2.heap.size := Nat.le_trans hB1 HG2.out.size
  clear r2 g2
  have HRz : Hid (Bt B w2 v2 (l ++ M)) := by show Bt _ _ _ _; simpa using HR2.out
  have HGz : Hid (Gr w w2 v v2) := by show Gr _ _ _ _; exact (HG2.out).pre HBW.out (fun k hk => (HR0.out.lt k hk).2)
  go_wp2
  go_ret
  exact ⟨v2, rfl, HRz.out, HGz.out⟩
theorem addExpr12 {num : Int} {text : ByteArray} {parts : List TE} {params : List ByteArray} {body : List TS} {pa na ba : Option Addr} {pc nc bc : Nat} {B : Nat} {w : World} {v : Value} {l M : Bs} (hR : Bt B w v l) (hB : B ≤ w.heap.size) (hlM : l.length + M.length ≤ 1000000000) (hS : ∀ W, Below B w W → W.cell? ⟨0, 12, none⟩ = some (.string ⟨(sign 12).toArray⟩))
 (HM : Hid (∀ W u X, Bt B W u X → B ≤ W.heap.size → Below B w W → X.length + M.length ≤ 1000000000 → Calls Tryz.prog 82 #[u, .string ⟨(sign 12).toArray⟩, .agg #[.int .i64 12, .int .i64 num, .string text, .slice pa parts.length pc, .slice na params.length nc, .slice ba body.length bc]] W fun en W2 => ∃ u2, en = .returned u2 ∧ Bt B W2 u2 (X ++ M) ∧ Gr W W2 u u2)) :
 Calls Tryz.prog 50 #[v, .agg #[.int .i64 12, .int .i64 num, .string text, .slice pa parts.length pc, .slice na params.length nc, .slice ba body.length bc]] w fun en w' => ∃ v', en = .returned v' ∧ Bt B w' v' (l ++ M) ∧ Gr w w' v v' := by
 have HR0 : Hid (Bt B w v l) := hR
 clear hR
 have HS := Lib.hid hS
 clear hS
 go_enter Tryz.func50, Tryz.ntmps50
 go_wp2_with fail
 obtain ⟨w1, hw1⟩ : ∃ w1, w1 = w.alloc (.cells #[.int .i64 12, .int .i64 num, .string text, .slice pa parts.length pc, .slice na params.length nc, .slice ba body.length bc] 65) := ⟨_, rfl⟩
 obtain ⟨gb, hgb⟩ : ∃ gb, gb = w.heap.size := ⟨_, rfl⟩
 have HBW : Hid (Below w.heap.size w w1) := by rw [hw1]; exact (Below.refl _ _).alloc (Nat.le_refl _) _
 have HBX : Hid (w1.heap[gb]? = some (.cells #[.int .i64 12, .int .i64 num, .string text, .slice pa parts.length pc, .slice na params.length nc, .slice ba body.length bc] 65 (0, 0))) := by rw [hw1, hgb]; exact heap_alloc_new _ _
 have HR : Hid (Bt B w1 v l) := by rw [hw1]; exact HR0.out.alloc _
 have hB1 : B ≤ w1.heap.size := Nat.le_trans hB HBW.out.size
 rw [← hw1, ← hgb]
 clear hw1 hgb
 refine region_sh (valX v gb 12 (.string ⟨(sign 12).toArray⟩) (.agg #[.int .i64 12, .int .i64 num, .string text, .slice pa parts.length pc, .slice na params.length nc, .slice ba body.length bc])) (JC B w1 v l [(6, 60, M), (7, 4, [])] 1000 1000 1001 [] 1000 0) (by kernel_rfl) (by kernel_rfl) (by kernel_rfl) (JC.start HR.out _ rfl) ?_ ?_
 ·intro hon q hq L a1 W hC hl hBh hS hJ K hK
  have hqn : q < 8 := hq
  clear hq
  rcases (show q = 0 ∨ q = 1 ∨ q = 2 ∨ q = 3 ∨ q = 4 ∨ q = 5 ∨ q = 6 ∨ q = 7 from by omega) with rfl | rfl | rfl | rfl | rfl | rfl | rfl | rfl
  ·have e0 := (eval_tmp a1 0).symm.trans ((hS.kept 0 (by kernel_rfl)).trans rfl)
   refine wpOp_step rfl (fun K' hK' => ?_)
   go_simp
   exact hK' _ _ (hK _ _ (hS.put hon (i := 0) rfl rfl (fun u hu => by cases hu; rfl)) (hJ.pure (by simp) (by decide)))
  ·have e3 := (eval_tmp a1 3).symm.trans ((hS.kept 3 (by kernel_rfl)).trans rfl)
   refine wpOp_step rfl (fun K' hK' => ?_)
   go_simp
   exact hK' _ _ (hK _ _ (hS.put hon (i := 1) rfl rfl (fun u hu => by cases hu; rfl)) (hJ.pure (by simp) (by decide)))
  ·have e55 := (eval_tmp a1 55).symm.trans (hS.get hBh (i := 2) rfl 1 (by simp) rfl rfl rfl)
   have hbx : W.heap[gb]? = _ := HR.out.block hJ.gr HBX.out (by decide)
   have hcl2 : W.cell? ⟨gb, 0, none⟩ = some (.int .i64 12) := by simp [World.cell?, hbx]
   refine wpOp_step rfl (fun K' hK' => ?_)
   go_simp
   exact hK' _ _ (hK _ _ (hS.put hon (i := 2) rfl rfl (fun u hu => by cases hu; rfl)) (hJ.pure (by simp) (by decide)))
  ·have e56 := (eval_tmp a1 56).symm.trans (hS.get hBh (i := 3) rfl 2 (by simp) rfl rfl rfl)
   refine wpOp_step rfl (fun K' hK' => ?_)
   go_simp
   exact hK' _ _ (hK _ _ (hS.put hon (i := 3) rfl rfl (fun u hu => by cases hu; rfl)) (hJ.pure (by simp) (by decide)))
  ·have e57 := (eval_tmp a1 57).symm.trans (hS.get hBh (i := 4) rfl 3 (by simp) rfl rfl rfl)
   have hsg := HS.out W ((HBW.out.mono hB).trans (HR.out.bel hJ.gr hB1))
   refine wpOp_step rfl (fun K' hK' => ?_)
   go_simp
   exact hK' _ _ (hK _ _ (hS.put hon (i := 4) rfl rfl (fun u hu => by cases hu; rfl)) (hJ.pure (by simp) (by decide)))
  ·have e3 := (eval_tmp a1 3).symm.trans ((hS.kept 3 (by kernel_rfl)).trans rfl)
   have hbx : W.heap[gb]? = _ := HR.out.block hJ.gr HBX.out (by decide)
   have hq0 : W.cell? ⟨gb, 0, none⟩ = some (.int .i64 12) := by simp [World.cell?, hbx]
   have hq1 : W.cell? ⟨gb, 1, none⟩ = some (.int .i64 num) := by simp [World.cell?, hbx]
   have hq2 : W.cell? ⟨gb, 2, none⟩ = some (.string text) := by simp [World.cell?, hbx]
   have hq3 : W.cell? ⟨gb, 3, none⟩ = some (.slice pa parts.length pc) := by simp [World.cell?, hbx]
   have hq4 : W.cell? ⟨gb, 4, none⟩ = some (.slice na params.length nc) := by simp [World.cell?, hbx]
   have hq5 : W.cell? ⟨gb, 5, none⟩ = some (.slice ba body.length bc) := by simp [World.cell?, hbx]
   refine wpOp_step rfl (fun K' hK' => ?_)
   go_simp
   exact hK' _ _ (hK _ _ (hS.put hon (i := 5) rfl rfl (fun u hu => by cases hu; rfl)) (hJ.pure (by simp) (by decide)))
  ·have n7 : L 7 = false := closed_not hC hl (i := 7) (j := 6) rfl (g := .data) (by simp) rfl
   have hx : curX L l [(6, 60, M), (7, 4, [])] = l := by simp [curX, hl]
   have e54 := (eval_tmp a1 54).symm.trans (hS.get hBh (i := 6) rfl 0 (by simp) rfl rfl rfl)
   have e58 := (eval_tmp a1 58).symm.trans (hS.get hBh (i := 6) rfl 4 (by simp) rfl rfl rfl)
   have e59 := (eval_tmp a1 59).symm.trans (hS.get hBh (i := 6) rfl 5 (by simp) rfl rfl rfl)
   have hrow := hJ.row
   rw [hx] at hrow
   have hcu : cur L a1 v [(6, 60, M), (7, 4, [])] = v := (by simp [cur, hl])
   rw [hcu] at hrow
   have hgr := hJ.gr
   rw [hcu] at hgr
   have hB2 : B ≤ W.heap.size := Nat.le_trans hB1 hgr.size
   have hbel := HR.out.bel hgr hB1
   refine wpOp_call (f := 82) (args := #[v, .string ⟨(sign 12).toArray⟩, .agg #[.int .i64 12, .int .i64 num, .string text, .slice pa parts.length pc, .slice na params.length nc, .slice ba body.length bc]]) (R := fun u W2 => Bt B W2 u (l ++ (M)) ∧ Gr W W2 v u) rfl rfl (by simp [execOp, resolve, invoke, e54, e58, e59, go_sem]) ((HM.out W v _ hrow hB2 ((HBW.out.mono hB).trans hbel) (by first | omega | (simp; omega))).mono fun e W2 ⟨u, h1, h2, h3⟩ => ⟨u, h1, h2, h3⟩) ?_
   rintro u W2 ⟨r1, r2⟩
   exact hK _ _ (hS.put hon (i := 6) rfl rfl (fun u hu => by cases hu)) (hJ.step (C1 := []) (C2 := [(7, 4, [])]) (by rw [hS.size]; exact (by decide : (60 : Nat) < 83)) (by simp) hl (by simp [n7]) (by decide) (by show Bt B W2 u (curX L l [(6, 60, M), (7, 4, [])] ++ (M)); rw [hx]; exact r1) (by show Gr W W2 (cur L a1 v [(6, 60, M), (7, 4, [])]) u; rw [hcu]; exact r2))
  ·have d6 : L 6 = true := hBh _ rfl ⟨6, .data⟩ (by simp) rfl
   obtain ⟨vc, hvc⟩ : ∃ x, a1.eval (.tmp 60) = x := ⟨_, rfl⟩
   have hx : curX L l [(6, 60, M), (7, 4, [])] = l ++ (M) := by simp [curX, d6, hl]
   have e9 := (eval_tmp a1 60).symm.trans hvc
   refine wpOp_step rfl (fun K' hK' => ?_)
   go_simp
   exact hK' _ _ (hK _ _ (hS.put hon (i := 7) rfl rfl (fun u hu => by cases hu)) (hJ.hand (C1 := [(6, 60, M)]) (C2 := []) (by rw [hS.size]; exact (by decide : (4 : Nat) < 83)) (by simp [d6]) hl (by simp) (by decide) (by rw [← hvc]; simp [cur, d6, hl])))
 ·intro L a1 w2 hl hS hJ
  have d6 : L 6 = true := hl 6 (by decide)
  have d7 : L 7 = true := hl 7 (by decide)
  have hcu : cur L a1 v [(6, 60, M), (7, 4, [])] = a1.eval (.tmp 4) := by simp [cur, d6, d7]
  have hx : curX L l [(6, 60, M), (7, 4, [])] = l ++ (M) := by simp [curX, d6, d7]
  have hrow := hJ.row
  have hgr := hJ.gr
  rw [hcu] at hgr
  rw [hcu, hx] at hrow
  have hfr := hS.frame [54, 55, 56, 57, 58, 59, 60, 4] rfl
  refine (‹∀ (a : Act) (w : World), Code.wp Tryz.prog _ _ a w → _› a1 w2 ?_)
  obtain ⟨z, hz⟩ : ∃ z : Nat → Value, z = fun k => a1.eval (.tmp k) := ⟨_, rfl⟩
  rw [← hz] at hfr
  have ze : a1.eval (.tmp 4) = z 4 := by rw [hz]
  rw [ze] at hrow hgr
  rw [hfr]
  clear hfr ze hz hS hJ hcu hx hl d6 d7
  simp only [over, List.setIfInBounds_toArray, List.set_cons_zero, List.set_cons_succ]
  obtain ⟨v2, hv⟩ : ∃ u, z 4 = u := ⟨_, rfl⟩
  rw [hv] at hrow hgr ⊢
  clear hv
  have r2 := hrow
  have g2 := hgr
  clear hrow hgr
  have HR2 : Hid (Bt B w2 v2 (l ++ M)) := by show Bt _ _ _ _; simpa using r2
  have HG2 : Hid (Gr w1 w2 v v2) := by show Gr _ _ _ _; exact (Gr.refl _ _).trans g2
  have hB2 : B ≤ w2.heap.size := Nat.le_trans hB1 HG2.out.size
  clear r2 g2
  have HRz : Hid (Bt B w2 v2 (l ++ M)) := by show Bt _ _ _ _; simpa using HR2.out
  have HGz : Hid (Gr w w2 v v2) := by show Gr _ _ _ _; exact (HG2.out).pre HBW.out (fun k hk => (HR0.out.lt k hk).2)
  go_wp2
  go_ret
  exact ⟨v2, rfl, HRz.out, HGz.out⟩
theorem addExpr13 {num : Int} {text : ByteArray} {parts : List TE} {params : List ByteArray} {body : List TS} {pa na ba : Option Addr} {pc nc bc : Nat} {B : Nat} {w : World} {v : Value} {l M : Bs} (hR : Bt B w v l) (hB : B ≤ w.heap.size) (hlM : l.length + M.length ≤ 1000000000) (hS : ∀ W, Below B w W → W.cell? ⟨0, 13, none⟩ = some (.string ⟨(sign 13).toArray⟩))
 (HM : Hid (∀ W u X, Bt B W u X → B ≤ W.heap.size → Below B w W → X.length + M.length ≤ 1000000000 → Calls Tryz.prog 82 #[u, .string ⟨(sign 13).toArray⟩, .agg #[.int .i64 13, .int .i64 num, .string text, .slice pa parts.length pc, .slice na params.length nc, .slice ba body.length bc]] W fun en W2 => ∃ u2, en = .returned u2 ∧ Bt B W2 u2 (X ++ M) ∧ Gr W W2 u u2)) :
 Calls Tryz.prog 50 #[v, .agg #[.int .i64 13, .int .i64 num, .string text, .slice pa parts.length pc, .slice na params.length nc, .slice ba body.length bc]] w fun en w' => ∃ v', en = .returned v' ∧ Bt B w' v' (l ++ M) ∧ Gr w w' v v' := by
 have HR0 : Hid (Bt B w v l) := hR
 clear hR
 have HS := Lib.hid hS
 clear hS
 go_enter Tryz.func50, Tryz.ntmps50
 go_wp2_with fail
 obtain ⟨w1, hw1⟩ : ∃ w1, w1 = w.alloc (.cells #[.int .i64 13, .int .i64 num, .string text, .slice pa parts.length pc, .slice na params.length nc, .slice ba body.length bc] 65) := ⟨_, rfl⟩
 obtain ⟨gb, hgb⟩ : ∃ gb, gb = w.heap.size := ⟨_, rfl⟩
 have HBW : Hid (Below w.heap.size w w1) := by rw [hw1]; exact (Below.refl _ _).alloc (Nat.le_refl _) _
 have HBX : Hid (w1.heap[gb]? = some (.cells #[.int .i64 13, .int .i64 num, .string text, .slice pa parts.length pc, .slice na params.length nc, .slice ba body.length bc] 65 (0, 0))) := by rw [hw1, hgb]; exact heap_alloc_new _ _
 have HR : Hid (Bt B w1 v l) := by rw [hw1]; exact HR0.out.alloc _
 have hB1 : B ≤ w1.heap.size := Nat.le_trans hB HBW.out.size
 rw [← hw1, ← hgb]
 clear hw1 hgb
 refine region_sh (valX v gb 13 (.string ⟨(sign 13).toArray⟩) (.agg #[.int .i64 13, .int .i64 num, .string text, .slice pa parts.length pc, .slice na params.length nc, .slice ba body.length bc])) (JC B w1 v l [(6, 60, M), (7, 4, [])] 1000 1000 1001 [] 1000 0) (by kernel_rfl) (by kernel_rfl) (by kernel_rfl) (JC.start HR.out _ rfl) ?_ ?_
 ·intro hon q hq L a1 W hC hl hBh hS hJ K hK
  have hqn : q < 8 := hq
  clear hq
  rcases (show q = 0 ∨ q = 1 ∨ q = 2 ∨ q = 3 ∨ q = 4 ∨ q = 5 ∨ q = 6 ∨ q = 7 from by omega) with rfl | rfl | rfl | rfl | rfl | rfl | rfl | rfl
  ·have e0 := (eval_tmp a1 0).symm.trans ((hS.kept 0 (by kernel_rfl)).trans rfl)
   refine wpOp_step rfl (fun K' hK' => ?_)
   go_simp
   exact hK' _ _ (hK _ _ (hS.put hon (i := 0) rfl rfl (fun u hu => by cases hu; rfl)) (hJ.pure (by simp) (by decide)))
  ·have e3 := (eval_tmp a1 3).symm.trans ((hS.kept 3 (by kernel_rfl)).trans rfl)
   refine wpOp_step rfl (fun K' hK' => ?_)
   go_simp
   exact hK' _ _ (hK _ _ (hS.put hon (i := 1) rfl rfl (fun u hu => by cases hu; rfl)) (hJ.pure (by simp) (by decide)))
  ·have e55 := (eval_tmp a1 55).symm.trans (hS.get hBh (i := 2) rfl 1 (by simp) rfl rfl rfl)
   have hbx : W.heap[gb]? = _ := HR.out.block hJ.gr HBX.out (by decide)
   have hcl2 : W.cell? ⟨gb, 0, none⟩ = some (.int .i64 13) := by simp [World.cell?, hbx]
   refine wpOp_step rfl (fun K' hK' => ?_)
   go_simp
   exact hK' _ _ (hK _ _ (hS.put hon (i := 2) rfl rfl (fun u hu => by cases hu; rfl)) (hJ.pure (by simp) (by decide)))
  ·have e56 := (eval_tmp a1 56).symm.trans (hS.get hBh (i := 3) rfl 2 (by simp) rfl rfl rfl)
   refine wpOp_step rfl (fun K' hK' => ?_)
   go_simp
   exact hK' _ _ (hK _ _ (hS.put hon (i := 3) rfl rfl (fun u hu => by cases hu; rfl)) (hJ.pure (by simp) (by decide)))
  ·have e57 := (eval_tmp a1 57).symm.trans (hS.get hBh (i := 4) rfl 3 (by simp) rfl rfl rfl)
   have hsg := HS.out W ((HBW.out.mono hB).trans (HR.out.bel hJ.gr hB1))
   refine wpOp_step rfl (fun K' hK' => ?_)
   go_simp
   exact hK' _ _ (hK _ _ (hS.put hon (i := 4) rfl rfl (fun u hu => by cases hu; rfl)) (hJ.pure (by simp) (by decide)))
  ·have e3 := (eval_tmp a1 3).symm.trans ((hS.kept 3 (by kernel_rfl)).trans rfl)
   have hbx : W.heap[gb]? = _ := HR.out.block hJ.gr HBX.out (by decide)
   have hq0 : W.cell? ⟨gb, 0, none⟩ = some (.int .i64 13) := by simp [World.cell?, hbx]
   have hq1 : W.cell? ⟨gb, 1, none⟩ = some (.int .i64 num) := by simp [World.cell?, hbx]
   have hq2 : W.cell? ⟨gb, 2, none⟩ = some (.string text) := by simp [World.cell?, hbx]
   have hq3 : W.cell? ⟨gb, 3, none⟩ = some (.slice pa parts.length pc) := by simp [World.cell?, hbx]
   have hq4 : W.cell? ⟨gb, 4, none⟩ = some (.slice na params.length nc) := by simp [World.cell?, hbx]
   have hq5 : W.cell? ⟨gb, 5, none⟩ = some (.slice ba body.length bc) := by simp [World.cell?, hbx]
   refine wpOp_step rfl (fun K' hK' => ?_)
   go_simp
   exact hK' _ _ (hK _ _ (hS.put hon (i := 5) rfl rfl (fun u hu => by cases hu; rfl)) (hJ.pure (by simp) (by decide)))
  ·have n7 : L 7 = false := closed_not hC hl (i := 7) (j := 6) rfl (g := .data) (by simp) rfl
   have hx : curX L l [(6, 60, M), (7, 4, [])] = l := by simp [curX, hl]
   have e54 := (eval_tmp a1 54).symm.trans (hS.get hBh (i := 6) rfl 0 (by simp) rfl rfl rfl)
   have e58 := (eval_tmp a1 58).symm.trans (hS.get hBh (i := 6) rfl 4 (by simp) rfl rfl rfl)
   have e59 := (eval_tmp a1 59).symm.trans (hS.get hBh (i := 6) rfl 5 (by simp) rfl rfl rfl)
   have hrow := hJ.row
   rw [hx] at hrow
   have hcu : cur L a1 v [(6, 60, M), (7, 4, [])] = v := (by simp [cur, hl])
   rw [hcu] at hrow
   have hgr := hJ.gr
   rw [hcu] at hgr
   have hB2 : B ≤ W.heap.size := Nat.le_trans hB1 hgr.size
   have hbel := HR.out.bel hgr hB1
   refine wpOp_call (f := 82) (args := #[v, .string ⟨(sign 13).toArray⟩, .agg #[.int .i64 13, .int .i64 num, .string text, .slice pa parts.length pc, .slice na params.length nc, .slice ba body.length bc]]) (R := fun u W2 => Bt B W2 u (l ++ (M)) ∧ Gr W W2 v u) rfl rfl (by simp [execOp, resolve, invoke, e54, e58, e59, go_sem]) ((HM.out W v _ hrow hB2 ((HBW.out.mono hB).trans hbel) (by first | omega | (simp; omega))).mono fun e W2 ⟨u, h1, h2, h3⟩ => ⟨u, h1, h2, h3⟩) ?_
   rintro u W2 ⟨r1, r2⟩
   exact hK _ _ (hS.put hon (i := 6) rfl rfl (fun u hu => by cases hu)) (hJ.step (C1 := []) (C2 := [(7, 4, [])]) (by rw [hS.size]; exact (by decide : (60 : Nat) < 83)) (by simp) hl (by simp [n7]) (by decide) (by show Bt B W2 u (curX L l [(6, 60, M), (7, 4, [])] ++ (M)); rw [hx]; exact r1) (by show Gr W W2 (cur L a1 v [(6, 60, M), (7, 4, [])]) u; rw [hcu]; exact r2))
  ·have d6 : L 6 = true := hBh _ rfl ⟨6, .data⟩ (by simp) rfl
   obtain ⟨vc, hvc⟩ : ∃ x, a1.eval (.tmp 60) = x := ⟨_, rfl⟩
   have hx : curX L l [(6, 60, M), (7, 4, [])] = l ++ (M) := by simp [curX, d6, hl]
   have e9 := (eval_tmp a1 60).symm.trans hvc
   refine wpOp_step rfl (fun K' hK' => ?_)
   go_simp
   exact hK' _ _ (hK _ _ (hS.put hon (i := 7) rfl rfl (fun u hu => by cases hu)) (hJ.hand (C1 := [(6, 60, M)]) (C2 := []) (by rw [hS.size]; exact (by decide : (4 : Nat) < 83)) (by simp [d6]) hl (by simp) (by decide) (by rw [← hvc]; simp [cur, d6, hl])))
 ·intro L a1 w2 hl hS hJ
  have d6 : L 6 = true := hl 6 (by decide)
  have d7 : L 7 = true := hl 7 (by decide)
  have hcu : cur L a1 v [(6, 60, M), (7, 4, [])] = a1.eval (.tmp 4) := by simp [cur, d6, d7]
  have hx : curX L l [(6, 60, M), (7, 4, [])] = l ++ (M) := by simp [curX, d6, d7]
  have hrow := hJ.row
  have hgr := hJ.gr
  rw [hcu] at hgr
  rw [hcu, hx] at hrow
  have hfr := hS.frame [54, 55, 56, 57, 58, 59, 60, 4] rfl
  refine (‹∀ (a : Act) (w : World), Code.wp Tryz.prog _ _ a w → _› a1 w2 ?_)
  obtain ⟨z, hz⟩ : ∃ z : Nat → Value, z = fun k => a1.eval (.tmp k) := ⟨_, rfl⟩
  rw [← hz] at hfr
  have ze : a1.eval (.tmp 4) = z 4 := by rw [hz]
  rw [ze] at hrow hgr
  rw [hfr]
  clear hfr ze hz hS hJ hcu hx hl d6 d7
  simp only [over, List.setIfInBounds_toArray, List.set_cons_zero, List.set_cons_succ]
  obtain ⟨v2, hv⟩ : ∃ u, z 4 = u := ⟨_, rfl⟩
  rw [hv] at hrow hgr ⊢
  clear hv
  have r2 := hrow
  have g2 := hgr
  clear hrow hgr
  have HR2 : Hid (Bt B w2 v2 (l ++ M)) := by show Bt _ _ _ _; simpa using r2
  have HG2 : Hid (Gr w1 w2 v v2) := by show Gr _ _ _ _; exact (Gr.refl _ _).trans g2
  have hB2 : B ≤ w2.heap.size := Nat.le_trans hB1 HG2.out.size
  clear r2 g2
  have HRz : Hid (Bt B w2 v2 (l ++ M)) := by show Bt _ _ _ _; simpa using HR2.out
  have HGz : Hid (Gr w w2 v v2) := by show Gr _ _ _ _; exact (HG2.out).pre HBW.out (fun k hk => (HR0.out.lt k hk).2)
  go_wp2
  go_ret
  exact ⟨v2, rfl, HRz.out, HGz.out⟩
theorem addExpr14 {num : Int} {text : ByteArray} {parts : List TE} {params : List ByteArray} {body : List TS} {pa na ba : Option Addr} {pc nc bc : Nat} {B : Nat} {w : World} {v : Value} {l M : Bs} (hR : Bt B w v l) (hB : B ≤ w.heap.size) (hlM : l.length + M.length ≤ 1000000000)
 (HM : Hid (∀ W u X, Bt B W u X → B ≤ W.heap.size → Below B w W → X.length + M.length ≤ 1000000000 → Calls Tryz.prog 83 #[u, .slice pa parts.length pc] W fun en W2 => ∃ u2, en = .returned u2 ∧ Bt B W2 u2 (X ++ M) ∧ Gr W W2 u u2)) :
 Calls Tryz.prog 50 #[v, .agg #[.int .i64 14, .int .i64 num, .string text, .slice pa parts.length pc, .slice na params.length nc, .slice ba body.length bc]] w fun en w' => ∃ v', en = .returned v' ∧ Bt B w' v' (l ++ M) ∧ Gr w w' v v' := by
 have HR0 : Hid (Bt B w v l) := hR
 clear hR
 go_enter Tryz.func50, Tryz.ntmps50
 go_wp2_with fail
 obtain ⟨w1, hw1⟩ : ∃ w1, w1 = w.alloc (.cells #[.int .i64 14, .int .i64 num, .string text, .slice pa parts.length pc, .slice na params.length nc, .slice ba body.length bc] 65) := ⟨_, rfl⟩
 obtain ⟨gb, hgb⟩ : ∃ gb, gb = w.heap.size := ⟨_, rfl⟩
 have HBW : Hid (Below w.heap.size w w1) := by rw [hw1]; exact (Below.refl _ _).alloc (Nat.le_refl _) _
 have HBX : Hid (w1.heap[gb]? = some (.cells #[.int .i64 14, .int .i64 num, .string text, .slice pa parts.length pc, .slice na params.length nc, .slice ba body.length bc] 65 (0, 0))) := by rw [hw1, hgb]; exact heap_alloc_new _ _
 have HR : Hid (Bt B w1 v l) := by rw [hw1]; exact HR0.out.alloc _
 have hB1 : B ≤ w1.heap.size := Nat.le_trans hB HBW.out.size
 rw [← hw1, ← hgb]
 clear hw1 hgb
 refine (HM.out _ _ _ HR.out hB1 (HBW.out.mono hB) hlM).mono ?_
 rintro e w2 ⟨v2, rfl, r2, g2⟩
 have HR2 : Hid (Bt B w2 v2 (l ++ M)) := by show Bt _ _ _ _; simpa using r2
 have HG2 : Hid (Gr w1 w2 v v2) := by show Gr _ _ _ _; exact (Gr.refl _ _).trans g2
 have hB2 : B ≤ w2.heap.size := Nat.le_trans hB1 HG2.out.size
 clear r2 g2
 have HRz : Hid (Bt B w2 v2 (l ++ M)) := by show Bt _ _ _ _; simpa using HR2.out
 have HGz : Hid (Gr w w2 v v2) := by show Gr _ _ _ _; exact (HG2.out).pre HBW.out (fun k hk => (HR0.out.lt k hk).2)
 go_wp2
 go_ret
 exact ⟨v2, rfl, HRz.out, HGz.out⟩
theorem addExpr15 {num : Int} {text : ByteArray} {parts : List TE} {params : List ByteArray} {body : List TS} {pa na ba : Option Addr} {pc nc bc : Nat} {B : Nat} {w : World} {v : Value} {l M : Bs} (hR : Bt B w v l) (hB : B ≤ w.heap.size) (hlM : l.length + M.length ≤ 1000000000)
 (HM : Hid (∀ W u X, Bt B W u X → B ≤ W.heap.size → Below B w W → X.length + M.length ≤ 1000000000 → Calls Tryz.prog 84 #[u, .agg #[.int .i64 15, .int .i64 num, .string text, .slice pa parts.length pc, .slice na params.length nc, .slice ba body.length bc]] W fun en W2 => ∃ u2, en = .returned u2 ∧ Bt B W2 u2 (X ++ M) ∧ Gr W W2 u u2)) :
 Calls Tryz.prog 50 #[v, .agg #[.int .i64 15, .int .i64 num, .string text, .slice pa parts.length pc, .slice na params.length nc, .slice ba body.length bc]] w fun en w' => ∃ v', en = .returned v' ∧ Bt B w' v' (l ++ M) ∧ Gr w w' v v' := by
 have HR0 : Hid (Bt B w v l) := hR
 clear hR
 go_enter Tryz.func50, Tryz.ntmps50
 go_wp2_with fail
 obtain ⟨w1, hw1⟩ : ∃ w1, w1 = w.alloc (.cells #[.int .i64 15, .int .i64 num, .string text, .slice pa parts.length pc, .slice na params.length nc, .slice ba body.length bc] 65) := ⟨_, rfl⟩
 obtain ⟨gb, hgb⟩ : ∃ gb, gb = w.heap.size := ⟨_, rfl⟩
 have HBW : Hid (Below w.heap.size w w1) := by rw [hw1]; exact (Below.refl _ _).alloc (Nat.le_refl _) _
 have HBX : Hid (w1.heap[gb]? = some (.cells #[.int .i64 15, .int .i64 num, .string text, .slice pa parts.length pc, .slice na params.length nc, .slice ba body.length bc] 65 (0, 0))) := by rw [hw1, hgb]; exact heap_alloc_new _ _
 have HR : Hid (Bt B w1 v l) := by rw [hw1]; exact HR0.out.alloc _
 have hB1 : B ≤ w1.heap.size := Nat.le_trans hB HBW.out.size
 rw [← hw1, ← hgb]
 clear hw1 hgb
 refine (HM.out _ _ _ HR.out hB1 (HBW.out.mono hB) hlM).mono ?_
 rintro e w2 ⟨v2, rfl, r2, g2⟩
 have HR2 : Hid (Bt B w2 v2 (l ++ M)) := by show Bt _ _ _ _; simpa using r2
 have HG2 : Hid (Gr w1 w2 v v2) := by show Gr _ _ _ _; exact (Gr.refl _ _).trans g2
 have hB2 : B ≤ w2.heap.size := Nat.le_trans hB1 HG2.out.size
 clear r2 g2
 have HRz : Hid (Bt B w2 v2 (l ++ M)) := by show Bt _ _ _ _; simpa using HR2.out
 have HGz : Hid (Gr w w2 v v2) := by show Gr _ _ _ _; exact (HG2.out).pre HBW.out (fun k hk => (HR0.out.lt k hk).2)
 go_wp2
 go_ret
 exact ⟨v2, rfl, HRz.out, HGz.out⟩
theorem addExpr16 {num : Int} {text : ByteArray} {parts : List TE} {params : List ByteArray} {body : List TS} {pa na ba : Option Addr} {pc nc bc : Nat} {B : Nat} {w : World} {v : Value} {l M : Bs} (hR : Bt B w v l) (hB : B ≤ w.heap.size) (hlM : l.length + M.length ≤ 1000000000)
 (HM : Hid (∀ W u X, Bt B W u X → B ≤ W.heap.size → Below B w W → X.length + M.length ≤ 1000000000 → Calls Tryz.prog 85 #[u, .agg #[.int .i64 16, .int .i64 num, .string text, .slice pa parts.length pc, .slice na params.length nc, .slice ba body.length bc]] W fun en W2 => ∃ u2, en = .returned u2 ∧ Bt B W2 u2 (X ++ M) ∧ Gr W W2 u u2)) :
 Calls Tryz.prog 50 #[v, .agg #[.int .i64 16, .int .i64 num, .string text, .slice pa parts.length pc, .slice na params.length nc, .slice ba body.length bc]] w fun en w' => ∃ v', en = .returned v' ∧ Bt B w' v' (l ++ M) ∧ Gr w w' v v' := by
 have HR0 : Hid (Bt B w v l) := hR
 clear hR
 go_enter Tryz.func50, Tryz.ntmps50
 go_wp2_with fail
 obtain ⟨w1, hw1⟩ : ∃ w1, w1 = w.alloc (.cells #[.int .i64 16, .int .i64 num, .string text, .slice pa parts.length pc, .slice na params.length nc, .slice ba body.length bc] 65) := ⟨_, rfl⟩
 obtain ⟨gb, hgb⟩ : ∃ gb, gb = w.heap.size := ⟨_, rfl⟩
 have HBW : Hid (Below w.heap.size w w1) := by rw [hw1]; exact (Below.refl _ _).alloc (Nat.le_refl _) _
 have HBX : Hid (w1.heap[gb]? = some (.cells #[.int .i64 16, .int .i64 num, .string text, .slice pa parts.length pc, .slice na params.length nc, .slice ba body.length bc] 65 (0, 0))) := by rw [hw1, hgb]; exact heap_alloc_new _ _
 have HR : Hid (Bt B w1 v l) := by rw [hw1]; exact HR0.out.alloc _
 have hB1 : B ≤ w1.heap.size := Nat.le_trans hB HBW.out.size
 rw [← hw1, ← hgb]
 clear hw1 hgb
 refine (HM.out _ _ _ HR.out hB1 (HBW.out.mono hB) hlM).mono ?_
 rintro e w2 ⟨v2, rfl, r2, g2⟩
 have HR2 : Hid (Bt B w2 v2 (l ++ M)) := by show Bt _ _ _ _; simpa using r2
 have HG2 : Hid (Gr w1 w2 v v2) := by show Gr _ _ _ _; exact (Gr.refl _ _).trans g2
 have hB2 : B ≤ w2.heap.size := Nat.le_trans hB1 HG2.out.size
 clear r2 g2
 have HRz : Hid (Bt B w2 v2 (l ++ M)) := by show Bt _ _ _ _; simpa using HR2.out
 have HGz : Hid (Gr w w2 v v2) := by show Gr _ _ _ _; exact (HG2.out).pre HBW.out (fun k hk => (HR0.out.lt k hk).2)
 go_wp2
 go_ret
 exact ⟨v2, rfl, HRz.out, HGz.out⟩
theorem addExpr17 {num : Int} {text : ByteArray} {parts : List TE} {params : List ByteArray} {body : List TS} {pa na ba : Option Addr} {pc nc bc : Nat} {B : Nat} {w : World} {v : Value} {l M : Bs} (hR : Bt B w v l) (hB : B ≤ w.heap.size) (hlM : l.length + M.length ≤ 1000000000)
 (HM : Hid (∀ W u X, Bt B W u X → B ≤ W.heap.size → Below B w W → X.length + M.length ≤ 1000000000 → Calls Tryz.prog 86 #[u, .agg #[.int .i64 17, .int .i64 num, .string text, .slice pa parts.length pc, .slice na params.length nc, .slice ba body.length bc]] W fun en W2 => ∃ u2, en = .returned u2 ∧ Bt B W2 u2 (X ++ M) ∧ Gr W W2 u u2)) :
 Calls Tryz.prog 50 #[v, .agg #[.int .i64 17, .int .i64 num, .string text, .slice pa parts.length pc, .slice na params.length nc, .slice ba body.length bc]] w fun en w' => ∃ v', en = .returned v' ∧ Bt B w' v' (l ++ M) ∧ Gr w w' v v' := by
 have HR0 : Hid (Bt B w v l) := hR
 clear hR
 go_enter Tryz.func50, Tryz.ntmps50
 go_wp2_with fail
 obtain ⟨w1, hw1⟩ : ∃ w1, w1 = w.alloc (.cells #[.int .i64 17, .int .i64 num, .string text, .slice pa parts.length pc, .slice na params.length nc, .slice ba body.length bc] 65) := ⟨_, rfl⟩
 obtain ⟨gb, hgb⟩ : ∃ gb, gb = w.heap.size := ⟨_, rfl⟩
 have HBW : Hid (Below w.heap.size w w1) := by rw [hw1]; exact (Below.refl _ _).alloc (Nat.le_refl _) _
 have HBX : Hid (w1.heap[gb]? = some (.cells #[.int .i64 17, .int .i64 num, .string text, .slice pa parts.length pc, .slice na params.length nc, .slice ba body.length bc] 65 (0, 0))) := by rw [hw1, hgb]; exact heap_alloc_new _ _
 have HR : Hid (Bt B w1 v l) := by rw [hw1]; exact HR0.out.alloc _
 have hB1 : B ≤ w1.heap.size := Nat.le_trans hB HBW.out.size
 rw [← hw1, ← hgb]
 clear hw1 hgb
 refine (HM.out _ _ _ HR.out hB1 (HBW.out.mono hB) hlM).mono ?_
 rintro e w2 ⟨v2, rfl, r2, g2⟩
 have HR2 : Hid (Bt B w2 v2 (l ++ M)) := by show Bt _ _ _ _; simpa using r2
 have HG2 : Hid (Gr w1 w2 v v2) := by show Gr _ _ _ _; exact (Gr.refl _ _).trans g2
 have hB2 : B ≤ w2.heap.size := Nat.le_trans hB1 HG2.out.size
 clear r2 g2
 have HRz : Hid (Bt B w2 v2 (l ++ M)) := by show Bt _ _ _ _; simpa using HR2.out
 have HGz : Hid (Gr w w2 v v2) := by show Gr _ _ _ _; exact (HG2.out).pre HBW.out (fun k hk => (HR0.out.lt k hk).2)
 go_wp2
 go_ret
 exact ⟨v2, rfl, HRz.out, HGz.out⟩
theorem addNil : AddE noE := by
 intro B w v l vp vn vb hR hB hG hE hl
 obtain ⟨_, ⟨pa, pc, rfl, _⟩, ⟨na, nc, rfl, _⟩, ⟨ba, bc, rfl, _⟩⟩ := hE
 exact addExpr0 (M := txE noE) hR hB hl rfl
theorem addExpr_any {n : Nat} (hA : Small n) (e : TE) (hsz : szE e ≤ n) : AddE e := by
 intro B w v l vp vn vb hR hB hG hE hl
 cases e with
 | mk op num text parts params body =>
  have hE2 := hE
  obtain ⟨⟨h17, hn0, hn1⟩, ⟨pa, pc, rfl, _⟩, ⟨na, nc, rfl, _⟩, ⟨ba, bc, rfl, _⟩⟩ := hE2
  have hT : txE (.mk op num text parts params body) = exT op num text (txEs parts) params (txSs body) := by rw [txE]
  have hszp : szEs parts < n := by unfold szE at hsz; omega
  rw [hT] at hl ⊢
  rcases (show op = 0 ∨ op = 1 ∨ op = 2 ∨ op = 3 ∨ op = 4 ∨ op = 5 ∨ op = 6 ∨ op = 7 ∨ op = 8 ∨ op = 9 ∨ op = 10 ∨ op = 11 ∨ op = 12 ∨ op = 13 ∨ op = 14 ∨ op = 15 ∨ op = 16 ∨ op = 17 from by omega) with rfl | rfl | rfl | rfl | rfl | rfl | rfl | rfl | rfl | rfl | rfl | rfl | rfl | rfl | rfl | rfl | rfl | rfl
  ·exact addExpr0 hR hB hl rfl
  ·exact addExpr1 hR hB hl rfl
  ·exact addExpr2 hR hB hl rfl
  ·exact addExpr3 hR hB hl (fun W u X h1 h2 h3 h4 => by
    have h5 : X.length ≤ 1000000000 := by omega
    exact appI_any h1 h2 num hn0 hn1 h5 (hG.on h3).tab.here)
  ·exact addExpr4 hR hB hl (fun W u X h1 h2 h3 h4 => addQuote_any h1 h2 text (by
    have h5 : (exT 4 num text (txEs parts) params (txSs body)).length = (quoteT text.data.toList).length := rfl
    have h6 := (quoF_len text.data.toList).1
    have h7 : text.data.toList.length = text.size := rfl
    have h8 : (quoteT text.data.toList).length = (text.data.toList.flatMap quo).length + 2 := by simp [quoteT]
    rw [h5, h8] at h4
    omega))
  ·exact addExpr5 hR hB hl rfl
  ·exact addExpr6 hR hB hl (fun W u X h1 h2 h3 h4 => addUnary_any hA hsz 45 h1 h2 (hG.on h3) (EIn.on hE h3) h4)
  ·exact addExpr7 hR hB hl (fun W u X h1 h2 h3 h4 => addUnary_any hA hsz 33 h1 h2 (hG.on h3) (EIn.on hE h3) h4)
  ·exact addExpr8 hR hB hl (fun W h3 => (hG.on h3).signs 8 (by decide)) (fun W u X h1 h2 h3 h4 => addBinary_any hA hsz ⟨(sign 8).toArray⟩ h1 h2 (hG.on h3) (EIn.on hE h3) h4)
  ·exact addExpr9 hR hB hl (fun W h3 => (hG.on h3).signs 9 (by decide)) (fun W u X h1 h2 h3 h4 => addBinary_any hA hsz ⟨(sign 9).toArray⟩ h1 h2 (hG.on h3) (EIn.on hE h3) h4)
  ·exact addExpr10 hR hB hl (fun W h3 => (hG.on h3).signs 10 (by decide)) (fun W u X h1 h2 h3 h4 => addBinary_any hA hsz ⟨(sign 10).toArray⟩ h1 h2 (hG.on h3) (EIn.on hE h3) h4)
  ·exact addExpr11 hR hB hl (fun W h3 => (hG.on h3).signs 11 (by decide)) (fun W u X h1 h2 h3 h4 => addBinary_any hA hsz ⟨(sign 11).toArray⟩ h1 h2 (hG.on h3) (EIn.on hE h3) h4)
  ·exact addExpr12 hR hB hl (fun W h3 => (hG.on h3).signs 12 (by decide)) (fun W u X h1 h2 h3 h4 => addBinary_any hA hsz ⟨(sign 12).toArray⟩ h1 h2 (hG.on h3) (EIn.on hE h3) h4)
  ·exact addExpr13 hR hB hl (fun W h3 => (hG.on h3).signs 13 (by decide)) (fun W u X h1 h2 h3 h4 => addBinary_any hA hsz ⟨(sign 13).toArray⟩ h1 h2 (hG.on h3) (EIn.on hE h3) h4)
  ·exact addExpr14 hR hB hl (fun W u X h1 h2 h3 h4 => addField_any hA hszp h1 h2 (hG.on h3) (EsIn.on (show EsIn B w _ parts from hE.2.1) h3) h4)
  ·exact addExpr15 hR hB hl (fun W u X h1 h2 h3 h4 => addCall_any hA hsz h1 h2 (hG.on h3) (EIn.on hE h3) h4)
  ·exact addExpr16 hR hB hl (fun W u X h1 h2 h3 h4 => addRecord_any hA hsz h1 h2 (hG.on h3) (EIn.on hE h3) h4)
  ·exact addExpr17 hR hB hl (fun W u X h1 h2 h3 h4 => addFn_any hA hsz h1 h2 (hG.on h3) (EIn.on hE h3) h4)
theorem small_all : ∀ n, Small n
 | 0 => by
  refine ⟨fun e h => ?_, fun s h => by omega⟩
  rcases h with h | rfl
  ·omega
  ·exact addNil
 | n + 1 => by
  refine ⟨fun e h => ?_, fun s h => addStmts_any (small_all n) s (by omega)⟩
  rcases h with h | rfl
  ·exact addExpr_any (small_all n) e (by omega)
  ·exact addNil
theorem addE_all (e : TE) : AddE e := (small_all (szE e + 1)).e e (.inl (by omega))
theorem addSs_all (s : List TS) : AddSs s := (small_all (szSs s + 1)).s s (by omega)
end Go.Proofs.YtpboencfnjmmbaaGreatDoor
namespace Go.Proofs.YtpboencfnjmmbaaGreatDoor
open Go.RowKit TM
theorem print_any (s : List TS) {w : World} {vs : Value} (hG : Lg w.heap.size w) (hE : SsIn w.heap.size w vs s) (hl : (txSs s).length ≤ 1000000000) :
 Calls Tryz.prog 21 #[vs] w fun e w' => e = .returned (.string ⟨(txSs s).toArray⟩) ∧ Below w.heap.size w w' := by
 have HC := Lib.hid (addSs_all s w.heap.size w (.slice none 0 0) [] vs (Bt.nil _ w) (Nat.le_refl _) hG hE (by simpa using hl))
 clear hG hE hl
 go_enter Tryz.func21, Tryz.ntmps21
 go_wp2_with fail
 refine HC.out.mono ?_
 rintro e w1 ⟨v1, rfl, h1, k1⟩
 have hc := run_text h1
 rw [List.nil_append] at hc
 have HK : Hid (Below w.heap.size w w1) := (Bt.nil _ w).bel k1 (Nat.le_refl _)
 clear h1 k1 HC
 go_wp2
 go_ret
 exact ⟨rfl, HK.out⟩
theorem stmtString_any (s : TS) {w : World} {vx vb ve : Value} (hG : Lg w.heap.size w) (hE : SIn (· < w.heap.size) w s vx vb ve) (hl : (txS s).length ≤ 1000000000) :
 Calls Tryz.prog 22 #[stV s vx vb ve] w fun e w' => e = .returned (.string ⟨(txS s).toArray⟩) ∧ Below w.heap.size w w' := by
 have HA : Hid (∀ W, Below w.heap.size w W → Calls Tryz.prog 49 #[.slice none 0 0, stV s vx vb ve] W fun en w' => ∃ v', en = .returned v' ∧ Bt w.heap.size w' v' ([] ++ txS s) ∧ Gr W w' (.slice none 0 0) v') := fun W hb => addStmt_any (small_all (szS s)) s (Nat.le_refl _) (Bt.nil _ W) hb.size (hG.on hb) (SIn.on hE hb) (by simpa using hl)
 cases s with
 | mk kind name exprs body els pos =>
  obtain ⟨hk8, ⟨pa, pc, rfl, _⟩, ⟨na, nc, rfl, _⟩, ⟨ba, bc, rfl, _⟩⟩ := hE
  unfold stV at HA ⊢
  generalize txS (.mk kind name exprs body els pos) = T at HA hl ⊢
  clear hG hl
  go_enter Tryz.func22, Tryz.ntmps22
  go_wp2_with fail
  obtain ⟨w1, hw1⟩ : ∃ w1, w1 = w.alloc (.cells #[.int .i64 (kind : Int), .string name, .slice pa exprs.length pc, .slice na body.length nc, .slice ba els.length bc, .int .i64 pos] 60) := ⟨_, rfl⟩
  have HBW : Hid (Below w.heap.size w w1) := by rw [hw1]; exact (Below.refl _ _).alloc (Nat.le_refl _) _
  rw [← hw1]
  clear hw1
  refine (HA.out w1 HBW.out).mono ?_
  rintro e w2 ⟨v1, rfl, h1, k1⟩
  have hc := run_text h1
  rw [List.nil_append] at hc
  have HK : Hid (Below w.heap.size w w2) := HBW.out.trans ((Bt.nil _ w1).bel k1 HBW.out.size)
  clear h1 k1 HA
  go_wp2
  go_ret
  exact ⟨rfl, HK.out⟩
theorem exprString_any (s : TE) {w : World} {vx vb ve : Value} (hG : Lg w.heap.size w) (hE : EIn (· < w.heap.size) w s vx vb ve) (hl : (txE s).length ≤ 1000000000) :
 Calls Tryz.prog 23 #[exV s vx vb ve] w fun e w' => e = .returned (.string ⟨(txE s).toArray⟩) ∧ Below w.heap.size w w' := by
 have HA : Hid (∀ W, Below w.heap.size w W → Calls Tryz.prog 50 #[.slice none 0 0, exV s vx vb ve] W fun en w' => ∃ v', en = .returned v' ∧ Bt w.heap.size w' v' ([] ++ txE s) ∧ Gr W w' (.slice none 0 0) v') := fun W hb => addE_all s w.heap.size W (.slice none 0 0) [] vx vb ve (Bt.nil _ W) hb.size (hG.on hb) (EIn.on hE hb) (by simpa using hl)
 cases s with
 | mk op num text parts params body =>
  obtain ⟨_, ⟨pa, pc, rfl, _⟩, ⟨na, nc, rfl, _⟩, ⟨ba, bc, rfl, _⟩⟩ := hE
  unfold exV at HA ⊢
  generalize txE (.mk op num text parts params body) = T at HA hl ⊢
  clear hG hl
  go_enter Tryz.func23, Tryz.ntmps23
  go_wp2_with fail
  obtain ⟨w1, hw1⟩ : ∃ w1, w1 = w.alloc (.cells #[.int .i64 (op : Int), .int .i64 num, .string text, .slice pa parts.length pc, .slice na params.length nc, .slice ba body.length bc] 65) := ⟨_, rfl⟩
  have HBW : Hid (Below w.heap.size w w1) := by rw [hw1]; exact (Below.refl _ _).alloc (Nat.le_refl _) _
  rw [← hw1]
  clear hw1
  refine (HA.out w1 HBW.out).mono ?_
  rintro e w2 ⟨v1, rfl, h1, k1⟩
  have hc := run_text h1
  rw [List.nil_append] at hc
  have HK : Hid (Below w.heap.size w w2) := HBW.out.trans ((Bt.nil _ w1).bel k1 HBW.out.size)
  clear h1 k1 HA
  go_wp2
  go_ret
  exact ⟨rfl, HK.out⟩
end Go.Proofs.YtpboencfnjmmbaaGreatDoor

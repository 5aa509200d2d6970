/-
 TrUn, TrBin, TrField, TrCall, TrRec, TrFn, joined.
 Conditions: as each theorem says.
-/
import Derived.Test.YtpboencfnjmmbaaGreatDoorZTrC
set_option maxRecDepth 100000
set_option maxHeartbeats 4000000
set_option linter.unusedVariables false
namespace Go.Proofs.YtpboencfnjmmbaaGreatDoor
open Go.RowKit TM
def valU (v : Value) (c : UInt8) (gb : Nat) (vp x : Value) : Nat → Option Value
 | 0 => some v
 | 1 => some (.int .u8 (c.toNat : Int))
 | 4 => some (.pointer (some ⟨gb, 3, none⟩))
 | 5 => some vp
 | 6 => some x
 | _ => none
theorem addUnary_any {n : Nat} (hA : Small n) {op : Nat} {num : Int} {text : ByteArray} {parts : List TE} {params : List ByteArray} {body : List TS} (hsz : szE (.mk op num text parts params body) ≤ n) (c : UInt8)
 {B : Nat} {w : World} {v : Value} {l : Bs} {vp vn vb : Value} (hR : Bt B w v l) (hB : B ≤ w.heap.size) (hG : Lg B w) (hE : EIn (· < B) w (.mk op num text parts params body) vp vn vb) (hl : l.length + (unT c (txEs parts)).length ≤ 1000000000) :
 Calls Tryz.prog 81 #[v, .int .u8 (c.toNat : Int), exV (.mk op num text parts params body) vp vn vb] w fun en w' => ∃ v', en = .returned v' ∧ Bt B w' v' (l ++ unT c (txEs parts)) ∧ Gr w w' v v' := by
 have hsz2 : szEs parts < n := by unfold szE at hsz; omega
 have hE2 := hE
 obtain ⟨_, ⟨pa, pc, rfl, _⟩, ⟨na, nc, rfl, _⟩, ⟨ba, bc, rfl, _⟩⟩ := hE2
 obtain ⟨x, hx⟩ := pack hA hE.2.1 hB hG 0 (by omega) hsz2
 have hT : unT c (txEs parts) = [40, c] ++ pt (txEs parts) 0 ++ [41] := rfl
 rw [hT] at hl ⊢
 clear hT
 generalize pt (txEs parts) 0 = T at hl hx ⊢
 have hlT : l.length + T.length + 3 ≤ 1000000000 := by simp at hl; omega
 have HX : Hid (Pk B w (.slice pa parts.length pc) 0 T x) := hx
 have HR0 : Hid (Bt B w v l) := hR
 clear hE hl hx hA hsz hsz2 hR hG
 unfold exV
 go_enter Tryz.func81, Tryz.ntmps81
 go_wp2_with fail
 obtain ⟨w1, hw1⟩ : ∃ w1, w1 = w.alloc (.cells #[.int .i64 (op : Int), .int .i64 num, .string text, .slice pa parts.length pc, .slice na params.length nc, .slice ba body.length bc] 65) := ⟨_, rfl⟩
 obtain ⟨gb, hgb⟩ : ∃ gb, gb = w.heap.size := ⟨_, rfl⟩
 have HBW : Hid (Below w.heap.size w w1) := by rw [hw1]; exact (Below.refl _ _).alloc (Nat.le_refl _) _
 have HBX : Hid (w1.heap[gb]? = some (.cells #[.int .i64 (op : Int), .int .i64 num, .string text, .slice pa parts.length pc, .slice na params.length nc, .slice ba body.length bc] 65 (0, 0))) := by rw [hw1, hgb]; exact heap_alloc_new _ _
 have HR : Hid (Bt B w1 v l) := by rw [hw1]; exact HR0.out.alloc _
 have hB1 : B ≤ w1.heap.size := Nat.le_trans hB HBW.out.size
 rw [← hw1, ← hgb]
 clear hw1 hgb
 refine region_sh (valU v c gb (.slice pa parts.length pc) x) (JC B w1 v l [(3, 10, [40, c]), (7, 14, T), (8, 0, [])] 2 9 3 [40, c] 8 0) (by kernel_rfl) (by kernel_rfl) (by kernel_rfl) (JC.start HR.out _ rfl) ?_ ?_
 ·intro hon q hq L a1 W hC hl hBh hS hJ K hK
  have hqn : q < 9 := hq
  clear hq
  rcases (show q = 0 ∨ q = 1 ∨ q = 2 ∨ q = 3 ∨ q = 4 ∨ q = 5 ∨ q = 6 ∨ q = 7 ∨ q = 8 from by omega) with rfl | rfl | rfl | rfl | rfl | rfl | rfl | rfl | rfl
  ·have hz : L 8 = false := closed_not hC hl (i := 8) (j := 0) rfl (g := .phase) (by simp) rfl
   have e0 := (eval_tmp a1 0).symm.trans (hJ.s0 hz)
   refine wpOp_step rfl (fun K' hK' => ?_)
   go_simp
   exact hK' _ _ (hK _ _ (hS.put hon (i := 0) rfl rfl (fun u hu => by cases hu; rfl)) (hJ.pure (by simp) (by decide)))
  ·have e1 := (eval_tmp a1 1).symm.trans ((hS.kept 1 (by kernel_rfl)).trans rfl)
   refine wpOp_step rfl (fun K' hK' => ?_)
   go_simp
   exact hK' _ _ (hK _ _ (hS.put hon (i := 1) rfl rfl (fun u hu => by cases hu; rfl)) (hJ.pure (by simp) (by decide)))
  ·have e8 := (eval_tmp a1 8).symm.trans (hS.get hBh (i := 2) rfl 1 (by simp) rfl rfl rfl)
   refine wpOp_step rfl (fun K' hK' => ?_)
   go_simp
   exact hK' _ _ (hK _ _ (hS.put hon (i := 2) rfl rfl (fun u hu => by cases hu)) (hJ.build (by simp) (by decide) (by rw [hS.size]; exact (by decide : (9 : Nat) < 18)) rfl rfl))
  ·have n7 : L 7 = false := closed_not hC hl (i := 7) (j := 3) rfl (g := .data) (by simp) rfl
   have n8 : L 8 = false := closed_not hC n7 (i := 8) (j := 7) rfl (g := .data) (by simp) rfl
   have hx : curX L l [(3, 10, [40, c]), (7, 14, T), (8, 0, [])] = l := by simp [curX, hl]
   have e7 := (hS.get hBh (i := 3) rfl 0 (by simp) rfl rfl rfl)
   have hbi : L 2 = true := hBh _ rfl ⟨2, .data⟩ (by simp) rfl
   obtain ⟨g, u, W2, hge, hrun, hT⟩ := hJ.put (C1 := []) (C2 := [(7, 14, T), (8, 0, [])]) hB1 (by rw [hS.size]; exact (by decide : (10 : Nat) < 18)) (by simp) hl hbi (by simp [n7, n8]) (by decide) (k := 2) rfl (by decide) (vc := v) (by simp [cur, hl]) (by refine Nat.le_trans (Nat.add_le_add_right (Nat.le_of_eq (congrArg List.length hx)) _) ?_; simp; omega) 73
   refine wpOp_run rfl rfl (v := u) (w' := W2) ?_ (hK _ _ (hS.put hon (i := 3) rfl rfl (fun u hu => by cases hu)) hT)
   simp [execOp, resolve, invoke, builtin, e7, hge, hrun, Result.andThen]
  ·have e5 := (eval_tmp a1 5).symm.trans ((hS.kept 5 (by kernel_rfl)).trans rfl)
   refine wpOp_step rfl (fun K' hK' => ?_)
   go_simp
   exact hK' _ _ (hK _ _ (hS.put hon (i := 4) rfl rfl (fun u hu => by cases hu; rfl)) (hJ.pure (by simp) (by decide)))
  ·have e11 := (eval_tmp a1 11).symm.trans (hS.get hBh (i := 5) rfl 4 (by simp) rfl rfl rfl)
   have hbx : W.heap[gb]? = _ := HR.out.block hJ.gr HBX.out (by decide)
   have hcl : W.cell? ⟨gb, 3, none⟩ = some (.slice pa parts.length pc) := by simp [World.cell?, hbx]
   refine wpOp_step rfl (fun K' hK' => ?_)
   go_simp
   exact hK' _ _ (hK _ _ (hS.put hon (i := 5) rfl rfl (fun u hu => by cases hu; rfl)) (hJ.pure (by simp) (by decide)))
  ·have e12 := (eval_tmp a1 12).symm.trans (hS.get hBh (i := 6) rfl 5 (by simp) rfl rfl rfl)
   have hbel := HR.out.bel hJ.gr hB1
   refine wpOp_call (f := 111) (args := #[.slice pa parts.length pc, .int .i64 0]) (R := fun u W2 => u = x ∧ Below W.heap.size W W2) rfl rfl (by simp [execOp, resolve, invoke, e12, go_sem]) ((HX.out.part _ ((HBW.out.mono hB).trans hbel)).mono fun e W2 ⟨h1, h2⟩ => ⟨_, h1, rfl, h2⟩) ?_
   rintro u W2 ⟨rfl, r2⟩
   exact hK _ _ (hS.put hon (i := 6) rfl rfl (fun u hu => by cases hu; rfl)) (hJ.pureB (by simp) (by decide) r2)
  ·have d3 : L 3 = true := hBh _ rfl ⟨3, .data⟩ (by simp) rfl
   have n8 : L 8 = false := closed_not hC hl (i := 8) (j := 7) rfl (g := .data) (by simp) rfl
   obtain ⟨vc, hvc⟩ : ∃ x, a1.eval (.tmp 10) = x := ⟨_, rfl⟩
   have hx : curX L l [(3, 10, [40, c]), (7, 14, T), (8, 0, [])] = l ++ ([40, c]) := by simp [curX, d3, hl]
   have e13 := (eval_tmp a1 13).symm.trans (hS.get hBh (i := 7) rfl 6 (by simp) rfl rfl rfl)
   have hvc2 := (eval_tmp a1 10).symm.trans hvc
   have hrow := hJ.row
   rw [hx] at hrow
   have hcu : cur L a1 v [(3, 10, [40, c]), (7, 14, T), (8, 0, [])] = vc := (by rw [← hvc]; simp [cur, d3, hl])
   rw [hcu] at hrow
   have hgr := hJ.gr
   rw [hcu] at hgr
   have hB2 : B ≤ W.heap.size := Nat.le_trans hB1 hgr.size
   have hbel := HR.out.bel hgr hB1
   refine wpOp_call (f := 50) (args := #[vc, x]) (R := fun u W2 => Bt B W2 u (l ++ ([40, c]) ++ (T)) ∧ Gr W W2 vc u) rfl rfl (by simp [execOp, resolve, invoke, e13, hvc2, go_sem]) ((HX.out.add W vc _ hrow hB2 ((HBW.out.mono hB).trans hbel) (by simp; omega)).mono fun e W2 ⟨u, h1, h2, h3⟩ => ⟨u, h1, h2, h3⟩) ?_
   rintro u W2 ⟨r1, r2⟩
   exact hK _ _ (hS.put hon (i := 7) rfl rfl (fun u hu => by cases hu)) (hJ.step (C1 := [(3, 10, [40, c])]) (C2 := [(8, 0, [])]) (by rw [hS.size]; exact (by decide : (14 : Nat) < 18)) (by simp [d3]) hl (by simp [n8]) (by decide) (by show Bt B W2 u (curX L l [(3, 10, [40, c]), (7, 14, T), (8, 0, [])] ++ (T)); rw [hx]; exact r1) (by show Gr W W2 (cur L a1 v [(3, 10, [40, c]), (7, 14, T), (8, 0, [])]) u; rw [hcu]; exact r2))
  ·have d7 : L 7 = true := hBh _ rfl ⟨7, .data⟩ (by simp) rfl
   have d3 : L 3 = true := hBh _ rfl ⟨3, .phase⟩ (by simp) rfl
   obtain ⟨vc, hvc⟩ : ∃ x, a1.eval (.tmp 14) = x := ⟨_, rfl⟩
   have hx : curX L l [(3, 10, [40, c]), (7, 14, T), (8, 0, [])] = l ++ ([40, c]) ++ (T) := by simp [curX, d3, d7, hl, List.append_assoc]
   have e9 := (eval_tmp a1 14).symm.trans hvc
   refine wpOp_step rfl (fun K' hK' => ?_)
   go_simp
   exact hK' _ _ (hK _ _ (hS.put hon (i := 8) rfl rfl (fun u hu => by cases hu)) (hJ.hand (C1 := [(3, 10, [40, c]), (7, 14, T)]) (C2 := []) (by rw [hS.size]; exact (by decide : (0 : Nat) < 18)) (by simp [d3, d7]) hl (by simp) (by decide) (by rw [← hvc]; simp [cur, d3, d7, hl])))
 ·intro L a1 w2 hl hS hJ
  have d3 : L 3 = true := hl 3 (by decide)
  have d7 : L 7 = true := hl 7 (by decide)
  have d8 : L 8 = true := hl 8 (by decide)
  have hcu : cur L a1 v [(3, 10, [40, c]), (7, 14, T), (8, 0, [])] = a1.eval (.tmp 0) := by simp [cur, d3, d7, d8]
  have hx : curX L l [(3, 10, [40, c]), (7, 14, T), (8, 0, [])] = l ++ ([40, c]) ++ (T) := by simp [curX, d3, d7, d8, List.append_assoc]
  have hrow := hJ.row
  have hgr := hJ.gr
  rw [hcu] at hgr
  rw [hcu, hx] at hrow
  have hfr := hS.frame [7, 8, 9, 10, 11, 12, 13, 14, 0] rfl
  refine (‹∀ (a : Act) (w : World), Code.wp Tryz.prog _ _ a w → _› a1 w2 ?_)
  obtain ⟨z, hz⟩ : ∃ z : Nat → Value, z = fun k => a1.eval (.tmp k) := ⟨_, rfl⟩
  rw [← hz] at hfr
  have ze : a1.eval (.tmp 0) = z 0 := by rw [hz]
  rw [ze] at hrow hgr
  rw [hfr]
  clear hfr ze hz hS hJ hcu hx hl d3 d7 d8
  simp only [over, List.setIfInBounds_toArray, List.set_cons_zero, List.set_cons_succ]
  obtain ⟨v2, hv⟩ : ∃ u, z 0 = u := ⟨_, rfl⟩
  rw [hv] at hrow hgr ⊢
  clear hv
  have HR2 : Hid (Bt B w2 v2 (l ++ [40, c] ++ T)) := by show Bt _ _ _ _; simpa using hrow
  have HG2 : Hid (Gr w1 w2 v v2) := hgr
  have hB2 : B ≤ w2.heap.size := Nat.le_trans hB1 hgr.size
  clear hrow hgr
  go_wp2_with (at_builtin; refine wpList_app_row rfl (.tmp 15) (.tmp 16) rfl rfl HR2.out hB2 [41] rfl rfl rfl (by decide) (by simp; omega) ?_)
  intro v3 w3 r3 g3
  have HR3 : Hid (Bt B w3 v3 (l ++ ([40, c] ++ T ++ [41]))) := by show Bt _ _ _ _; simpa using r3
  have HG3 : Hid (Gr w w3 v v3) := (HG2.out.trans g3).pre HBW.out (fun k hk => (HR0.out.lt k hk).2)
  clear r3 g3
  go_wp2
  go_ret
  exact ⟨v3, rfl, HR3.out, HG3.out⟩
end Go.Proofs.YtpboencfnjmmbaaGreatDoor
namespace Go.Proofs.YtpboencfnjmmbaaGreatDoor
open Go.RowKit TM
def valB (v : Value) (gb : Nat) (vp x : Value) : Nat → Option Value
 | 0 => some v
 | 3 => some (.pointer (some ⟨gb, 3, none⟩))
 | 4 => some vp
 | 5 => some x
 | _ => none
theorem addBinary_any {n : Nat} (hA : Small n) {op : Nat} {num : Int} {text : ByteArray} {parts : List TE} {params : List ByteArray} {body : List TS} (hsz : szE (.mk op num text parts params body) ≤ n) (sg : ByteArray)
 {B : Nat} {w : World} {v : Value} {l : Bs} {vp vn vb : Value} (hR : Bt B w v l) (hB : B ≤ w.heap.size) (hG : Lg B w) (hE : EIn (· < B) w (.mk op num text parts params body) vp vn vb) (hl : l.length + (binT sg.data.toList (txEs parts)).length ≤ 1000000000) :
 Calls Tryz.prog 82 #[v, .string sg, exV (.mk op num text parts params body) vp vn vb] w fun en w' => ∃ v', en = .returned v' ∧ Bt B w' v' (l ++ binT sg.data.toList (txEs parts)) ∧ Gr w w' v v' := by
 have hszp : szEs parts < n := by unfold szE at hsz; omega
 have hszb : szSs body < n := by unfold szE at hsz; omega
 have hE2 := hE
 obtain ⟨_, ⟨pa, pc, rfl, hpc1, hpc2, hpg⟩, ⟨na, nc, rfl, hnc1, hnc2, hng⟩, ⟨ba, bc, rfl, hbc1, hbc2, hbg⟩⟩ := hE2
 obtain ⟨x, hx⟩ := pack hA hE.2.1 hB hG 0 (by omega) hszp
 obtain ⟨y, hy⟩ := pack hA hE.2.1 hB hG 1 (by omega) hszp
 have hT : binT sg.data.toList (txEs parts) = [40] ++ pt (txEs parts) 0 ++ [32] ++ sg.data.toList ++ [32] ++ pt (txEs parts) 1 ++ [41] := rfl
 rw [hT] at hl ⊢
 clear hT
 generalize pt (txEs parts) 0 = T at hl hx ⊢
 generalize pt (txEs parts) 1 = U at hl hy ⊢
 have hsg : sg.data.toList.length = sg.size := rfl
 have hlT : l.length + T.length + U.length + sg.size + 4 ≤ 1000000000 := by simp at hl; rw [← hsg]; simp; omega
 have HX : Hid (Pk B w (.slice pa parts.length pc) 0 T x) := hx
 have HY : Hid (Pk B w (.slice pa parts.length pc) 1 U y) := hy
 have HR0 : Hid (Bt B w v l) := hR
 have HSG : Hid (sg.data.toList.length = sg.size) := hsg
 clear hE hl hx hy hA hsz hszp hszb hR hG hpc1 hpc2 hpg hnc1 hnc2 hng hbc1 hbc2 hbg hsg
 unfold exV
 go_enter Tryz.func82, Tryz.ntmps82
 go_wp2_with fail
 obtain ⟨w1, hw1⟩ : ∃ w1, w1 = w.alloc (.cells #[.int .i64 (op : Int), .int .i64 num, .string text, .slice pa parts.length pc, .slice na params.length nc, .slice ba body.length bc] 65) := ⟨_, rfl⟩
 obtain ⟨gb, hgb⟩ : ∃ gb, gb = w.heap.size := ⟨_, rfl⟩
 have HBW : Hid (Below w.heap.size w w1) := by rw [hw1]; exact (Below.refl _ _).alloc (Nat.le_refl _) _
 have HBX : Hid (w1.heap[gb]? = some (.cells #[.int .i64 (op : Int), .int .i64 num, .string text, .slice pa parts.length pc, .slice na params.length nc, .slice ba body.length bc] 65 (0, 0))) := by rw [hw1, hgb]; exact heap_alloc_new _ _
 have HR : Hid (Bt B w1 v l) := by rw [hw1]; exact HR0.out.alloc _
 have hB1 : B ≤ w1.heap.size := Nat.le_trans hB HBW.out.size
 rw [← hw1, ← hgb]
 clear hw1 hgb
 refine region_sh (valB v gb (.slice pa parts.length pc) x) (JC B w1 v l [(2, 9, [40]), (6, 13, T), (7, 0, [])] 1 8 2 [40] 7 0) (by kernel_rfl) (by kernel_rfl) (by kernel_rfl) (JC.start HR.out _ rfl) ?_ ?_
 ·intro hon q hq L a1 W hC hl hBh hS hJ K hK
  have hqn : q < 8 := hq
  clear hq
  rcases (show q = 0 ∨ q = 1 ∨ q = 2 ∨ q = 3 ∨ q = 4 ∨ q = 5 ∨ q = 6 ∨ q = 7 from by omega) with rfl | rfl | rfl | rfl | rfl | rfl | rfl | rfl
  ·have hz : L 7 = false := closed_not hC hl (i := 7) (j := 0) rfl (g := .phase) (by simp) rfl
   have e0 := (eval_tmp a1 0).symm.trans (hJ.s0 hz)
   refine wpOp_step rfl (fun K' hK' => ?_)
   go_simp
   exact hK' _ _ (hK _ _ (hS.put hon (i := 0) rfl rfl (fun u hu => by cases hu; rfl)) (hJ.pure (by simp) (by decide)))
  ·refine wpOp_step rfl (fun K' hK' => ?_)
   go_simp
   exact hK' _ _ (hK _ _ (hS.put hon (i := 1) rfl rfl (fun u hu => by cases hu)) (hJ.build (by simp) (by decide) (by rw [hS.size]; exact (by decide : (8 : Nat) < 28)) rfl rfl))
  ·have n6 : L 6 = false := closed_not hC hl (i := 6) (j := 2) rfl (g := .data) (by simp) rfl
   have n7 : L 7 = false := closed_not hC n6 (i := 7) (j := 6) rfl (g := .data) (by simp) rfl
   have hx : curX L l [(2, 9, [40]), (6, 13, T), (7, 0, [])] = l := by simp [curX, hl]
   have e7 := (hS.get hBh (i := 2) rfl 0 (by simp) rfl rfl rfl)
   have hbi : L 1 = true := hBh _ rfl ⟨1, .data⟩ (by simp) rfl
   obtain ⟨g, u, W2, hge, hrun, hT⟩ := hJ.put (C1 := []) (C2 := [(6, 13, T), (7, 0, [])]) hB1 (by rw [hS.size]; exact (by decide : (9 : Nat) < 28)) (by simp) hl hbi (by simp [n6, n7]) (by decide) (k := 1) rfl (by decide) (vc := v) (by simp [cur, hl]) (by refine Nat.le_trans (Nat.add_le_add_right (Nat.le_of_eq (congrArg List.length hx)) _) ?_; first | omega | (simp; omega)) 73
   refine wpOp_run rfl rfl (v := u) (w' := W2) ?_ (hK _ _ (hS.put hon (i := 2) rfl rfl (fun u hu => by cases hu)) hT)
   simp [execOp, resolve, invoke, builtin, e7, hge, hrun, Result.andThen]
  ·have e5 := (eval_tmp a1 5).symm.trans ((hS.kept 5 (by kernel_rfl)).trans rfl)
   refine wpOp_step rfl (fun K' hK' => ?_)
   go_simp
   exact hK' _ _ (hK _ _ (hS.put hon (i := 3) rfl rfl (fun u hu => by cases hu; rfl)) (hJ.pure (by simp) (by decide)))
  ·have e10 := (eval_tmp a1 10).symm.trans (hS.get hBh (i := 4) rfl 3 (by simp) rfl rfl rfl)
   have hbx : W.heap[gb]? = _ := HR.out.block hJ.gr HBX.out (by decide)
   have hcl : W.cell? ⟨gb, 3, none⟩ = some (.slice pa parts.length pc) := by simp [World.cell?, hbx]
   refine wpOp_step rfl (fun K' hK' => ?_)
   go_simp
   exact hK' _ _ (hK _ _ (hS.put hon (i := 4) rfl rfl (fun u hu => by cases hu; rfl)) (hJ.pure (by simp) (by decide)))
  ·have e11 := (eval_tmp a1 11).symm.trans (hS.get hBh (i := 5) rfl 4 (by simp) rfl rfl rfl)
   have hbel := HR.out.bel hJ.gr hB1
   refine wpOp_call (f := 111) (args := #[.slice pa parts.length pc, .int .i64 0]) (R := fun u W2 => u = x ∧ Below W.heap.size W W2) rfl rfl (by simp [execOp, resolve, invoke, e11, go_sem]) ((HX.out.part _ ((HBW.out.mono hB).trans hbel)).mono fun e W2 ⟨h1, h2⟩ => ⟨_, h1, rfl, h2⟩) ?_
   rintro u W2 ⟨rfl, r2⟩
   exact hK _ _ (hS.put hon (i := 5) rfl rfl (fun u hu => by cases hu; rfl)) (hJ.pureB (by simp) (by decide) r2)
  ·have d2 : L 2 = true := hBh _ rfl ⟨2, .data⟩ (by simp) rfl
   have n7 : L 7 = false := closed_not hC hl (i := 7) (j := 6) rfl (g := .data) (by simp) rfl
   obtain ⟨vc, hvc⟩ : ∃ x, a1.eval (.tmp 9) = x := ⟨_, rfl⟩
   have hx : curX L l [(2, 9, [40]), (6, 13, T), (7, 0, [])] = l ++ ([40]) := by simp [curX, d2, hl]
   have e12 := (eval_tmp a1 12).symm.trans (hS.get hBh (i := 6) rfl 5 (by simp) rfl rfl rfl)
   have hvc2 := (eval_tmp a1 9).symm.trans hvc
   have hrow := hJ.row
   rw [hx] at hrow
   have hcu : cur L a1 v [(2, 9, [40]), (6, 13, T), (7, 0, [])] = vc := (by rw [← hvc]; simp [cur, d2, hl])
   rw [hcu] at hrow
   have hgr := hJ.gr
   rw [hcu] at hgr
   have hB2 : B ≤ W.heap.size := Nat.le_trans hB1 hgr.size
   have hbel := HR.out.bel hgr hB1
   refine wpOp_call (f := 50) (args := #[vc, x]) (R := fun u W2 => Bt B W2 u (l ++ ([40]) ++ (T)) ∧ Gr W W2 vc u) rfl rfl (by simp [execOp, resolve, invoke, e12, hvc2, go_sem]) ((HX.out.add W vc _ hrow hB2 ((HBW.out.mono hB).trans hbel) (by first | omega | (simp; omega))).mono fun e W2 ⟨u, h1, h2, h3⟩ => ⟨u, h1, h2, h3⟩) ?_
   rintro u W2 ⟨r1, r2⟩
   exact hK _ _ (hS.put hon (i := 6) rfl rfl (fun u hu => by cases hu)) (hJ.step (C1 := [(2, 9, [40])]) (C2 := [(7, 0, [])]) (by rw [hS.size]; exact (by decide : (13 : Nat) < 28)) (by simp [d2]) hl (by simp [n7]) (by decide) (by show Bt B W2 u (curX L l [(2, 9, [40]), (6, 13, T), (7, 0, [])] ++ (T)); rw [hx]; exact r1) (by show Gr W W2 (cur L a1 v [(2, 9, [40]), (6, 13, T), (7, 0, [])]) u; rw [hcu]; exact r2))
  ·have d6 : L 6 = true := hBh _ rfl ⟨6, .data⟩ (by simp) rfl
   have d2 : L 2 = true := hBh _ rfl ⟨2, .phase⟩ (by simp) rfl
   obtain ⟨vc, hvc⟩ : ∃ x, a1.eval (.tmp 13) = x := ⟨_, rfl⟩
   have hx : curX L l [(2, 9, [40]), (6, 13, T), (7, 0, [])] = l ++ ([40]) ++ (T) := by simp [curX, d2, d6, hl, List.append_assoc]
   have e9 := (eval_tmp a1 13).symm.trans hvc
   refine wpOp_step rfl (fun K' hK' => ?_)
   go_simp
   exact hK' _ _ (hK _ _ (hS.put hon (i := 7) rfl rfl (fun u hu => by cases hu)) (hJ.hand (C1 := [(2, 9, [40]), (6, 13, T)]) (C2 := []) (by rw [hS.size]; exact (by decide : (0 : Nat) < 28)) (by simp [d2, d6]) hl (by simp) (by decide) (by rw [← hvc]; simp [cur, d2, d6, hl])))
 ·intro L a1 w2 hl hS hJ
  have d2 : L 2 = true := hl 2 (by decide)
  have d6 : L 6 = true := hl 6 (by decide)
  have d7 : L 7 = true := hl 7 (by decide)
  have hcu : cur L a1 v [(2, 9, [40]), (6, 13, T), (7, 0, [])] = a1.eval (.tmp 0) := by simp [cur, d2, d6, d7]
  have hx : curX L l [(2, 9, [40]), (6, 13, T), (7, 0, [])] = l ++ ([40]) ++ (T) := by simp [curX, d2, d6, d7, List.append_assoc]
  have hrow := hJ.row
  have hgr := hJ.gr
  rw [hcu] at hgr
  rw [hcu, hx] at hrow
  have hfr := hS.frame [7, 8, 9, 10, 11, 12, 13, 0] rfl
  refine (‹∀ (a : Act) (w : World), Code.wp Tryz.prog _ _ a w → _› a1 w2 ?_)
  obtain ⟨z, hz⟩ : ∃ z : Nat → Value, z = fun k => a1.eval (.tmp k) := ⟨_, rfl⟩
  rw [← hz] at hfr
  have ze : a1.eval (.tmp 0) = z 0 := by rw [hz]
  rw [ze] at hrow hgr
  rw [hfr]
  clear hfr ze hz hS hJ hcu hx hl d2 d6 d7
  simp only [over, List.setIfInBounds_toArray, List.set_cons_zero, List.set_cons_succ]
  obtain ⟨v2, hv⟩ : ∃ u, z 0 = u := ⟨_, rfl⟩
  rw [hv] at hrow hgr ⊢
  clear hv
  have r2 := hrow
  have g2 := hgr
  clear hrow hgr
  have HR2 : Hid (Bt B w2 v2 (l ++ [40] ++ T)) := by show Bt _ _ _ _; simpa using r2
  have HG2 : Hid (Gr w1 w2 v v2) := by show Gr _ _ _ _; exact (Gr.refl _ _).trans g2
  have hB2 : B ≤ w2.heap.size := Nat.le_trans hB1 HG2.out.size
  clear r2 g2
  go_wp2_with (at_builtin; refine wpList_app_row rfl (.tmp 14) (.tmp 15) rfl rfl HR2.out hB2 [32] rfl (by rfl) rfl (by simp) (by first | omega | (simp; omega)) ?_)
  intro v3 w3 r3 g3
  have HR3 : Hid (Bt B w3 v3 (l ++ [40] ++ T ++ [32])) := by show Bt _ _ _ _; simpa using r3
  have HG3 : Hid (Gr w1 w3 v v3) := by show Gr _ _ _ _; exact (HG2.out).trans g3
  have hB3 : B ≤ w3.heap.size := Nat.le_trans hB1 HG3.out.size
  clear r3 g3
  go_wp2_with (at_builtin; refine wpList_app_str rfl (.tmp 16) (.tmp 17) rfl rfl HR3.out hB3 sg rfl (by show _ + sg.size ≤ _; first | omega | (simp; omega)) ?_)
  intro v4 w4 r4 g4
  have HR4 : Hid (Bt B w4 v4 (l ++ [40] ++ T ++ [32] ++ sg.data.toList)) := by show Bt _ _ _ _; simpa using r4
  have HG4 : Hid (Gr w1 w4 v v4) := by show Gr _ _ _ _; exact (HG3.out).trans g4
  have hB4 : B ≤ w4.heap.size := Nat.le_trans hB1 HG4.out.size
  clear r4 g4
  go_wp2_with (at_builtin; refine wpList_app_row rfl (.tmp 18) (.tmp 19) rfl rfl HR4.out hB4 [32] rfl (by rfl) rfl (by simp) (by first | omega | (simp; omega)) ?_)
  intro v5 w5 r5 g5
  have HR5 : Hid (Bt B w5 v5 (l ++ [40] ++ T ++ [32] ++ sg.data.toList ++ [32])) := by show Bt _ _ _ _; simpa using r5
  have HG5 : Hid (Gr w1 w5 v v5) := by show Gr _ _ _ _; exact (HG4.out).trans g5
  have hB5 : B ≤ w5.heap.size := Nat.le_trans hB1 HG5.out.size
  clear r5 g5
  have hbx5 : w5.heap[gb]? = _ := HR.out.block (HG5.out) HBX.out (by decide)
  have hc5_3 : w5.cell? ⟨gb, 3, none⟩ = some (.slice pa parts.length pc) := by simp [World.cell?, hbx5]
  clear hbx5
  go_wp2_with fail
  refine (HY.out.part _ ((HBW.out.mono hB).trans (HR.out.bel (HG5.out) hB1))).mono ?_
  rintro e w6 ⟨rfl, b6⟩
  have HR6 : Hid (Bt B w6 v5 (l ++ [40] ++ T ++ [32] ++ sg.data.toList ++ [32])) := by show Bt _ _ _ _; exact HR5.out.below b6
  have HG6 : Hid (Gr w1 w6 v v5) := by show Gr _ _ _ _; exact (HG5.out).below b6
  have hB6 : B ≤ w6.heap.size := Nat.le_trans hB1 HG6.out.size
  clear b6
  go_wp2_with fail
  refine (HY.out.add _ _ _ HR6.out hB6 ((HBW.out.mono hB).trans (HR.out.bel (HG6.out) hB1)) (by first | omega | (simp; omega))).mono ?_
  rintro e w7 ⟨v7, rfl, r7, g7⟩
  have HR7 : Hid (Bt B w7 v7 (l ++ [40] ++ T ++ [32] ++ sg.data.toList ++ [32] ++ U)) := by show Bt _ _ _ _; simpa using r7
  have HG7 : Hid (Gr w1 w7 v v7) := by show Gr _ _ _ _; exact (HG6.out).trans g7
  have hB7 : B ≤ w7.heap.size := Nat.le_trans hB1 HG7.out.size
  clear r7 g7
  go_wp2_with (at_builtin; refine wpList_app_row rfl (.tmp 25) (.tmp 26) rfl rfl HR7.out hB7 [41] rfl (by rfl) rfl (by simp) (by first | omega | (simp; omega)) ?_)
  intro v8 w8 r8 g8
  have HR8 : Hid (Bt B w8 v8 (l ++ [40] ++ T ++ [32] ++ sg.data.toList ++ [32] ++ U ++ [41])) := by show Bt _ _ _ _; simpa using r8
  have HG8 : Hid (Gr w1 w8 v v8) := by show Gr _ _ _ _; exact (HG7.out).trans g8
  have hB8 : B ≤ w8.heap.size := Nat.le_trans hB1 HG8.out.size
  clear r8 g8
  have HRz : Hid (Bt B w8 v8 (l ++ ([40] ++ T ++ [32] ++ sg.data.toList ++ [32] ++ U ++ [41]))) := by show Bt _ _ _ _; simpa using HR8.out
  have HGz : Hid (Gr w w8 v v8) := by show Gr _ _ _ _; exact (HG8.out).pre HBW.out (fun k hk => (HR0.out.lt k hk).2)
  go_wp2
  go_ret
  exact ⟨v8, rfl, HRz.out, HGz.out⟩
end Go.Proofs.YtpboencfnjmmbaaGreatDoor
namespace Go.Proofs.YtpboencfnjmmbaaGreatDoor
open Go.RowKit TM
theorem addField_any {n : Nat} (hA : Small n) {parts : List TE} (hszp : szEs parts < n)
 {B : Nat} {w : World} {v : Value} {l : Bs} {vp : Value} (hR : Bt B w v l) (hB1 : B ≤ w.heap.size) (hG : Lg B w) (hE : EsIn B w vp parts) (hl : l.length + (fieldT (txEs parts)).length ≤ 1000000000) :
 Calls Tryz.prog 83 #[v, vp] w fun en w' => ∃ v', en = .returned v' ∧ Bt B w' v' (l ++ fieldT (txEs parts)) ∧ Gr w w' v v' := by
 obtain ⟨x, hx⟩ := pack hA hE hB1 hG 0 (by omega) hszp
 obtain ⟨y, hy⟩ := pack hA hE hB1 hG 1 (by omega) hszp
 have hT : fieldT (txEs parts) = pt (txEs parts) 0 ++ [91] ++ pt (txEs parts) 1 ++ [93] := rfl
 rw [hT] at hl ⊢
 clear hT
 generalize pt (txEs parts) 0 = T at hl hx ⊢
 generalize pt (txEs parts) 1 = U at hl hy ⊢
 have hlT : l.length + T.length + U.length + 2 ≤ 1000000000 := by simp at hl; omega
 have HX : Hid (Pk B w vp 0 T x) := hx
 have HY : Hid (Pk B w vp 1 U y) := hy
 have HR : Hid (Bt B w v l) := hR
 clear hE hl hx hy hA hszp hR hG
 go_enter Tryz.func83, Tryz.ntmps83
 go_wp2_with fail
 refine (HX.out.part _ (HR.out.bel (Gr.refl _ _) hB1)).mono ?_
 rintro e w2 ⟨rfl, b2⟩
 have HR2 : Hid (Bt B w2 v (l)) := by show Bt _ _ _ _; exact HR.out.below b2
 have HG2 : Hid (Gr w w2 v v) := by show Gr _ _ _ _; exact (Gr.refl _ _).below b2
 have hB2 : B ≤ w2.heap.size := Nat.le_trans hB1 HG2.out.size
 clear b2
 go_wp2_with fail
 refine (HX.out.add _ _ _ HR2.out hB2 (HR.out.bel (HG2.out) hB1) (by first | omega | (simp; omega))).mono ?_
 rintro e w3 ⟨v3, rfl, r3, g3⟩
 have HR3 : Hid (Bt B w3 v3 (l ++ T)) := by show Bt _ _ _ _; simpa using r3
 have HG3 : Hid (Gr w w3 v v3) := by show Gr _ _ _ _; exact (HG2.out).trans g3
 have hB3 : B ≤ w3.heap.size := Nat.le_trans hB1 HG3.out.size
 clear r3 g3
 go_wp2_with (at_builtin; refine wpList_app_row rfl (.tmp 8) (.tmp 9) rfl rfl HR3.out hB3 [91] rfl (by rfl) rfl (by simp) (by first | omega | (simp; omega)) ?_)
 intro v4 w4 r4 g4
 have HR4 : Hid (Bt B w4 v4 (l ++ T ++ [91])) := by show Bt _ _ _ _; simpa using r4
 have HG4 : Hid (Gr w w4 v v4) := by show Gr _ _ _ _; exact (HG3.out).trans g4
 have hB4 : B ≤ w4.heap.size := Nat.le_trans hB1 HG4.out.size
 clear r4 g4
 go_wp2_with fail
 refine (HY.out.part _ (HR.out.bel (HG4.out) hB1)).mono ?_
 rintro e w5 ⟨rfl, b5⟩
 have HR5 : Hid (Bt B w5 v4 (l ++ T ++ [91])) := by show Bt _ _ _ _; exact HR4.out.below b5
 have HG5 : Hid (Gr w w5 v v4) := by show Gr _ _ _ _; exact (HG4.out).below b5
 have hB5 : B ≤ w5.heap.size := Nat.le_trans hB1 HG5.out.size
 clear b5
 go_wp2_with fail
 refine (HY.out.add _ _ _ HR5.out hB5 (HR.out.bel (HG5.out) hB1) (by first | omega | (simp; omega))).mono ?_
 rintro e w6 ⟨v6, rfl, r6, g6⟩
 have HR6 : Hid (Bt B w6 v6 (l ++ T ++ [91] ++ U)) := by show Bt _ _ _ _; simpa using r6
 have HG6 : Hid (Gr w w6 v v6) := by show Gr _ _ _ _; exact (HG5.out).trans g6
 have hB6 : B ≤ w6.heap.size := Nat.le_trans hB1 HG6.out.size
 clear r6 g6
 go_wp2_with (at_builtin; refine wpList_app_row rfl (.tmp 14) (.tmp 15) rfl rfl HR6.out hB6 [93] rfl (by rfl) rfl (by simp) (by first | omega | (simp; omega)) ?_)
 intro v7 w7 r7 g7
 have HR7 : Hid (Bt B w7 v7 (l ++ T ++ [91] ++ U ++ [93])) := by show Bt _ _ _ _; simpa using r7
 have HG7 : Hid (Gr w w7 v v7) := by show Gr _ _ _ _; exact (HG6.out).trans g7
 have hB7 : B ≤ w7.heap.size := Nat.le_trans hB1 HG7.out.size
 clear r7 g7
 have HRz : Hid (Bt B w7 v7 (l ++ (T ++ [91] ++ U ++ [93]))) := by show Bt _ _ _ _; simpa using HR7.out
 have HGz : Hid (Gr w w7 v v7) := by show Gr _ _ _ _; exact HG7.out
 go_wp2
 go_ret
 exact ⟨v7, rfl, HRz.out, HGz.out⟩
theorem addBlock_any {n : Nat} (hA : Small n) {s : List TS} (hsz : szSs s < n)
 {B : Nat} {w : World} {v : Value} {l : Bs} {vs : Value} (hR : Bt B w v l) (hB1 : B ≤ w.heap.size) (hG : Lg B w) (hE : SsIn B w vs s) (hl : l.length + (blockT (txSs s)).length ≤ 1000000000) :
 Calls Tryz.prog 112 #[v, vs] w fun en w' => ∃ v', en = .returned v' ∧ Bt B w' v' (l ++ blockT (txSs s)) ∧ Gr w w' v v' := by
 have hs := hA.s s hsz
 have HS : Hid (∀ W u X, Bt B W u X → B ≤ W.heap.size → Below B w W → X.length + (txSs s).length ≤ 1000000000 → Calls Tryz.prog 48 #[u, vs] W fun en W2 => ∃ u2, en = .returned u2 ∧ Bt B W2 u2 (X ++ txSs s) ∧ Gr W W2 u u2) := fun W u X h1 h2 h3 h4 => hs B W u X vs h1 h2 (hG.on h3) (hE.on h3) h4
 have hT : blockT (txSs s) = [123, 10] ++ txSs s ++ [125] := rfl
 rw [hT] at hl ⊢
 generalize txSs s = T at hl HS ⊢
 have hlT : l.length + T.length + 3 ≤ 1000000000 := by simp at hl; omega
 have HR : Hid (Bt B w v l) := hR
 clear hE hl hA hsz hR hG hT hs
 go_enter Tryz.func112, Tryz.ntmps112
 go_wp2_with (at_builtin; refine wpList_app_str rfl (.tmp 5) _ rfl rfl HR.out hB1 ⟨#[123, 10]⟩ rfl (by show _ + 2 ≤ _; first | omega | (simp; omega)) ?_)
 intro v2 w2 r2 g2
 have HR2 : Hid (Bt B w2 v2 (l ++ [123, 10])) := by show Bt _ _ _ _; simpa using r2
 have HG2 : Hid (Gr w w2 v v2) := by show Gr _ _ _ _; exact (Gr.refl _ _).trans g2
 have hB2 : B ≤ w2.heap.size := Nat.le_trans hB1 HG2.out.size
 clear r2 g2
 go_wp2_with fail
 refine (HS.out _ _ _ HR2.out hB2 (HR.out.bel (HG2.out) hB1) (by first | omega | (simp; omega))).mono ?_
 rintro e w3 ⟨v3, rfl, r3, g3⟩
 have HR3 : Hid (Bt B w3 v3 (l ++ [123, 10] ++ T)) := by show Bt _ _ _ _; simpa using r3
 have HG3 : Hid (Gr w w3 v v3) := by show Gr _ _ _ _; exact (HG2.out).trans g3
 have hB3 : B ≤ w3.heap.size := Nat.le_trans hB1 HG3.out.size
 clear r3 g3
 go_wp2_with (at_builtin; refine wpList_app_row rfl (.tmp 9) (.tmp 10) rfl rfl HR3.out hB3 [125] rfl (by rfl) rfl (by simp) (by first | omega | (simp; omega)) ?_)
 intro v4 w4 r4 g4
 have HR4 : Hid (Bt B w4 v4 (l ++ [123, 10] ++ T ++ [125])) := by show Bt _ _ _ _; simpa using r4
 have HG4 : Hid (Gr w w4 v v4) := by show Gr _ _ _ _; exact (HG3.out).trans g4
 have hB4 : B ≤ w4.heap.size := Nat.le_trans hB1 HG4.out.size
 clear r4 g4
 have HRz : Hid (Bt B w4 v4 (l ++ ([123, 10] ++ T ++ [125]))) := by show Bt _ _ _ _; simpa using HR4.out
 have HGz : Hid (Gr w w4 v v4) := by show Gr _ _ _ _; exact HG4.out
 go_wp2
 go_ret
 exact ⟨v4, rfl, HRz.out, HGz.out⟩
end Go.Proofs.YtpboencfnjmmbaaGreatDoor
namespace Go.Proofs.YtpboencfnjmmbaaGreatDoor
open Go.RowKit TM
theorem addCall_any {n : Nat} (hA : Small n) {op : Nat} {num : Int} {text : ByteArray} {parts : List TE} {params : List ByteArray} {body : List TS} (hsz : szE (.mk op num text parts params body) ≤ n)
 {B : Nat} {w : World} {v : Value} {l : Bs} {vp vn vb : Value} (hR : Bt B w v l) (hB : B ≤ w.heap.size) (hG : Lg B w) (hE : EIn (· < B) w (.mk op num text parts params body) vp vn vb) (hl : l.length + (callT (txEs parts)).length ≤ 1000000000) :
 Calls Tryz.prog 84 #[v, exV (.mk op num text parts params body) vp vn vb] w fun en w' => ∃ v', en = .returned v' ∧ Bt B w' v' (l ++ callT (txEs parts)) ∧ Gr w w' v v' := by
 have hszp : szEs parts < n := by unfold szE at hsz; omega
 have hszb : szSs body < n := by unfold szE at hsz; omega
 have hE2 := hE
 obtain ⟨_, ⟨pa, pc, rfl, hpc1, hpc2, hpg⟩, ⟨na, nc, rfl, hnc1, hnc2, hng⟩, ⟨ba, bc, rfl, hbc1, hbc2, hbg⟩⟩ := hE2
 obtain ⟨x, hx⟩ := pack hA hE.2.1 hB hG 0 (by omega) hszp
 have HAT : Hid (∀ g o, g < B → EsAt (· < B) w g o parts → ∀ k e, parts[k]? = some e → ∃ (op num : Int) (text : ByteArray) (a b c : Option Addr) (n1 c1 n2 c2 n3 c3 : Nat), (∀ W, Below B w W → W.cell? ⟨g, o + k * 6, none⟩ = some (.int .i64 op) ∧ W.cell? ⟨g, o + k * 6 + 1, none⟩ = some (.int .i64 num) ∧ W.cell? ⟨g, o + k * 6 + 2, none⟩ = some (.string text) ∧ W.cell? ⟨g, o + k * 6 + 3, none⟩ = some (.slice a n1 c1) ∧ W.cell? ⟨g, o + k * 6 + 4, none⟩ = some (.slice b n2 c2) ∧ W.cell? ⟨g, o + k * 6 + 5, none⟩ = some (.slice c n3 c3)) ∧ ∀ W vc X, Bt B W vc X → B ≤ W.heap.size → Below B w W → X.length + (txE e).length ≤ 1000000000 → Calls Tryz.prog 50 #[vc, .agg #[.int .i64 op, .int .i64 num, .string text, .slice a n1 c1, .slice b n2 c2, .slice c n3 c3]] W fun en W2 => ∃ u, en = .returned u ∧ Bt B W2 u (X ++ txE e) ∧ Gr W W2 vc u) := fun g o hgB h k e he => packAt hA hG h hgB he hszp
 have HPG : Hid (0 < parts.length → ∃ g o, pa = some ⟨g, o, none⟩ ∧ g < B ∧ EsAt (· < B) w g o parts) := hpg
 have hT : callT (txEs parts) = pt (txEs parts) 0 ++ [40] ++ commas ((txEs parts).drop 1) ++ [41] := rfl
 rw [hT] at hl ⊢
 clear hT
 obtain ⟨C, hC0, hC1, hC2, hC3⟩ := front ((txEs parts).drop 1)
 have HC0 : Hid (C 0 = []) := hC0
 have HC1 : Hid (∀ j e, parts[j + 1]? = some e → C (j + 1) = C j ++ com j ++ txE e) := fun j e he => hC1 j (txE e) (by rw [List.getElem?_drop, Nat.add_comm 1 j]; exact txEs_get he)
 have HC3 : Hid (∀ j, parts.length ≤ j + 1 → C j = commas ((txEs parts).drop 1)) := fun j hj => hC3 j (by rw [List.length_drop, txEs_length]; omega)
 generalize pt (txEs parts) 0 = T at hl hx ⊢
 generalize commas ((txEs parts).drop 1) = M at hl hC2 HC3 ⊢
 have hlT : l.length + T.length + M.length + 2 ≤ 1000000000 := by simp at hl; omega
 have hlC : ∀ j, (C j).length ≤ M.length := hC2
 have HX : Hid (Pk B w (.slice pa parts.length pc) 0 T x) := hx
 have HR0 : Hid (Bt B w v l) := hR
 unfold maxLen at hpc2
 clear hE hl hx hA hsz hszp hszb hR hG hpg hnc1 hnc2 hng hbc1 hbc2 hbg hC0 hC1 hC2 hC3
 unfold exV
 go_enter Tryz.func84, Tryz.ntmps84
 go_wp2_with fail
 obtain ⟨w1, hw1⟩ : ∃ w1, w1 = w.alloc (.cells #[.int .i64 (op : Int), .int .i64 num, .string text, .slice pa parts.length pc, .slice na params.length nc, .slice ba body.length bc] 65) := ⟨_, rfl⟩
 obtain ⟨gb, hgb⟩ : ∃ gb, gb = w.heap.size := ⟨_, rfl⟩
 have HBW : Hid (Below w.heap.size w w1) := by rw [hw1]; exact (Below.refl _ _).alloc (Nat.le_refl _) _
 have HBX : Hid (w1.heap[gb]? = some (.cells #[.int .i64 (op : Int), .int .i64 num, .string text, .slice pa parts.length pc, .slice na params.length nc, .slice ba body.length bc] 65 (0, 0))) := by rw [hw1, hgb]; exact heap_alloc_new _ _
 have HR : Hid (Bt B w1 v l) := by rw [hw1]; exact HR0.out.alloc _
 have hB1 : B ≤ w1.heap.size := Nat.le_trans hB HBW.out.size
 rw [← hw1, ← hgb]
 clear hw1 hgb
 have hbx1 : w1.heap[gb]? = _ := HR.out.block (Gr.refl _ _) HBX.out (by decide)
 have hc1_3 : w1.cell? ⟨gb, 3, none⟩ = some (.slice pa parts.length pc) := by simp [World.cell?, hbx1]
 clear hbx1
 go_wp2_with fail
 refine (HX.out.part _ ((HBW.out.mono hB).trans (HR.out.bel (Gr.refl _ _) hB1))).mono ?_
 rintro e w2 ⟨rfl, b2⟩
 have HR2 : Hid (Bt B w2 v (l)) := by show Bt _ _ _ _; exact HR.out.below b2
 have HG2 : Hid (Gr w1 w2 v v) := by show Gr _ _ _ _; exact (Gr.refl _ _).below b2
 have hB2 : B ≤ w2.heap.size := Nat.le_trans hB1 HG2.out.size
 clear b2
 go_wp2_with fail
 refine (HX.out.add _ _ _ HR2.out hB2 ((HBW.out.mono hB).trans (HR.out.bel (HG2.out) hB1)) (by first | omega | (simp; omega))).mono ?_
 rintro e w3 ⟨v3, rfl, r3, g3⟩
 have HR3 : Hid (Bt B w3 v3 (l ++ T)) := by show Bt _ _ _ _; simpa using r3
 have HG3 : Hid (Gr w1 w3 v v3) := by show Gr _ _ _ _; exact (HG2.out).trans g3
 have hB3 : B ≤ w3.heap.size := Nat.le_trans hB1 HG3.out.size
 clear r3 g3
 go_wp2_with (at_builtin; refine wpList_app_row rfl (.tmp 10) (.tmp 11) rfl rfl HR3.out hB3 [40] rfl (by rfl) rfl (by simp) (by first | omega | (simp; omega)) ?_)
 intro v4 w4 r4 g4
 have HR4 : Hid (Bt B w4 v4 (l ++ T ++ [40])) := by show Bt _ _ _ _; simpa using r4
 have HG4 : Hid (Gr w1 w4 v v4) := by show Gr _ _ _ _; exact (HG3.out).trans g4
 have hB4 : B ≤ w4.heap.size := Nat.le_trans hB1 HG4.out.size
 clear r4 g4
 go_wp2_with fail
 go_loopw [5, 0] (fun i u wr => ∃ j : Nat, i = .int .i64 ((j + 1 : Nat) : Int) ∧ j ≤ parts.length ∧ Hid (Bt B wr u (l ++ T ++ [40] ++ C j)) ∧ Hid (Gr w1 wr v u))
  (fun i _ _ => parts.length + 1 - (intOf i).toNat)
 case atStart => exact ⟨0, rfl, Nat.zero_le _, by rw [HC0.out, List.append_nil]; exact HR4, HG4⟩
 case round =>
  obtain ⟨j, rfl, hjp, HRj, HGj⟩ := hrel
  have hBj : B ≤ wr.heap.size := Nat.le_trans hB1 HGj.out.size
  have hjm := hlC j
  obtain ⟨A, hA⟩ : ∃ A, l ++ T ++ [40] ++ C j = A := ⟨_, rfl⟩
  have hAl : A.length ≤ l.length + T.length + M.length + 1 := by rw [← hA]; simp; omega
  rw [hA] at HRj
  have HA : Hid (l ++ T ++ [40] ++ C j = A) := hA
  clear hA
  have hbx : wr.heap[gb]? = _ := HR.out.block HGj.out HBX.out (by decide)
  have hcl : wr.cell? ⟨gb, 3, none⟩ = some (.slice pa parts.length pc) := by simp [World.cell?, hbx]
  clear hbx
  have HBEL : Hid (Below B w wr) := (HBW.out.mono hB).trans (HR.out.bel HGj.out hB1)
  by_cases hlt : j + 1 < parts.length
  ·obtain ⟨e, he⟩ : ∃ e, parts[j + 1]? = some e := ⟨_, List.getElem?_eq_getElem hlt⟩
   obtain ⟨ga, oa, rfl, hgB, hEs⟩ := HPG.out (by omega)
   obtain ⟨op2, num2, text2, a2, b2, c2, n1, m1, n2, m2, n3, m3, hce, had⟩ := HAT.out ga oa hgB hEs (j + 1) e he
   have HCE := Lib.hid hce
   have HAD := Lib.hid had
   have HN : Hid (l ++ T ++ [40] ++ C (j + 1) = A ++ com j ++ txE e) := by show _ = _; rw [← HA.out, HC1.out j e he]; simp
   have hjm2 := hlC (j + 1)
   have hNl : A.length + (com j).length + (txE e).length ≤ l.length + T.length + M.length + 1 := by have := congrArg List.length HN.out; simp at this; omega
   have hidx : 0 ≤ ((j + 1 : Nat) : Int) ∧ ((j + 1 : Nat) : Int) < (parts.length : Int) := ⟨by omega, by omega⟩
   have hgl : ga < wr.heap.size := Nat.lt_of_lt_of_le hgB hBj
   generalize txE e = U at *
   clear hce had he hEs
   by_cases h0 : j = 0
   ·subst h0
    have HN2 : Hid (l ++ T ++ [40] ++ C (0 + 1) = A ++ U) := by show _ = _; rw [HN.out]; simp [com]
    clear HN
    obtain ⟨q0, q1, q2, q3, q4, q5⟩ := HCE.out wr HBEL.out
    simp only [Nat.zero_add, Nat.one_mul] at q0 q1 q2 q3 q4 q5 hidx hlt
    go_wp2_with fail
    refine (HAD.out _ _ _ HRj.out hBj HBEL.out (by simp [com] at hNl; omega)).mono ?_
    rintro en w5 ⟨v5, rfl, r5, g5⟩
    have HR5 : Hid (Bt B w5 v5 (l ++ T ++ [40] ++ C (0 + 1))) := by show Bt _ _ _ _; rw [HN2.out]; exact r5
    have HG5 : Hid (Gr w1 w5 v v5) := HGj.out.trans g5
    clear r5 g5 q0 q1 q2 q3 q4 q5
    go_wp2_with fail
    go_roundw
    case rel => exact ⟨0 + 1, by go_num, by omega, HR5, HG5⟩
    case measure => simp [intOf]; omega
   ·have hc1 : decide ((1 : Int) < ((j + 1 : Nat) : Int)) = true := by simp; omega
    have HN2 : Hid (l ++ T ++ [40] ++ C (j + 1) = A ++ [44, 32] ++ U) := by show _ = _; rw [HN.out]; simp [com, h0]
    clear HN
    have hcm : (com j).length = 2 := by simp [com, h0]
    go_wp2_with (at_builtin; refine wpList_app_str rfl (.tmp 22) _ rfl rfl HRj.out hBj ⟨#[44, 32]⟩ rfl (by show _ + 2 ≤ _; omega) ?_)
    intro v4 w4 r4 g4
    have HR4 : Hid (Bt B w4 v4 (A ++ [44, 32])) := r4
    have HG4 : Hid (Gr w1 w4 v v4) := HGj.out.trans g4
    have hB4 : B ≤ w4.heap.size := Nat.le_trans hB1 HG4.out.size
    have HBEL4 : Hid (Below B w w4) := (HBW.out.mono hB).trans (HR.out.bel HG4.out hB1)
    clear r4 g4
    obtain ⟨q0, q1, q2, q3, q4, q5⟩ := HCE.out w4 HBEL4.out
    have hbx : w4.heap[gb]? = _ := HR.out.block HG4.out HBX.out (by decide)
    have hcl4 : w4.cell? ⟨gb, 3, none⟩ = some (.slice (some ⟨ga, oa, none⟩) parts.length pc) := by simp [World.cell?, hbx]
    clear hbx
    have hgl4 : ga < w4.heap.size := Nat.lt_of_lt_of_le hgB hB4
    go_wp2_with fail
    refine (HAD.out _ _ _ HR4.out hB4 HBEL4.out (by simp; omega)).mono ?_
    rintro en w5 ⟨v5, rfl, r5, g5⟩
    have HR5 : Hid (Bt B w5 v5 (l ++ T ++ [40] ++ C (j + 1))) := by show Bt _ _ _ _; rw [HN2.out]; exact r5
    have HG5 : Hid (Gr w1 w5 v v5) := HG4.out.trans g5
    clear r5 g5 q0 q1 q2 q3 q4 q5
    go_wp2_with fail
    go_roundw
    case rel => exact ⟨j + 1, by go_num, by omega, HR5, HG5⟩
    case measure => simp [intOf]; omega
  ·have HM : Hid (l ++ T ++ [40] ++ M = A) := by show _ = _; rw [← HA.out, HC3.out j (by omega)]
   have hcmp : decide (((j + 1 : Nat) : Int) < (parts.length : Int)) = false := by simp; omega
   go_wp2_with (at_builtin; refine wpList_app_row rfl (.tmp 31) (.tmp 32) rfl rfl HRj.out hBj [41] rfl (by rfl) rfl (by simp) (by first | omega | (simp; omega)) ?_)
   intro v4 w4 r4 g4
   have HR4 : Hid (Bt B w4 v4 (l ++ (T ++ [40] ++ M ++ [41]))) := by show Bt _ _ _ _; rw [← HM.out] at r4; simpa using r4
   have HG4 : Hid (Gr w w4 v v4) := (HGj.out.trans g4).pre HBW.out (fun k hk => (HR0.out.lt k hk).2)
   clear r4 g4
   go_wp2
   go_ret
   exact ⟨v4, rfl, HR4.out, HG4.out⟩
end Go.Proofs.YtpboencfnjmmbaaGreatDoor
namespace Go.Proofs.YtpboencfnjmmbaaGreatDoor
open Go.RowKit TM
def valR (v : Value) (gb : Nat) (vp : Value) (i : Nat) (pe x : Value) : Nat → Option Value
 | 0 => some v
 | 3 => some (.pointer (some ⟨gb, 3, none⟩))
 | 4 => some vp
 | 5 => some (.int .i64 (i : Int))
 | 6 => some pe
 | 7 => some x
 | _ => none
def valS (v : Value) (gb : Nat) (vp : Value) (i : Nat) (y : Value) : Nat → Option Value
 | 0 => some v
 | 2 => some (.pointer (some ⟨gb, 3, none⟩))
 | 3 => some vp
 | 4 => some (.int .i64 (i : Int))
 | 5 => some (.int .i64 ((i : Int) + 1))
 | 6 => some y
 | _ => none
theorem addRecord_any {n : Nat} (hA : Small n) {op : Nat} {num : Int} {text : ByteArray} {parts : List TE} {params : List ByteArray} {body : List TS} (hsz : szE (.mk op num text parts params body) ≤ n)
 {B : Nat} {w : World} {v : Value} {l : Bs} {vp vn vb : Value} (hR : Bt B w v l) (hB : B ≤ w.heap.size) (hG : Lg B w) (hE : EIn (· < B) w (.mk op num text parts params body) vp vn vb) (hl : l.length + (recT (txEs parts)).length ≤ 1000000000) :
 Calls Tryz.prog 85 #[v, exV (.mk op num text parts params body) vp vn vb] w fun en w' => ∃ v', en = .returned v' ∧ Bt B w' v' (l ++ recT (txEs parts)) ∧ Gr w w' v v' := by
 have hszp : szEs parts < n := by unfold szE at hsz; omega
 have hszb : szSs body < n := by unfold szE at hsz; omega
 have hE2 := hE
 obtain ⟨_, ⟨pa, pc, rfl, hpc1, hpc2, hpg⟩, ⟨na, nc, rfl, hnc1, hnc2, hng⟩, ⟨ba, bc, rfl, hbc1, hbc2, hbg⟩⟩ := hE2
 have HAT : Hid (∀ g o, g < B → EsAt (· < B) w g o parts → ∀ k e, parts[k]? = some e → ∃ (op num : Int) (text : ByteArray) (a b c : Option Addr) (n1 c1 n2 c2 n3 c3 : Nat), (∀ W, Below B w W → W.cell? ⟨g, o + k * 6, none⟩ = some (.int .i64 op) ∧ W.cell? ⟨g, o + k * 6 + 1, none⟩ = some (.int .i64 num) ∧ W.cell? ⟨g, o + k * 6 + 2, none⟩ = some (.string text) ∧ W.cell? ⟨g, o + k * 6 + 3, none⟩ = some (.slice a n1 c1) ∧ W.cell? ⟨g, o + k * 6 + 4, none⟩ = some (.slice b n2 c2) ∧ W.cell? ⟨g, o + k * 6 + 5, none⟩ = some (.slice c n3 c3)) ∧ ∀ W vc X, Bt B W vc X → B ≤ W.heap.size → Below B w W → X.length + (txE e).length ≤ 1000000000 → Calls Tryz.prog 50 #[vc, .agg #[.int .i64 op, .int .i64 num, .string text, .slice a n1 c1, .slice b n2 c2, .slice c n3 c3]] W fun en W2 => ∃ u, en = .returned u ∧ Bt B W2 u (X ++ txE e) ∧ Gr W W2 vc u) := fun g o hgB h k e he => packAt hA hG h hgB he hszp
 have HPK : Hid (∀ i : Nat, i ≤ 9223372036854775807 → ∃ y, Pk B w (.slice pa parts.length pc) i (pt (txEs parts) i) y) := fun i hi => pack hA hE.2.1 hB hG i hi hszp
 have HPG : Hid (0 < parts.length → ∃ g o, pa = some ⟨g, o, none⟩ ∧ g < B ∧ EsAt (· < B) w g o parts) := hpg
 have hT : recT (txEs parts) = [123] ++ commas (pairs (txEs parts)) ++ [125] := rfl
 rw [hT] at hl ⊢
 clear hT
 obtain ⟨C, hC0, hC1, hC2, hC3⟩ := front (pairs (txEs parts))
 have HC0 : Hid (C 0 = []) := hC0
 have HC1 : Hid (∀ j e, parts[2 * j]? = some e → C (j + 1) = C j ++ com j ++ ([91] ++ txE e ++ [93, 58, 32] ++ pt (txEs parts) (2 * j + 1))) := fun j e he => hC1 j _ (pairs_get (txEs_get he))
 have HC3 : Hid (∀ j, parts.length ≤ 2 * j → C j = commas (pairs (txEs parts))) := fun j hj => hC3 j (pairs_len _ _ (by rw [txEs_length]; exact hj))
 generalize commas (pairs (txEs parts)) = M at hl hC2 HC3 ⊢
 have hlT : l.length + M.length + 2 ≤ 1000000000 := by simp at hl; omega
 have hlC : ∀ j, (C j).length ≤ M.length := hC2
 have HR0 : Hid (Bt B w v l) := hR
 unfold maxLen at hpc2
 clear hE hl hA hsz hszp hszb hR hG hpg hnc1 hnc2 hng hbc1 hbc2 hbg hC0 hC1 hC2 hC3
 unfold exV
 go_enter Tryz.func85, Tryz.ntmps85
 go_wp2_with (at_builtin; refine Hid.out ?_)
 refine Lib.hid ?_
 obtain ⟨w1, hw1⟩ : ∃ w1, w1 = w.alloc (.cells #[.int .i64 (op : Int), .int .i64 num, .string text, .slice pa parts.length pc, .slice na params.length nc, .slice ba body.length bc] 65) := ⟨_, rfl⟩
 obtain ⟨gb, hgb⟩ : ∃ gb, gb = w.heap.size := ⟨_, rfl⟩
 have HBW : Hid (Below w.heap.size w w1) := by rw [hw1]; exact (Below.refl _ _).alloc (Nat.le_refl _) _
 have HBX : Hid (w1.heap[gb]? = some (.cells #[.int .i64 (op : Int), .int .i64 num, .string text, .slice pa parts.length pc, .slice na params.length nc, .slice ba body.length bc] 65 (0, 0))) := by rw [hw1, hgb]; exact heap_alloc_new _ _
 have HR : Hid (Bt B w1 v l) := by rw [hw1]; exact HR0.out.alloc _
 have hB1 : B ≤ w1.heap.size := Nat.le_trans hB HBW.out.size
 rw [← hw1, ← hgb]
 have hgs : gb + 1 = w1.heap.size := by rw [hw1, hgb]; simp
 rw [hgs]
 clear hgs
 clear hw1 hgb
 refine wpList_app_row rfl (.tmp 6) (.tmp 7) rfl rfl HR.out hB1 [123] rfl (by rfl) rfl (by simp) (by first | omega | (simp; omega)) ?_
 intro v2 w2 r2 g2
 have HR2 : Hid (Bt B w2 v2 (l ++ [123])) := by show Bt _ _ _ _; simpa using r2
 have HG2 : Hid (Gr w1 w2 v v2) := by show Gr _ _ _ _; exact (Gr.refl _ _).trans g2
 have hB2 : B ≤ w2.heap.size := Nat.le_trans hB1 HG2.out.size
 clear r2 g2
 go_wp2_with fail
 go_loopw [5, 0] (fun i u wr => ∃ j k : Nat, i = .int .i64 (k : Int) ∧ Hid (k = 2 * j) ∧ Hid (4 * j ≤ (C j).length) ∧ k ≤ parts.length + 1 ∧ Hid (Bt B wr u (l ++ [123] ++ C j)) ∧ Hid (Gr w1 wr v u))
  (fun i _ _ => parts.length + 1 - (intOf i).toNat)
 case atStart => exact ⟨0, 0, rfl, rfl, Nat.zero_le _, Nat.zero_le _, by rw [HC0.out, List.append_nil]; exact HR2, HG2⟩
 case round =>
  obtain ⟨j, k, rfl, HJ, HJ4, hkp, HRj, HGj⟩ := hrel
  have hk9 : k ≤ 1000000000 := by have h1 := HJ.out; have h2 := HJ4.out; have h3 := hlC j; omega
  have hBj : B ≤ wr.heap.size := Nat.le_trans hB1 HGj.out.size
  have hjm := hlC j
  obtain ⟨A, hA⟩ : ∃ A, l ++ [123] ++ C j = A := ⟨_, rfl⟩
  have hAl : A.length ≤ l.length + M.length + 1 := by rw [← hA]; simp; omega
  rw [hA] at HRj
  have HA : Hid (l ++ [123] ++ C j = A) := hA
  clear hA
  have hbx : wr.heap[gb]? = _ := HR.out.block HGj.out HBX.out (by decide)
  have hcl : wr.cell? ⟨gb, 3, none⟩ = some (.slice pa parts.length pc) := by simp [World.cell?, hbx]
  clear hbx
  have HBEL : Hid (Below B w wr) := (HBW.out.mono hB).trans (HR.out.bel HGj.out hB1)
  by_cases hlt : k < parts.length
  ·obtain ⟨e, he⟩ : ∃ e, parts[k]? = some e := ⟨_, List.getElem?_eq_getElem hlt⟩
   obtain ⟨y, hy⟩ := HPK.out (k + 1) (by omega)
   have hN := HC1.out j e (by rw [← HJ.out]; exact he)
   rw [← HJ.out] at hN
   obtain ⟨ga, oa, rfl, hgB, hEs⟩ := HPG.out (by omega)
   obtain ⟨op2, num2, text2, a2, b2, c2, n1, m1, n2, m2, n3, m3, hce, had⟩ := HAT.out ga oa hgB hEs k e he
   have HCE := Lib.hid hce
   have HAD := Lib.hid had
   generalize txE e = U at *
   generalize pt (txEs parts) (k + 1) = V at *
   have HY : Hid (Pk B w (.slice (some ⟨ga, oa, none⟩) parts.length pc) (k + 1) V y) := hy
   have HYP : Hid (∀ W, Below B w W → Calls Tryz.prog 111 #[.slice (some ⟨ga, oa, none⟩) parts.length pc, .int .i64 ((k : Int) + 1)] W fun e W2 => e = .returned y ∧ Below W.heap.size W W2) := fun W h => hy.part W h
   have HN : Hid (l ++ [123] ++ C (j + 1) = A ++ com j ++ ([91] ++ U ++ [93, 58, 32] ++ V)) := by show _ = _; rw [← HA.out, hN]; simp
   have hjm2 := hlC (j + 1)
   have hNl : A.length + (com j).length + U.length + V.length + 4 ≤ l.length + M.length + 1 := by have := congrArg List.length HN.out; simp at this; omega
   have hidx : 0 ≤ (k : Int) ∧ (k : Int) < (parts.length : Int) := ⟨by omega, by omega⟩
   have hgl : ga < wr.heap.size := Nat.lt_of_lt_of_le hgB hBj
   have HJ2 : Hid (k + 2 = 2 * (j + 1)) := by show _ = _; rw [HJ.out]; omega
   have HJ5 : Hid (4 * (j + 1) ≤ (C (j + 1)).length) := by show _ ≤ _; rw [hN]; have := HJ4.out; simp; omega
   clear hce had he hEs hy hN HPK HC1 HC3 HC0 HAT HPG
   by_cases h0 : k = 0
   ·have hj0 : j = 0 := by have := HJ.out; omega
    subst h0
    subst hj0
    have HN2 : Hid (l ++ [123] ++ C (0 + 1) = A ++ ([91] ++ U ++ [93, 58, 32] ++ V)) := by show _ = _; rw [HN.out]; simp [com]
    clear HN
    go_wp2_with fail
    refine region_sh (valR u0 gb (.slice (some ⟨ga, oa, none⟩) parts.length pc) 0 (.pointer (some ⟨ga, oa + 0 * 6, none⟩)) (.agg #[.int .i64 op2, .int .i64 num2, .string text2, .slice a2 n1 m1, .slice b2 n2 m2, .slice c2 n3 m3])) (JC B wr u0 A [(2, 22, [91]), (8, 28, U), (9, 0, [])] 1 21 2 [91] 9 0) (by kernel_rfl) (by kernel_rfl) (by kernel_rfl) (JC.start HRj.out _ rfl) ?_ ?_
    ·intro hon q hq L a1 W hC hl hBh hS hJ K hK
     have hqn : q < 10 := hq
     clear hq
     rcases (show q = 0 ∨ q = 1 ∨ q = 2 ∨ q = 3 ∨ q = 4 ∨ q = 5 ∨ q = 6 ∨ q = 7 ∨ q = 8 ∨ q = 9 from by omega) with rfl | rfl | rfl | rfl | rfl | rfl | rfl | rfl | rfl | rfl
     ·have hz : L 9 = false := closed_not hC hl (i := 9) (j := 0) rfl (g := .phase) (by simp) rfl
      have e0 := (eval_tmp a1 0).symm.trans (hJ.s0 hz)
      refine wpOp_step rfl (fun K' hK' => ?_)
      go_simp
      exact hK' _ _ (hK _ _ (hS.put hon (i := 0) rfl rfl (fun u hu => by cases hu; rfl)) (hJ.pure (by simp) (by decide)))
     ·refine wpOp_step rfl (fun K' hK' => ?_)
      go_simp
      exact hK' _ _ (hK _ _ (hS.put hon (i := 1) rfl rfl (fun u hu => by cases hu)) (hJ.build (by simp) (by decide) (by rw [hS.size]; exact (by decide : (21 : Nat) < 40)) rfl rfl))
     ·have n8 : L 8 = false := closed_not hC hl (i := 8) (j := 2) rfl (g := .data) (by simp) rfl
      have n9 : L 9 = false := closed_not hC n8 (i := 9) (j := 8) rfl (g := .data) (by simp) rfl
      have hx : curX L A [(2, 22, [91]), (8, 28, U), (9, 0, [])] = A := by simp [curX, hl]
      have e20 := (hS.get hBh (i := 2) rfl 0 (by simp) rfl rfl rfl)
      have hbi : L 1 = true := hBh _ rfl ⟨1, .data⟩ (by simp) rfl
      obtain ⟨g, u, W2, hge, hrun, hT⟩ := hJ.put (C1 := []) (C2 := [(8, 28, U), (9, 0, [])]) hBj (by rw [hS.size]; exact (by decide : (22 : Nat) < 40)) (by simp) hl hbi (by simp [n8, n9]) (by decide) (k := 1) rfl (by decide) (vc := u0) (by simp [cur, hl]) (by refine Nat.le_trans (Nat.add_le_add_right (Nat.le_of_eq (congrArg List.length hx)) _) ?_; first | omega | (simp; omega)) 73
      refine wpOp_run rfl rfl (v := u) (w' := W2) ?_ (hK _ _ (hS.put hon (i := 2) rfl rfl (fun u hu => by cases hu)) hT)
      simp [execOp, resolve, invoke, builtin, e20, hge, hrun, Result.andThen]
     ·have e3 := (eval_tmp a1 3).symm.trans ((hS.kept 3 (by kernel_rfl)).trans rfl)
      refine wpOp_step rfl (fun K' hK' => ?_)
      go_simp
      exact hK' _ _ (hK _ _ (hS.put hon (i := 3) rfl rfl (fun u hu => by cases hu; rfl)) (hJ.pure (by simp) (by decide)))
     ·have e23 := (eval_tmp a1 23).symm.trans (hS.get hBh (i := 4) rfl 3 (by simp) rfl rfl rfl)
      have hbx : W.heap[gb]? = _ := HR.out.block (HGj.out.trans hJ.gr) HBX.out (by decide)
      have hcl2 : W.cell? ⟨gb, 3, none⟩ = some (.slice (some ⟨ga, oa, none⟩) parts.length pc) := by simp [World.cell?, hbx]
      refine wpOp_step rfl (fun K' hK' => ?_)
      go_simp
      exact hK' _ _ (hK _ _ (hS.put hon (i := 4) rfl rfl (fun u hu => by cases hu; rfl)) (hJ.pure (by simp) (by decide)))
     ·have e5 := (eval_tmp a1 5).symm.trans ((hS.kept 5 (by kernel_rfl)).trans rfl)
      refine wpOp_step rfl (fun K' hK' => ?_)
      go_simp
      exact hK' _ _ (hK _ _ (hS.put hon (i := 5) rfl rfl (fun u hu => by cases hu; rfl)) (hJ.pure (by simp) (by decide)))
     ·have e24 := (eval_tmp a1 24).symm.trans (hS.get hBh (i := 6) rfl 4 (by simp) rfl rfl rfl)
      have e25 := (eval_tmp a1 25).symm.trans (hS.get hBh (i := 6) rfl 5 (by simp) rfl rfl rfl)
      refine wpOp_step rfl (fun K' hK' => ?_)
      go_simp
      exact hK' _ _ (hK _ _ (hS.put hon (i := 6) rfl rfl (fun u hu => by cases hu; rfl)) (hJ.pure (by simp) (by decide)))
     ·have e26 := (eval_tmp a1 26).symm.trans (hS.get hBh (i := 7) rfl 6 (by simp) rfl rfl rfl)
      obtain ⟨q0, q1, q2, q3, q4, q5⟩ := HCE.out W (HBEL.out.trans (HRj.out.bel hJ.gr hBj))
      simp only [Nat.zero_mul, Nat.add_zero] at q0 q1 q2 q3 q4 q5
      refine wpOp_step rfl (fun K' hK' => ?_)
      go_simp
      exact hK' _ _ (hK _ _ (hS.put hon (i := 7) rfl rfl (fun u hu => by cases hu; rfl)) (hJ.pure (by simp) (by decide)))
     ·have d2 : L 2 = true := hBh _ rfl ⟨2, .data⟩ (by simp) rfl
      have n9 : L 9 = false := closed_not hC hl (i := 9) (j := 8) rfl (g := .data) (by simp) rfl
      obtain ⟨vc, hvc⟩ : ∃ x, a1.eval (.tmp 22) = x := ⟨_, rfl⟩
      have hx : curX L A [(2, 22, [91]), (8, 28, U), (9, 0, [])] = A ++ ([91]) := by simp [curX, d2, hl]
      have e27 := (eval_tmp a1 27).symm.trans (hS.get hBh (i := 8) rfl 7 (by simp) rfl rfl rfl)
      have hvc2 := (eval_tmp a1 22).symm.trans hvc
      have hrow := hJ.row
      rw [hx] at hrow
      have hcu : cur L a1 u0 [(2, 22, [91]), (8, 28, U), (9, 0, [])] = vc := (by rw [← hvc]; simp [cur, d2, hl])
      rw [hcu] at hrow
      have hgr := hJ.gr
      rw [hcu] at hgr
      have hB2 : B ≤ W.heap.size := Nat.le_trans hBj hgr.size
      have hbel := HRj.out.bel hgr hBj
      refine wpOp_call (f := 50) (args := #[vc, .agg #[.int .i64 op2, .int .i64 num2, .string text2, .slice a2 n1 m1, .slice b2 n2 m2, .slice c2 n3 m3]]) (R := fun u W2 => Bt B W2 u (A ++ ([91]) ++ (U)) ∧ Gr W W2 vc u) rfl rfl (by simp [execOp, resolve, invoke, e27, hvc2, go_sem]) ((HAD.out W vc _ hrow hB2 (HBEL.out.trans hbel) (by first | omega | (simp; omega))).mono fun e W2 ⟨u, h1, h2, h3⟩ => ⟨u, h1, h2, h3⟩) ?_
      rintro u W2 ⟨r1, r2⟩
      exact hK _ _ (hS.put hon (i := 8) rfl rfl (fun u hu => by cases hu)) (hJ.step (C1 := [(2, 22, [91])]) (C2 := [(9, 0, [])]) (by rw [hS.size]; exact (by decide : (28 : Nat) < 40)) (by simp [d2]) hl (by simp [n9]) (by decide) (by show Bt B W2 u (curX L A [(2, 22, [91]), (8, 28, U), (9, 0, [])] ++ (U)); rw [hx]; exact r1) (by show Gr W W2 (cur L a1 u0 [(2, 22, [91]), (8, 28, U), (9, 0, [])]) u; rw [hcu]; exact r2))
     ·have d8 : L 8 = true := hBh _ rfl ⟨8, .data⟩ (by simp) rfl
      have d2 : L 2 = true := hBh _ rfl ⟨2, .phase⟩ (by simp) rfl
      obtain ⟨vc, hvc⟩ : ∃ x, a1.eval (.tmp 28) = x := ⟨_, rfl⟩
      have hx : curX L A [(2, 22, [91]), (8, 28, U), (9, 0, [])] = A ++ ([91]) ++ (U) := by simp [curX, d2, d8, hl, List.append_assoc]
      have e9 := (eval_tmp a1 28).symm.trans hvc
      refine wpOp_step rfl (fun K' hK' => ?_)
      go_simp
      exact hK' _ _ (hK _ _ (hS.put hon (i := 9) rfl rfl (fun u hu => by cases hu)) (hJ.hand (C1 := [(2, 22, [91]), (8, 28, U)]) (C2 := []) (by rw [hS.size]; exact (by decide : (0 : Nat) < 40)) (by simp [d2, d8]) hl (by simp) (by decide) (by rw [← hvc]; simp [cur, d2, d8, hl])))
    ·intro L a1 w3 hl hS hJ
     have d2 : L 2 = true := hl 2 (by decide)
     have d8 : L 8 = true := hl 8 (by decide)
     have d9 : L 9 = true := hl 9 (by decide)
     have hcu : cur L a1 u0 [(2, 22, [91]), (8, 28, U), (9, 0, [])] = a1.eval (.tmp 0) := by simp [cur, d2, d8, d9]
     have hx : curX L A [(2, 22, [91]), (8, 28, U), (9, 0, [])] = A ++ ([91]) ++ (U) := by simp [curX, d2, d8, d9, List.append_assoc]
     have hrow := hJ.row
     have hgr := hJ.gr
     rw [hcu] at hgr
     rw [hcu, hx] at hrow
     have hfr := hS.frame [20, 21, 22, 23, 24, 25, 26, 27, 28, 0] rfl
     refine (‹∀ (a : Act) (w : World), Code.wp Tryz.prog _ _ a w → _› a1 w3 ?_)
     obtain ⟨z, hz⟩ : ∃ z : Nat → Value, z = fun k => a1.eval (.tmp k) := ⟨_, rfl⟩
     rw [← hz] at hfr
     have ze : a1.eval (.tmp 0) = z 0 := by rw [hz]
     rw [ze] at hrow hgr
     rw [hfr]
     clear hfr ze hz hS hJ hcu hx hl d2 d8 d9
     simp only [over, List.setIfInBounds_toArray, List.set_cons_zero, List.set_cons_succ]
     obtain ⟨v3, hv⟩ : ∃ u, z 0 = u := ⟨_, rfl⟩
     rw [hv] at hrow hgr ⊢
     clear hv
     have r3 := hrow
     have g3 := hgr
     clear hrow hgr
     have HR3 : Hid (Bt B w3 v3 (A ++ [91] ++ U)) := by show Bt _ _ _ _; simpa using r3
     have HG3 : Hid (Gr w1 w3 v v3) := by show Gr _ _ _ _; exact (HGj.out).trans g3
     have hB3 : B ≤ w3.heap.size := Nat.le_trans hB1 HG3.out.size
     clear r3 g3
     have HBEL7 : Hid (Below B w w3) := (HBW.out.mono hB).trans (HR.out.bel HG3.out hB1)
     go_wp2_with fail
     refine region_sh (valS v3 gb (.slice (some ⟨ga, oa, none⟩) parts.length pc) 0 y) (JC B w3 v3 (A ++ [91] ++ U) [(1, 30, (⟨#[93, 58, 32]⟩ : ByteArray).data.toList), (7, 36, V), (8, 0, [])] 1000 1000 1001 [] 8 0) (by kernel_rfl) (by kernel_rfl) (by kernel_rfl) (JC.start HR3.out _ rfl) ?_ ?_
     ·intro hon q hq L a1 W hC hl hBh hS hJ K hK
      have hqn : q < 9 := hq
      clear hq
      rcases (show q = 0 ∨ q = 1 ∨ q = 2 ∨ q = 3 ∨ q = 4 ∨ q = 5 ∨ q = 6 ∨ q = 7 ∨ q = 8 from by omega) with rfl | rfl | rfl | rfl | rfl | rfl | rfl | rfl | rfl
      ·have hz : L 8 = false := closed_not hC hl (i := 8) (j := 0) rfl (g := .phase) (by simp) rfl
       have e0 := (eval_tmp a1 0).symm.trans (hJ.s0 hz)
       refine wpOp_step rfl (fun K' hK' => ?_)
       go_simp
       exact hK' _ _ (hK _ _ (hS.put hon (i := 0) rfl rfl (fun u hu => by cases hu; rfl)) (hJ.pure (by simp) (by decide)))
      ·have n7 : L 7 = false := closed_not hC hl (i := 7) (j := 1) rfl (g := .data) (by simp) rfl
       have n8 : L 8 = false := closed_not hC n7 (i := 8) (j := 7) rfl (g := .data) (by simp) rfl
       have hx : curX L (A ++ [91] ++ U) [(1, 30, (⟨#[93, 58, 32]⟩ : ByteArray).data.toList), (7, 36, V), (8, 0, [])] = (A ++ [91] ++ U) := by simp [curX, hl]
       have e29 := (hS.get hBh (i := 1) rfl 0 (by simp) rfl rfl rfl)
       have ek : ∀ c, a1.eval (Operand.const c) = c := fun c => rfl
       obtain ⟨u, W2, hrun, hT⟩ := hJ.str (C1 := []) (C2 := [(7, 36, V), (8, 0, [])]) (s := (⟨#[93, 58, 32]⟩ : ByteArray)) hB3 (by rw [hS.size]; exact (by decide : (30 : Nat) < 40)) (by simp) hl (by simp [n7, n8]) (by decide) (vc := v3) (by simp [cur, hl]) (by refine Nat.le_trans (Nat.add_le_add_right (Nat.le_of_eq (congrArg List.length hx)) _) ?_; show _ + 3 ≤ _; first | omega | (simp; omega)) 73
       refine wpOp_run rfl rfl (v := u) (w' := W2) ?_ (hK _ _ (hS.put hon (i := 1) rfl rfl (fun u hu => by cases hu)) hT)
       simp [execOp, resolve, invoke, builtin, e29, ek, hrun, Result.andThen]
      ·have e3 := (eval_tmp a1 3).symm.trans ((hS.kept 3 (by kernel_rfl)).trans rfl)
       refine wpOp_step rfl (fun K' hK' => ?_)
       go_simp
       exact hK' _ _ (hK _ _ (hS.put hon (i := 2) rfl rfl (fun u hu => by cases hu; rfl)) (hJ.pure (by simp) (by decide)))
      ·have e31 := (eval_tmp a1 31).symm.trans (hS.get hBh (i := 3) rfl 2 (by simp) rfl rfl rfl)
       have hbx : W.heap[gb]? = _ := HR.out.block (HG3.out.trans hJ.gr) HBX.out (by decide)
       have hcl2 : W.cell? ⟨gb, 3, none⟩ = some (.slice (some ⟨ga, oa, none⟩) parts.length pc) := by simp [World.cell?, hbx]
       refine wpOp_step rfl (fun K' hK' => ?_)
       go_simp
       exact hK' _ _ (hK _ _ (hS.put hon (i := 3) rfl rfl (fun u hu => by cases hu; rfl)) (hJ.pure (by simp) (by decide)))
      ·have e5 := (eval_tmp a1 5).symm.trans ((hS.kept 5 (by kernel_rfl)).trans rfl)
       refine wpOp_step rfl (fun K' hK' => ?_)
       go_simp
       exact hK' _ _ (hK _ _ (hS.put hon (i := 4) rfl rfl (fun u hu => by cases hu; rfl)) (hJ.pure (by simp) (by decide)))
      ·have e33 := (eval_tmp a1 33).symm.trans (hS.get hBh (i := 5) rfl 4 (by simp) rfl rfl rfl)
       refine wpOp_step rfl (fun K' hK' => ?_)
       go_simp
       exact hK' _ _ (hK _ _ (hS.put hon (i := 5) rfl rfl (fun u hu => by cases hu; rfl)) (hJ.pure (by simp) (by decide)))
      ·have e32 := (eval_tmp a1 32).symm.trans (hS.get hBh (i := 6) rfl 3 (by simp) rfl rfl rfl)
       have e34 := (eval_tmp a1 34).symm.trans (hS.get hBh (i := 6) rfl 5 (by simp) rfl rfl rfl)
       have hbel := HR3.out.bel hJ.gr hB3
       refine wpOp_call (f := 111) (args := #[.slice (some ⟨ga, oa, none⟩) parts.length pc, .int .i64 1]) (R := fun u W2 => u = y ∧ Below W.heap.size W W2) rfl rfl (by simp [execOp, resolve, invoke, e32, e34, go_sem]) ((HYP.out _ (HBEL7.out.trans hbel)).mono fun e W2 ⟨h1, h2⟩ => ⟨_, h1, rfl, h2⟩) ?_
       rintro u W2 ⟨rfl, r2⟩
       exact hK _ _ (hS.put hon (i := 6) rfl rfl (fun u hu => by cases hu; rfl)) (hJ.pureB (by simp) (by decide) r2)
      ·have d1 : L 1 = true := hBh _ rfl ⟨1, .data⟩ (by simp) rfl
       have n8 : L 8 = false := closed_not hC hl (i := 8) (j := 7) rfl (g := .data) (by simp) rfl
       obtain ⟨vc, hvc⟩ : ∃ x, a1.eval (.tmp 30) = x := ⟨_, rfl⟩
       have hx : curX L (A ++ [91] ++ U) [(1, 30, (⟨#[93, 58, 32]⟩ : ByteArray).data.toList), (7, 36, V), (8, 0, [])] = (A ++ [91] ++ U) ++ ((⟨#[93, 58, 32]⟩ : ByteArray).data.toList) := by simp [curX, d1, hl]
       have e35 := (eval_tmp a1 35).symm.trans (hS.get hBh (i := 7) rfl 6 (by simp) rfl rfl rfl)
       have hvc2 := (eval_tmp a1 30).symm.trans hvc
       have hrow := hJ.row
       rw [hx] at hrow
       have hcu : cur L a1 v3 [(1, 30, (⟨#[93, 58, 32]⟩ : ByteArray).data.toList), (7, 36, V), (8, 0, [])] = vc := (by rw [← hvc]; simp [cur, d1, hl])
       rw [hcu] at hrow
       have hgr := hJ.gr
       rw [hcu] at hgr
       have hB2 : B ≤ W.heap.size := Nat.le_trans hB3 hgr.size
       have hbel := HR3.out.bel hgr hB3
       refine wpOp_call (f := 50) (args := #[vc, y]) (R := fun u W2 => Bt B W2 u ((A ++ [91] ++ U) ++ ((⟨#[93, 58, 32]⟩ : ByteArray).data.toList) ++ (V)) ∧ Gr W W2 vc u) rfl rfl (by simp [execOp, resolve, invoke, e35, hvc2, go_sem]) ((HY.out.add W vc _ hrow hB2 (HBEL7.out.trans hbel) (by first | omega | (simp; omega))).mono fun e W2 ⟨u, h1, h2, h3⟩ => ⟨u, h1, h2, h3⟩) ?_
       rintro u W2 ⟨r1, r2⟩
       exact hK _ _ (hS.put hon (i := 7) rfl rfl (fun u hu => by cases hu)) (hJ.step (C1 := [(1, 30, (⟨#[93, 58, 32]⟩ : ByteArray).data.toList)]) (C2 := [(8, 0, [])]) (by rw [hS.size]; exact (by decide : (36 : Nat) < 40)) (by simp [d1]) hl (by simp [n8]) (by decide) (by show Bt B W2 u (curX L (A ++ [91] ++ U) [(1, 30, (⟨#[93, 58, 32]⟩ : ByteArray).data.toList), (7, 36, V), (8, 0, [])] ++ (V)); rw [hx]; exact r1) (by show Gr W W2 (cur L a1 v3 [(1, 30, (⟨#[93, 58, 32]⟩ : ByteArray).data.toList), (7, 36, V), (8, 0, [])]) u; rw [hcu]; exact r2))
      ·have d7 : L 7 = true := hBh _ rfl ⟨7, .data⟩ (by simp) rfl
       have d1 : L 1 = true := hBh _ rfl ⟨1, .phase⟩ (by simp) rfl
       obtain ⟨vc, hvc⟩ : ∃ x, a1.eval (.tmp 36) = x := ⟨_, rfl⟩
       have hx : curX L (A ++ [91] ++ U) [(1, 30, (⟨#[93, 58, 32]⟩ : ByteArray).data.toList), (7, 36, V), (8, 0, [])] = (A ++ [91] ++ U) ++ ((⟨#[93, 58, 32]⟩ : ByteArray).data.toList) ++ (V) := by simp [curX, d1, d7, hl, List.append_assoc]
       have e9 := (eval_tmp a1 36).symm.trans hvc
       refine wpOp_step rfl (fun K' hK' => ?_)
       go_simp
       exact hK' _ _ (hK _ _ (hS.put hon (i := 8) rfl rfl (fun u hu => by cases hu)) (hJ.hand (C1 := [(1, 30, (⟨#[93, 58, 32]⟩ : ByteArray).data.toList), (7, 36, V)]) (C2 := []) (by rw [hS.size]; exact (by decide : (0 : Nat) < 40)) (by simp [d1, d7]) hl (by simp) (by decide) (by rw [← hvc]; simp [cur, d1, d7, hl])))
     ·intro L a1 w4 hl hS hJ
      have d1 : L 1 = true := hl 1 (by decide)
      have d7 : L 7 = true := hl 7 (by decide)
      have d8 : L 8 = true := hl 8 (by decide)
      have hcu : cur L a1 v3 [(1, 30, (⟨#[93, 58, 32]⟩ : ByteArray).data.toList), (7, 36, V), (8, 0, [])] = a1.eval (.tmp 0) := by simp [cur, d1, d7, d8]
      have hx : curX L (A ++ [91] ++ U) [(1, 30, (⟨#[93, 58, 32]⟩ : ByteArray).data.toList), (7, 36, V), (8, 0, [])] = (A ++ [91] ++ U) ++ ((⟨#[93, 58, 32]⟩ : ByteArray).data.toList) ++ (V) := by simp [curX, d1, d7, d8, List.append_assoc]
      have hrow := hJ.row
      have hgr := hJ.gr
      rw [hcu] at hgr
      rw [hcu, hx] at hrow
      have hfr := hS.frame [29, 30, 31, 32, 33, 34, 35, 36, 0] rfl
      refine (‹∀ (a : Act) (w : World), Code.wp Tryz.prog _ _ a w → _› a1 w4 ?_)
      obtain ⟨z, hz⟩ : ∃ z : Nat → Value, z = fun k => a1.eval (.tmp k) := ⟨_, rfl⟩
      rw [← hz] at hfr
      have ze : a1.eval (.tmp 0) = z 0 := by rw [hz]
      rw [ze] at hrow hgr
      rw [hfr]
      clear hfr ze hz hS hJ hcu hx hl d1 d7 d8
      simp only [over, List.setIfInBounds_toArray, List.set_cons_zero, List.set_cons_succ]
      obtain ⟨v4, hv⟩ : ∃ u, z 0 = u := ⟨_, rfl⟩
      rw [hv] at hrow hgr ⊢
      clear hv
      have r4 := hrow
      have g4 := hgr
      clear hrow hgr
      have HR4 : Hid (Bt B w4 v4 (A ++ [91] ++ U ++ [93, 58, 32] ++ V)) := by show Bt _ _ _ _; simpa using r4
      have HG4 : Hid (Gr w1 w4 v v4) := by show Gr _ _ _ _; exact (HG3.out).trans g4
      have hB4 : B ≤ w4.heap.size := Nat.le_trans hB1 HG4.out.size
      clear r4 g4
      have HRz : Hid (Bt B w4 v4 (l ++ [123] ++ C (0 + 1))) := by show Bt _ _ _ _; rw [HN2.out]; simpa using HR4.out
      go_wp2_with fail
      go_roundw
      case rel => exact ⟨0 + 1, 0 + 2, by go_num, rfl, HJ5, by omega, HRz, HG4⟩
      case measure => simp [intOf]; omega
   ·have hc0 : decide ((0 : Int) < (k : Int)) = true := by simp; omega
    have hj0 : ¬ j = 0 := by have := HJ.out; omega
    have HN2 : Hid (l ++ [123] ++ C (j + 1) = A ++ [44, 32] ++ ([91] ++ U ++ [93, 58, 32] ++ V)) := by show _ = _; rw [HN.out]; simp [com, hj0]
    have hcm : (com j).length = 2 := by simp [com, hj0]
    clear HN
    go_wp2_with (at_builtin; refine wpList_app_str rfl (.tmp 18) _ rfl rfl HRj.out hBj ⟨#[44, 32]⟩ rfl (by show _ + 2 ≤ _; first | omega | (simp; omega)) ?_)
    intro v5 w5 r5 g5
    have HR5 : Hid (Bt B w5 v5 (A ++ [44, 32])) := by show Bt _ _ _ _; simpa using r5
    have HG5 : Hid (Gr w1 w5 v v5) := by show Gr _ _ _ _; exact (HGj.out).trans g5
    have hB5 : B ≤ w5.heap.size := Nat.le_trans hB1 HG5.out.size
    clear r5 g5
    have HBELb : Hid (Below B w w5) := (HBW.out.mono hB).trans (HR.out.bel HG5.out hB1)
    go_wp2_with fail
    refine region_sh (valR v5 gb (.slice (some ⟨ga, oa, none⟩) parts.length pc) k (.pointer (some ⟨ga, oa + k * 6, none⟩)) (.agg #[.int .i64 op2, .int .i64 num2, .string text2, .slice a2 n1 m1, .slice b2 n2 m2, .slice c2 n3 m3])) (JC B w5 v5 (A ++ [44, 32]) [(2, 22, [91]), (8, 28, U), (9, 0, [])] 1 21 2 [91] 9 0) (by kernel_rfl) (by kernel_rfl) (by kernel_rfl) (JC.start HR5.out _ rfl) ?_ ?_
    ·intro hon q hq L a1 W hC hl hBh hS hJ K hK
     have hqn : q < 10 := hq
     clear hq
     rcases (show q = 0 ∨ q = 1 ∨ q = 2 ∨ q = 3 ∨ q = 4 ∨ q = 5 ∨ q = 6 ∨ q = 7 ∨ q = 8 ∨ q = 9 from by omega) with rfl | rfl | rfl | rfl | rfl | rfl | rfl | rfl | rfl | rfl
     ·have hz : L 9 = false := closed_not hC hl (i := 9) (j := 0) rfl (g := .phase) (by simp) rfl
      have e0 := (eval_tmp a1 0).symm.trans (hJ.s0 hz)
      refine wpOp_step rfl (fun K' hK' => ?_)
      go_simp
      exact hK' _ _ (hK _ _ (hS.put hon (i := 0) rfl rfl (fun u hu => by cases hu; rfl)) (hJ.pure (by simp) (by decide)))
     ·refine wpOp_step rfl (fun K' hK' => ?_)
      go_simp
      exact hK' _ _ (hK _ _ (hS.put hon (i := 1) rfl rfl (fun u hu => by cases hu)) (hJ.build (by simp) (by decide) (by rw [hS.size]; exact (by decide : (21 : Nat) < 40)) rfl rfl))
     ·have n8 : L 8 = false := closed_not hC hl (i := 8) (j := 2) rfl (g := .data) (by simp) rfl
      have n9 : L 9 = false := closed_not hC n8 (i := 9) (j := 8) rfl (g := .data) (by simp) rfl
      have hx : curX L (A ++ [44, 32]) [(2, 22, [91]), (8, 28, U), (9, 0, [])] = (A ++ [44, 32]) := by simp [curX, hl]
      have e20 := (hS.get hBh (i := 2) rfl 0 (by simp) rfl rfl rfl)
      have hbi : L 1 = true := hBh _ rfl ⟨1, .data⟩ (by simp) rfl
      obtain ⟨g, u, W2, hge, hrun, hT⟩ := hJ.put (C1 := []) (C2 := [(8, 28, U), (9, 0, [])]) hB5 (by rw [hS.size]; exact (by decide : (22 : Nat) < 40)) (by simp) hl hbi (by simp [n8, n9]) (by decide) (k := 1) rfl (by decide) (vc := v5) (by simp [cur, hl]) (by refine Nat.le_trans (Nat.add_le_add_right (Nat.le_of_eq (congrArg List.length hx)) _) ?_; first | omega | (simp; omega)) 73
      refine wpOp_run rfl rfl (v := u) (w' := W2) ?_ (hK _ _ (hS.put hon (i := 2) rfl rfl (fun u hu => by cases hu)) hT)
      simp [execOp, resolve, invoke, builtin, e20, hge, hrun, Result.andThen]
     ·have e3 := (eval_tmp a1 3).symm.trans ((hS.kept 3 (by kernel_rfl)).trans rfl)
      refine wpOp_step rfl (fun K' hK' => ?_)
      go_simp
      exact hK' _ _ (hK _ _ (hS.put hon (i := 3) rfl rfl (fun u hu => by cases hu; rfl)) (hJ.pure (by simp) (by decide)))
     ·have e23 := (eval_tmp a1 23).symm.trans (hS.get hBh (i := 4) rfl 3 (by simp) rfl rfl rfl)
      have hbx : W.heap[gb]? = _ := HR.out.block (HG5.out.trans hJ.gr) HBX.out (by decide)
      have hcl2 : W.cell? ⟨gb, 3, none⟩ = some (.slice (some ⟨ga, oa, none⟩) parts.length pc) := by simp [World.cell?, hbx]
      refine wpOp_step rfl (fun K' hK' => ?_)
      go_simp
      exact hK' _ _ (hK _ _ (hS.put hon (i := 4) rfl rfl (fun u hu => by cases hu; rfl)) (hJ.pure (by simp) (by decide)))
     ·have e5 := (eval_tmp a1 5).symm.trans ((hS.kept 5 (by kernel_rfl)).trans rfl)
      refine wpOp_step rfl (fun K' hK' => ?_)
      go_simp
      exact hK' _ _ (hK _ _ (hS.put hon (i := 5) rfl rfl (fun u hu => by cases hu; rfl)) (hJ.pure (by simp) (by decide)))
     ·have e24 := (eval_tmp a1 24).symm.trans (hS.get hBh (i := 6) rfl 4 (by simp) rfl rfl rfl)
      have e25 := (eval_tmp a1 25).symm.trans (hS.get hBh (i := 6) rfl 5 (by simp) rfl rfl rfl)
      refine wpOp_step rfl (fun K' hK' => ?_)
      go_simp
      exact hK' _ _ (hK _ _ (hS.put hon (i := 6) rfl rfl (fun u hu => by cases hu; rfl)) (hJ.pure (by simp) (by decide)))
     ·have e26 := (eval_tmp a1 26).symm.trans (hS.get hBh (i := 7) rfl 6 (by simp) rfl rfl rfl)
      obtain ⟨q0, q1, q2, q3, q4, q5⟩ := HCE.out W (HBELb.out.trans (HR5.out.bel hJ.gr hB5))
      refine wpOp_step rfl (fun K' hK' => ?_)
      go_simp
      exact hK' _ _ (hK _ _ (hS.put hon (i := 7) rfl rfl (fun u hu => by cases hu; rfl)) (hJ.pure (by simp) (by decide)))
     ·have d2 : L 2 = true := hBh _ rfl ⟨2, .data⟩ (by simp) rfl
      have n9 : L 9 = false := closed_not hC hl (i := 9) (j := 8) rfl (g := .data) (by simp) rfl
      obtain ⟨vc, hvc⟩ : ∃ x, a1.eval (.tmp 22) = x := ⟨_, rfl⟩
      have hx : curX L (A ++ [44, 32]) [(2, 22, [91]), (8, 28, U), (9, 0, [])] = (A ++ [44, 32]) ++ ([91]) := by simp [curX, d2, hl]
      have e27 := (eval_tmp a1 27).symm.trans (hS.get hBh (i := 8) rfl 7 (by simp) rfl rfl rfl)
      have hvc2 := (eval_tmp a1 22).symm.trans hvc
      have hrow := hJ.row
      rw [hx] at hrow
      have hcu : cur L a1 v5 [(2, 22, [91]), (8, 28, U), (9, 0, [])] = vc := (by rw [← hvc]; simp [cur, d2, hl])
      rw [hcu] at hrow
      have hgr := hJ.gr
      rw [hcu] at hgr
      have hB2 : B ≤ W.heap.size := Nat.le_trans hB5 hgr.size
      have hbel := HR5.out.bel hgr hB5
      refine wpOp_call (f := 50) (args := #[vc, .agg #[.int .i64 op2, .int .i64 num2, .string text2, .slice a2 n1 m1, .slice b2 n2 m2, .slice c2 n3 m3]]) (R := fun u W2 => Bt B W2 u ((A ++ [44, 32]) ++ ([91]) ++ (U)) ∧ Gr W W2 vc u) rfl rfl (by simp [execOp, resolve, invoke, e27, hvc2, go_sem]) ((HAD.out W vc _ hrow hB2 (HBELb.out.trans hbel) (by first | omega | (simp; omega))).mono fun e W2 ⟨u, h1, h2, h3⟩ => ⟨u, h1, h2, h3⟩) ?_
      rintro u W2 ⟨r1, r2⟩
      exact hK _ _ (hS.put hon (i := 8) rfl rfl (fun u hu => by cases hu)) (hJ.step (C1 := [(2, 22, [91])]) (C2 := [(9, 0, [])]) (by rw [hS.size]; exact (by decide : (28 : Nat) < 40)) (by simp [d2]) hl (by simp [n9]) (by decide) (by show Bt B W2 u (curX L (A ++ [44, 32]) [(2, 22, [91]), (8, 28, U), (9, 0, [])] ++ (U)); rw [hx]; exact r1) (by show Gr W W2 (cur L a1 v5 [(2, 22, [91]), (8, 28, U), (9, 0, [])]) u; rw [hcu]; exact r2))
     ·have d8 : L 8 = true := hBh _ rfl ⟨8, .data⟩ (by simp) rfl
      have d2 : L 2 = true := hBh _ rfl ⟨2, .phase⟩ (by simp) rfl
      obtain ⟨vc, hvc⟩ : ∃ x, a1.eval (.tmp 28) = x := ⟨_, rfl⟩
      have hx : curX L (A ++ [44, 32]) [(2, 22, [91]), (8, 28, U), (9, 0, [])] = (A ++ [44, 32]) ++ ([91]) ++ (U) := by simp [curX, d2, d8, hl, List.append_assoc]
      have e9 := (eval_tmp a1 28).symm.trans hvc
      refine wpOp_step rfl (fun K' hK' => ?_)
      go_simp
      exact hK' _ _ (hK _ _ (hS.put hon (i := 9) rfl rfl (fun u hu => by cases hu)) (hJ.hand (C1 := [(2, 22, [91]), (8, 28, U)]) (C2 := []) (by rw [hS.size]; exact (by decide : (0 : Nat) < 40)) (by simp [d2, d8]) hl (by simp) (by decide) (by rw [← hvc]; simp [cur, d2, d8, hl])))
    ·intro L a1 w6 hl hS hJ
     have d2 : L 2 = true := hl 2 (by decide)
     have d8 : L 8 = true := hl 8 (by decide)
     have d9 : L 9 = true := hl 9 (by decide)
     have hcu : cur L a1 v5 [(2, 22, [91]), (8, 28, U), (9, 0, [])] = a1.eval (.tmp 0) := by simp [cur, d2, d8, d9]
     have hx : curX L (A ++ [44, 32]) [(2, 22, [91]), (8, 28, U), (9, 0, [])] = (A ++ [44, 32]) ++ ([91]) ++ (U) := by simp [curX, d2, d8, d9, List.append_assoc]
     have hrow := hJ.row
     have hgr := hJ.gr
     rw [hcu] at hgr
     rw [hcu, hx] at hrow
     have hfr := hS.frame [20, 21, 22, 23, 24, 25, 26, 27, 28, 0] rfl
     refine (‹∀ (a : Act) (w : World), Code.wp Tryz.prog _ _ a w → _› a1 w6 ?_)
     obtain ⟨z, hz⟩ : ∃ z : Nat → Value, z = fun k => a1.eval (.tmp k) := ⟨_, rfl⟩
     rw [← hz] at hfr
     have ze : a1.eval (.tmp 0) = z 0 := by rw [hz]
     rw [ze] at hrow hgr
     rw [hfr]
     clear hfr ze hz hS hJ hcu hx hl d2 d8 d9
     simp only [over, List.setIfInBounds_toArray, List.set_cons_zero, List.set_cons_succ]
     obtain ⟨v6, hv⟩ : ∃ u, z 0 = u := ⟨_, rfl⟩
     rw [hv] at hrow hgr ⊢
     clear hv
     have r6 := hrow
     have g6 := hgr
     clear hrow hgr
     have HR6 : Hid (Bt B w6 v6 (A ++ [44, 32] ++ [91] ++ U)) := by show Bt _ _ _ _; simpa using r6
     have HG6 : Hid (Gr w1 w6 v v6) := by show Gr _ _ _ _; exact (HG5.out).trans g6
     have hB6 : B ≤ w6.heap.size := Nat.le_trans hB1 HG6.out.size
     clear r6 g6
     have HBEL7 : Hid (Below B w w6) := (HBW.out.mono hB).trans (HR.out.bel HG6.out hB1)
     go_wp2_with fail
     refine region_sh (valS v6 gb (.slice (some ⟨ga, oa, none⟩) parts.length pc) k y) (JC B w6 v6 (A ++ [44, 32] ++ [91] ++ U) [(1, 30, (⟨#[93, 58, 32]⟩ : ByteArray).data.toList), (7, 36, V), (8, 0, [])] 1000 1000 1001 [] 8 0) (by kernel_rfl) (by kernel_rfl) (by kernel_rfl) (JC.start HR6.out _ rfl) ?_ ?_
     ·intro hon q hq L a1 W hC hl hBh hS hJ K hK
      have hqn : q < 9 := hq
      clear hq
      rcases (show q = 0 ∨ q = 1 ∨ q = 2 ∨ q = 3 ∨ q = 4 ∨ q = 5 ∨ q = 6 ∨ q = 7 ∨ q = 8 from by omega) with rfl | rfl | rfl | rfl | rfl | rfl | rfl | rfl | rfl
      ·have hz : L 8 = false := closed_not hC hl (i := 8) (j := 0) rfl (g := .phase) (by simp) rfl
       have e0 := (eval_tmp a1 0).symm.trans (hJ.s0 hz)
       refine wpOp_step rfl (fun K' hK' => ?_)
       go_simp
       exact hK' _ _ (hK _ _ (hS.put hon (i := 0) rfl rfl (fun u hu => by cases hu; rfl)) (hJ.pure (by simp) (by decide)))
      ·have n7 : L 7 = false := closed_not hC hl (i := 7) (j := 1) rfl (g := .data) (by simp) rfl
       have n8 : L 8 = false := closed_not hC n7 (i := 8) (j := 7) rfl (g := .data) (by simp) rfl
       have hx : curX L (A ++ [44, 32] ++ [91] ++ U) [(1, 30, (⟨#[93, 58, 32]⟩ : ByteArray).data.toList), (7, 36, V), (8, 0, [])] = (A ++ [44, 32] ++ [91] ++ U) := by simp [curX, hl]
       have e29 := (hS.get hBh (i := 1) rfl 0 (by simp) rfl rfl rfl)
       have ek : ∀ c, a1.eval (Operand.const c) = c := fun c => rfl
       obtain ⟨u, W2, hrun, hT⟩ := hJ.str (C1 := []) (C2 := [(7, 36, V), (8, 0, [])]) (s := (⟨#[93, 58, 32]⟩ : ByteArray)) hB6 (by rw [hS.size]; exact (by decide : (30 : Nat) < 40)) (by simp) hl (by simp [n7, n8]) (by decide) (vc := v6) (by simp [cur, hl]) (by refine Nat.le_trans (Nat.add_le_add_right (Nat.le_of_eq (congrArg List.length hx)) _) ?_; show _ + 3 ≤ _; first | omega | (simp; omega)) 73
       refine wpOp_run rfl rfl (v := u) (w' := W2) ?_ (hK _ _ (hS.put hon (i := 1) rfl rfl (fun u hu => by cases hu)) hT)
       simp [execOp, resolve, invoke, builtin, e29, ek, hrun, Result.andThen]
      ·have e3 := (eval_tmp a1 3).symm.trans ((hS.kept 3 (by kernel_rfl)).trans rfl)
       refine wpOp_step rfl (fun K' hK' => ?_)
       go_simp
       exact hK' _ _ (hK _ _ (hS.put hon (i := 2) rfl rfl (fun u hu => by cases hu; rfl)) (hJ.pure (by simp) (by decide)))
      ·have e31 := (eval_tmp a1 31).symm.trans (hS.get hBh (i := 3) rfl 2 (by simp) rfl rfl rfl)
       have hbx : W.heap[gb]? = _ := HR.out.block (HG6.out.trans hJ.gr) HBX.out (by decide)
       have hcl2 : W.cell? ⟨gb, 3, none⟩ = some (.slice (some ⟨ga, oa, none⟩) parts.length pc) := by simp [World.cell?, hbx]
       refine wpOp_step rfl (fun K' hK' => ?_)
       go_simp
       exact hK' _ _ (hK _ _ (hS.put hon (i := 3) rfl rfl (fun u hu => by cases hu; rfl)) (hJ.pure (by simp) (by decide)))
      ·have e5 := (eval_tmp a1 5).symm.trans ((hS.kept 5 (by kernel_rfl)).trans rfl)
       refine wpOp_step rfl (fun K' hK' => ?_)
       go_simp
       exact hK' _ _ (hK _ _ (hS.put hon (i := 4) rfl rfl (fun u hu => by cases hu; rfl)) (hJ.pure (by simp) (by decide)))
      ·have e33 := (eval_tmp a1 33).symm.trans (hS.get hBh (i := 5) rfl 4 (by simp) rfl rfl rfl)
       have hwr : IntKind.i64.wrap ((k : Int) + 1) = (k : Int) + 1 := by simp [IntKind.wrap, IntKind.bits, IntKind.signed]; omega
       refine wpOp_step rfl (fun K' hK' => ?_)
       go_simp
       exact hK' _ _ (hK _ _ (hS.put hon (i := 5) rfl rfl (fun u hu => by cases hu; rfl)) (hJ.pure (by simp) (by decide)))
      ·have e32 := (eval_tmp a1 32).symm.trans (hS.get hBh (i := 6) rfl 3 (by simp) rfl rfl rfl)
       have e34 := (eval_tmp a1 34).symm.trans (hS.get hBh (i := 6) rfl 5 (by simp) rfl rfl rfl)
       have hbel := HR6.out.bel hJ.gr hB6
       refine wpOp_call (f := 111) (args := #[.slice (some ⟨ga, oa, none⟩) parts.length pc, .int .i64 ((k : Int) + 1)]) (R := fun u W2 => u = y ∧ Below W.heap.size W W2) rfl rfl (by simp [execOp, resolve, invoke, e32, e34, go_sem]) ((HYP.out _ (HBEL7.out.trans hbel)).mono fun e W2 ⟨h1, h2⟩ => ⟨_, h1, rfl, h2⟩) ?_
       rintro u W2 ⟨rfl, r2⟩
       exact hK _ _ (hS.put hon (i := 6) rfl rfl (fun u hu => by cases hu; rfl)) (hJ.pureB (by simp) (by decide) r2)
      ·have d1 : L 1 = true := hBh _ rfl ⟨1, .data⟩ (by simp) rfl
       have n8 : L 8 = false := closed_not hC hl (i := 8) (j := 7) rfl (g := .data) (by simp) rfl
       obtain ⟨vc, hvc⟩ : ∃ x, a1.eval (.tmp 30) = x := ⟨_, rfl⟩
       have hx : curX L (A ++ [44, 32] ++ [91] ++ U) [(1, 30, (⟨#[93, 58, 32]⟩ : ByteArray).data.toList), (7, 36, V), (8, 0, [])] = (A ++ [44, 32] ++ [91] ++ U) ++ ((⟨#[93, 58, 32]⟩ : ByteArray).data.toList) := by simp [curX, d1, hl]
       have e35 := (eval_tmp a1 35).symm.trans (hS.get hBh (i := 7) rfl 6 (by simp) rfl rfl rfl)
       have hvc2 := (eval_tmp a1 30).symm.trans hvc
       have hrow := hJ.row
       rw [hx] at hrow
       have hcu : cur L a1 v6 [(1, 30, (⟨#[93, 58, 32]⟩ : ByteArray).data.toList), (7, 36, V), (8, 0, [])] = vc := (by rw [← hvc]; simp [cur, d1, hl])
       rw [hcu] at hrow
       have hgr := hJ.gr
       rw [hcu] at hgr
       have hB2 : B ≤ W.heap.size := Nat.le_trans hB6 hgr.size
       have hbel := HR6.out.bel hgr hB6
       refine wpOp_call (f := 50) (args := #[vc, y]) (R := fun u W2 => Bt B W2 u ((A ++ [44, 32] ++ [91] ++ U) ++ ((⟨#[93, 58, 32]⟩ : ByteArray).data.toList) ++ (V)) ∧ Gr W W2 vc u) rfl rfl (by simp [execOp, resolve, invoke, e35, hvc2, go_sem]) ((HY.out.add W vc _ hrow hB2 (HBEL7.out.trans hbel) (by first | omega | (simp; omega))).mono fun e W2 ⟨u, h1, h2, h3⟩ => ⟨u, h1, h2, h3⟩) ?_
       rintro u W2 ⟨r1, r2⟩
       exact hK _ _ (hS.put hon (i := 7) rfl rfl (fun u hu => by cases hu)) (hJ.step (C1 := [(1, 30, (⟨#[93, 58, 32]⟩ : ByteArray).data.toList)]) (C2 := [(8, 0, [])]) (by rw [hS.size]; exact (by decide : (36 : Nat) < 40)) (by simp [d1]) hl (by simp [n8]) (by decide) (by show Bt B W2 u (curX L (A ++ [44, 32] ++ [91] ++ U) [(1, 30, (⟨#[93, 58, 32]⟩ : ByteArray).data.toList), (7, 36, V), (8, 0, [])] ++ (V)); rw [hx]; exact r1) (by show Gr W W2 (cur L a1 v6 [(1, 30, (⟨#[93, 58, 32]⟩ : ByteArray).data.toList), (7, 36, V), (8, 0, [])]) u; rw [hcu]; exact r2))
      ·have d7 : L 7 = true := hBh _ rfl ⟨7, .data⟩ (by simp) rfl
       have d1 : L 1 = true := hBh _ rfl ⟨1, .phase⟩ (by simp) rfl
       obtain ⟨vc, hvc⟩ : ∃ x, a1.eval (.tmp 36) = x := ⟨_, rfl⟩
       have hx : curX L (A ++ [44, 32] ++ [91] ++ U) [(1, 30, (⟨#[93, 58, 32]⟩ : ByteArray).data.toList), (7, 36, V), (8, 0, [])] = (A ++ [44, 32] ++ [91] ++ U) ++ ((⟨#[93, 58, 32]⟩ : ByteArray).data.toList) ++ (V) := by simp [curX, d1, d7, hl, List.append_assoc]
       have e9 := (eval_tmp a1 36).symm.trans hvc
       refine wpOp_step rfl (fun K' hK' => ?_)
       go_simp
       exact hK' _ _ (hK _ _ (hS.put hon (i := 8) rfl rfl (fun u hu => by cases hu)) (hJ.hand (C1 := [(1, 30, (⟨#[93, 58, 32]⟩ : ByteArray).data.toList), (7, 36, V)]) (C2 := []) (by rw [hS.size]; exact (by decide : (0 : Nat) < 40)) (by simp [d1, d7]) hl (by simp) (by decide) (by rw [← hvc]; simp [cur, d1, d7, hl])))
     ·intro L a1 w7 hl hS hJ
      have d1 : L 1 = true := hl 1 (by decide)
      have d7 : L 7 = true := hl 7 (by decide)
      have d8 : L 8 = true := hl 8 (by decide)
      have hcu : cur L a1 v6 [(1, 30, (⟨#[93, 58, 32]⟩ : ByteArray).data.toList), (7, 36, V), (8, 0, [])] = a1.eval (.tmp 0) := by simp [cur, d1, d7, d8]
      have hx : curX L (A ++ [44, 32] ++ [91] ++ U) [(1, 30, (⟨#[93, 58, 32]⟩ : ByteArray).data.toList), (7, 36, V), (8, 0, [])] = (A ++ [44, 32] ++ [91] ++ U) ++ ((⟨#[93, 58, 32]⟩ : ByteArray).data.toList) ++ (V) := by simp [curX, d1, d7, d8, List.append_assoc]
      have hrow := hJ.row
      have hgr := hJ.gr
      rw [hcu] at hgr
      rw [hcu, hx] at hrow
      have hfr := hS.frame [29, 30, 31, 32, 33, 34, 35, 36, 0] rfl
      refine (‹∀ (a : Act) (w : World), Code.wp Tryz.prog _ _ a w → _› a1 w7 ?_)
      obtain ⟨z, hz⟩ : ∃ z : Nat → Value, z = fun k => a1.eval (.tmp k) := ⟨_, rfl⟩
      rw [← hz] at hfr
      have ze : a1.eval (.tmp 0) = z 0 := by rw [hz]
      rw [ze] at hrow hgr
      rw [hfr]
      clear hfr ze hz hS hJ hcu hx hl d1 d7 d8
      simp only [over, List.setIfInBounds_toArray, List.set_cons_zero, List.set_cons_succ]
      obtain ⟨v7, hv⟩ : ∃ u, z 0 = u := ⟨_, rfl⟩
      rw [hv] at hrow hgr ⊢
      clear hv
      have r7 := hrow
      have g7 := hgr
      clear hrow hgr
      have HR7 : Hid (Bt B w7 v7 (A ++ [44, 32] ++ [91] ++ U ++ [93, 58, 32] ++ V)) := by show Bt _ _ _ _; simpa using r7
      have HG7 : Hid (Gr w1 w7 v v7) := by show Gr _ _ _ _; exact (HG6.out).trans g7
      have hB7 : B ≤ w7.heap.size := Nat.le_trans hB1 HG7.out.size
      clear r7 g7
      have HRz : Hid (Bt B w7 v7 (l ++ [123] ++ C (j + 1))) := by show Bt _ _ _ _; rw [HN2.out]; simpa using HR7.out
      go_wp2_with fail
      go_roundw
      case rel => exact ⟨j + 1, k + 2, by go_num, HJ2, HJ5, by omega, HRz, HG7⟩
      case measure => simp [intOf]; omega
  ·have HM : Hid (l ++ [123] ++ M = A) := by show _ = _; rw [← HA.out, HC3.out j (by have := HJ.out; omega)]
   have hcmp : decide ((k : Int) < (parts.length : Int)) = false := by simp; omega
   go_wp2_with (at_builtin; refine wpList_app_row rfl (.tmp 37) (.tmp 38) rfl rfl HRj.out hBj [125] rfl (by rfl) rfl (by simp) (by first | omega | (simp; omega)) ?_)
   intro v4 w4 r4 g4
   have HR4 : Hid (Bt B w4 v4 (l ++ ([123] ++ M ++ [125]))) := by show Bt _ _ _ _; rw [← HM.out] at r4; simpa using r4
   have HG4 : Hid (Gr w w4 v v4) := (HGj.out.trans g4).pre HBW.out (fun k hk => (HR0.out.lt k hk).2)
   clear r4 g4
   go_wp2
   go_ret
   exact ⟨v4, rfl, HR4.out, HG4.out⟩
end Go.Proofs.YtpboencfnjmmbaaGreatDoor
namespace Go.Proofs.YtpboencfnjmmbaaGreatDoor
open Go.RowKit TM
def valF (v : Value) (gb : Nat) (vb : Value) : Nat → Option Value
 | 0 => some v
 | 2 => some (.pointer (some ⟨gb, 5, none⟩))
 | 3 => some vb
 | _ => none
theorem addFn_any {n : Nat} (hA : Small n) {op : Nat} {num : Int} {text : ByteArray} {parts : List TE} {params : List ByteArray} {body : List TS} (hsz : szE (.mk op num text parts params body) ≤ n)
 {B : Nat} {w : World} {v : Value} {l : Bs} {vp vn vb : Value} (hR : Bt B w v l) (hB : B ≤ w.heap.size) (hG : Lg B w) (hE : EIn (· < B) w (.mk op num text parts params body) vp vn vb) (hl : l.length + (fnT params (txSs body)).length ≤ 1000000000) :
 Calls Tryz.prog 86 #[v, exV (.mk op num text parts params body) vp vn vb] w fun en w' => ∃ v', en = .returned v' ∧ Bt B w' v' (l ++ fnT params (txSs body)) ∧ Gr w w' v v' := by
 have hszp : szEs parts < n := by unfold szE at hsz; omega
 have hszb : szSs body < n := by unfold szE at hsz; omega
 have hE2 := hE
 obtain ⟨_, ⟨pa, pc, rfl, hpc1, hpc2, hpg⟩, ⟨na, nc, rfl, hnc1, hnc2, hng⟩, ⟨ba, bc, rfl, hbc1, hbc2, hbg⟩⟩ := hE2
 have HBL : Hid (∀ W u X, Bt B W u X → B ≤ W.heap.size → Below B w W → X.length + (blockT (txSs body)).length ≤ 1000000000 → Calls Tryz.prog 112 #[u, .slice ba body.length bc] W fun en W2 => ∃ u2, en = .returned u2 ∧ Bt B W2 u2 (X ++ blockT (txSs body)) ∧ Gr W W2 u u2) := fun W u X h1 h2 h3 h4 => addBlock_any hA hszb h1 h2 (hG.on h3) (SsIn.on (show SsIn B w _ body from hE.2.2.2) h3) h4
 have HPG : Hid (0 < params.length → ∃ g o, na = some ⟨g, o, none⟩ ∧ g < B ∧ StrAt w g o params) := hng
 have hT : fnT params (txSs body) = [102, 110, 40] ++ commas (params.map fun p => p.data.toList) ++ [41, 32] ++ blockT (txSs body) := rfl
 rw [hT] at hl ⊢
 clear hT
 obtain ⟨C, hC0, hC1, hC2, hC3⟩ := front (params.map fun p => p.data.toList)
 have HC0 : Hid (C 0 = []) := hC0
 have HC1 : Hid (∀ j (e : ByteArray), params[j]? = some e → C (j + 1) = C j ++ com j ++ e.data.toList) := fun j e he => hC1 j _ (by rw [List.getElem?_map, he]; rfl)
 have HC3 : Hid (∀ j, params.length ≤ j → C j = commas (params.map fun p => p.data.toList)) := fun j hj => hC3 j (by rw [List.length_map]; exact hj)
 generalize commas (params.map fun p => p.data.toList) = M at hl hC2 HC3 ⊢
 generalize blockT (txSs body) = V at hl HBL ⊢
 have hlT : l.length + M.length + V.length + 5 ≤ 1000000000 := by simp at hl; omega
 have hlC : ∀ j, (C j).length ≤ M.length := hC2
 have HR0 : Hid (Bt B w v l) := hR
 unfold maxLen at hnc2
 clear hE hl hA hsz hszp hszb hR hG hpg hpc1 hpc2 hng hbc1 hbc2 hbg hC0 hC1 hC2 hC3
 unfold exV
 go_enter Tryz.func86, Tryz.ntmps86
 go_wp2_with (at_builtin; refine Hid.out ?_)
 refine Lib.hid ?_
 obtain ⟨w1, hw1⟩ : ∃ w1, w1 = w.alloc (.cells #[.int .i64 (op : Int), .int .i64 num, .string text, .slice pa parts.length pc, .slice na params.length nc, .slice ba body.length bc] 65) := ⟨_, rfl⟩
 obtain ⟨gb, hgb⟩ : ∃ gb, gb = w.heap.size := ⟨_, rfl⟩
 have HBW : Hid (Below w.heap.size w w1) := by rw [hw1]; exact (Below.refl _ _).alloc (Nat.le_refl _) _
 have HBX : Hid (w1.heap[gb]? = some (.cells #[.int .i64 (op : Int), .int .i64 num, .string text, .slice pa parts.length pc, .slice na params.length nc, .slice ba body.length bc] 65 (0, 0))) := by rw [hw1, hgb]; exact heap_alloc_new _ _
 have HR : Hid (Bt B w1 v l) := by rw [hw1]; exact HR0.out.alloc _
 have hB1 : B ≤ w1.heap.size := Nat.le_trans hB HBW.out.size
 rw [← hw1, ← hgb]
 clear hw1 hgb
 refine wpList_app_str rfl (.tmp 7) _ rfl rfl HR.out hB1 ⟨#[102, 110, 40]⟩ rfl (by show _ + 3 ≤ _; first | omega | (simp; omega)) ?_
 intro v2 w2 r2 g2
 have HR2 : Hid (Bt B w2 v2 (l ++ [102, 110, 40])) := by show Bt _ _ _ _; simpa using r2
 have HG2 : Hid (Gr w1 w2 v v2) := by show Gr _ _ _ _; exact (Gr.refl _ _).trans g2
 have hB2 : B ≤ w2.heap.size := Nat.le_trans hB1 HG2.out.size
 clear r2 g2
 have hbx2 : w2.heap[gb]? = _ := HR.out.block (HG2.out) HBX.out (by decide)
 have hc2_4 : w2.cell? ⟨gb, 4, none⟩ = some (.slice na params.length nc) := by simp [World.cell?, hbx2]
 clear hbx2
 go_wp2_with fail
 go_loopw [12, 0] (fun i u wr => ∃ j : Nat, i = .int .i64 (j : Int) ∧ j ≤ params.length ∧ Hid (Bt B wr u (l ++ [102, 110, 40] ++ C j)) ∧ Hid (Gr w1 wr v u))
  (fun i _ _ => params.length - (intOf i).toNat)
 case atStart => exact ⟨0, rfl, Nat.zero_le _, by rw [HC0.out, List.append_nil]; exact HR2, HG2⟩
 case round =>
  obtain ⟨j, rfl, hjp, HRj, HGj⟩ := hrel
  have hBj : B ≤ wr.heap.size := Nat.le_trans hB1 HGj.out.size
  have hjm := hlC j
  obtain ⟨A, hA⟩ : ∃ A, l ++ [102, 110, 40] ++ C j = A := ⟨_, rfl⟩
  have hAl : A.length ≤ l.length + M.length + 3 := by rw [← hA]; simp; omega
  rw [hA] at HRj
  have HA : Hid (l ++ [102, 110, 40] ++ C j = A) := hA
  clear hA
  have HBEL : Hid (Below B w wr) := (HBW.out.mono hB).trans (HR.out.bel HGj.out hB1)
  by_cases hlt : j < params.length
  ·obtain ⟨e, he⟩ : ∃ e, params[j]? = some e := ⟨_, List.getElem?_eq_getElem hlt⟩
   obtain ⟨ga, oa, rfl, hgB, hEs⟩ := HPG.out (by omega)
   have HCE : Hid (∀ W, Below B w W → W.cell? ⟨ga, oa + j, none⟩ = some (.string e)) := fun W hb => (hb.cell (p := ⟨ga, oa + j, none⟩) hgB).trans (hEs.get he)
   have hes : e.data.toList.length = e.size := rfl
   have HN : Hid (l ++ [102, 110, 40] ++ C (j + 1) = A ++ com j ++ e.data.toList) := by show _ = _; rw [← HA.out, HC1.out j e he]; simp
   have hjm2 := hlC (j + 1)
   have hNl : A.length + (com j).length + e.size ≤ l.length + M.length + 3 := by have := congrArg List.length HN.out; rw [← hes]; simp at this ⊢; omega
   have hidx : 0 ≤ (j : Int) ∧ (j : Int) < (params.length : Int) := ⟨by omega, by omega⟩
   have hgl : ga < wr.heap.size := Nat.lt_of_lt_of_le hgB hBj
   have hce := HCE.out wr HBEL.out
   clear he hEs hes HC1
   by_cases h0 : j = 0
   ·subst h0
    have HN2 : Hid (l ++ [102, 110, 40] ++ C (0 + 1) = A ++ e.data.toList) := by show _ = _; rw [HN.out]; simp [com]
    clear HN
    simp only [Nat.add_zero] at hce
    go_wp2_with (at_builtin; refine wpList_app_str rfl (.tmp 21) (.tmp 22) rfl rfl HRj.out hBj e rfl (by show _ + e.size ≤ _; first | omega | (simp; omega)) ?_)
    intro v3 w3 r3 g3
    have HR3 : Hid (Bt B w3 v3 (A ++ e.data.toList)) := by show Bt _ _ _ _; simpa using r3
    have HG3 : Hid (Gr w1 w3 v v3) := by show Gr _ _ _ _; exact (HGj.out).trans g3
    have hB3 : B ≤ w3.heap.size := Nat.le_trans hB1 HG3.out.size
    clear r3 g3
    have HRz : Hid (Bt B w3 v3 (l ++ [102, 110, 40] ++ C (0 + 1))) := by show Bt _ _ _ _; rw [HN2.out]; simpa using HR3.out
    go_wp2_with fail
    go_roundw
    case rel => exact ⟨0 + 1, by go_num, by omega, HRz, HG3⟩
    case measure => simp [intOf]; omega
   ·have hc0 : decide ((0 : Int) < (j : Int)) = true := by simp; omega
    have HN2 : Hid (l ++ [102, 110, 40] ++ C (j + 1) = A ++ [44, 32] ++ e.data.toList) := by show _ = _; rw [HN.out]; simp [com, h0]
    have hcm : (com j).length = 2 := by simp [com, h0]
    clear HN
    go_wp2_with (at_builtin; refine wpList_app_str rfl (.tmp 19) _ rfl rfl HRj.out hBj ⟨#[44, 32]⟩ rfl (by show _ + 2 ≤ _; first | omega | (simp; omega)) ?_)
    intro v4 w4 r4 g4
    have HR4 : Hid (Bt B w4 v4 (A ++ [44, 32])) := by show Bt _ _ _ _; simpa using r4
    have HG4 : Hid (Gr w1 w4 v v4) := by show Gr _ _ _ _; exact (HGj.out).trans g4
    have hB4 : B ≤ w4.heap.size := Nat.le_trans hB1 HG4.out.size
    clear r4 g4
    go_wp2_with (at_builtin; refine wpList_app_str rfl (.tmp 21) (.tmp 22) rfl rfl HR4.out hB4 e rfl (by show _ + e.size ≤ _; first | omega | (simp; omega)) ?_)
    intro v5 w5 r5 g5
    have HR5 : Hid (Bt B w5 v5 (A ++ [44, 32] ++ e.data.toList)) := by show Bt _ _ _ _; simpa using r5
    have HG5 : Hid (Gr w1 w5 v v5) := by show Gr _ _ _ _; exact (HG4.out).trans g5
    have hB5 : B ≤ w5.heap.size := Nat.le_trans hB1 HG5.out.size
    clear r5 g5
    have HRz : Hid (Bt B w5 v5 (l ++ [102, 110, 40] ++ C (j + 1))) := by show Bt _ _ _ _; rw [HN2.out]; simpa using HR5.out
    go_wp2_with fail
    go_roundw
    case rel => exact ⟨j + 1, by go_num, by omega, HRz, HG5⟩
    case measure => simp [intOf]; omega
  ·obtain rfl : j = params.length := by omega
   have HM : Hid (l ++ [102, 110, 40] ++ M = A) := by show _ = _; rw [← HA.out, HC3.out _ (Nat.le_refl _)]
   clear HC1 HC3 HC0 HPG
   go_wp2_with fail
   refine region_sh (valF u0 gb (.slice ba body.length bc)) (JC B wr u0 A [(1, 26, (⟨#[41, 32]⟩ : ByteArray).data.toList), (4, 29, V), (5, 4, [])] 1000 1000 1001 [] 1000 0) (by kernel_rfl) (by kernel_rfl) (by kernel_rfl) (JC.start HRj.out _ rfl) ?_ ?_
   ·intro hon q hq L a1 W hC hl hBh hS hJ K hK
    have hqn : q < 6 := hq
    clear hq
    rcases (show q = 0 ∨ q = 1 ∨ q = 2 ∨ q = 3 ∨ q = 4 ∨ q = 5 from by omega) with rfl | rfl | rfl | rfl | rfl | rfl
    ·have e0 := (eval_tmp a1 0).symm.trans ((hS.kept 0 (by kernel_rfl)).trans rfl)
     refine wpOp_step rfl (fun K' hK' => ?_)
     go_simp
     exact hK' _ _ (hK _ _ (hS.put hon (i := 0) rfl rfl (fun u hu => by cases hu; rfl)) (hJ.pure (by simp) (by decide)))
    ·have n4 : L 4 = false := closed_not hC hl (i := 4) (j := 1) rfl (g := .data) (by simp) rfl
     have n5 : L 5 = false := closed_not hC n4 (i := 5) (j := 4) rfl (g := .data) (by simp) rfl
     have hx : curX L A [(1, 26, (⟨#[41, 32]⟩ : ByteArray).data.toList), (4, 29, V), (5, 4, [])] = A := by simp [curX, hl]
     have e25 := (hS.get hBh (i := 1) rfl 0 (by simp) rfl rfl rfl)
     have ek : ∀ c, a1.eval (Operand.const c) = c := fun c => rfl
     obtain ⟨u, W2, hrun, hT⟩ := hJ.str (C1 := []) (C2 := [(4, 29, V), (5, 4, [])]) (s := (⟨#[41, 32]⟩ : ByteArray)) hBj (by rw [hS.size]; exact (by decide : (26 : Nat) < 30)) (by simp) hl (by simp [n4, n5]) (by decide) (vc := u0) (by simp [cur, hl]) (by refine Nat.le_trans (Nat.add_le_add_right (Nat.le_of_eq (congrArg List.length hx)) _) ?_; show _ + 2 ≤ _; first | omega | (simp; omega)) 73
     refine wpOp_run rfl rfl (v := u) (w' := W2) ?_ (hK _ _ (hS.put hon (i := 1) rfl rfl (fun u hu => by cases hu)) hT)
     simp [execOp, resolve, invoke, builtin, e25, ek, hrun, Result.andThen]
    ·have e3 := (eval_tmp a1 3).symm.trans ((hS.kept 3 (by kernel_rfl)).trans rfl)
     refine wpOp_step rfl (fun K' hK' => ?_)
     go_simp
     exact hK' _ _ (hK _ _ (hS.put hon (i := 2) rfl rfl (fun u hu => by cases hu; rfl)) (hJ.pure (by simp) (by decide)))
    ·have e27 := (eval_tmp a1 27).symm.trans (hS.get hBh (i := 3) rfl 2 (by simp) rfl rfl rfl)
     have hbx : W.heap[gb]? = _ := HR.out.block (HGj.out.trans hJ.gr) HBX.out (by decide)
     have hcl2 : W.cell? ⟨gb, 5, none⟩ = some (.slice ba body.length bc) := by simp [World.cell?, hbx]
     refine wpOp_step rfl (fun K' hK' => ?_)
     go_simp
     exact hK' _ _ (hK _ _ (hS.put hon (i := 3) rfl rfl (fun u hu => by cases hu; rfl)) (hJ.pure (by simp) (by decide)))
    ·have d1 : L 1 = true := hBh _ rfl ⟨1, .data⟩ (by simp) rfl
     have n5 : L 5 = false := closed_not hC hl (i := 5) (j := 4) rfl (g := .data) (by simp) rfl
     obtain ⟨vc, hvc⟩ : ∃ x, a1.eval (.tmp 26) = x := ⟨_, rfl⟩
     have hx : curX L A [(1, 26, (⟨#[41, 32]⟩ : ByteArray).data.toList), (4, 29, V), (5, 4, [])] = A ++ ((⟨#[41, 32]⟩ : ByteArray).data.toList) := by simp [curX, d1, hl]
     have e28 := (eval_tmp a1 28).symm.trans (hS.get hBh (i := 4) rfl 3 (by simp) rfl rfl rfl)
     have hvc2 := (eval_tmp a1 26).symm.trans hvc
     have hrow := hJ.row
     rw [hx] at hrow
     have hcu : cur L a1 u0 [(1, 26, (⟨#[41, 32]⟩ : ByteArray).data.toList), (4, 29, V), (5, 4, [])] = vc := (by rw [← hvc]; simp [cur, d1, hl])
     rw [hcu] at hrow
     have hgr := hJ.gr
     rw [hcu] at hgr
     have hB2 : B ≤ W.heap.size := Nat.le_trans hBj hgr.size
     have hbel := HRj.out.bel hgr hBj
     refine wpOp_call (f := 112) (args := #[vc, .slice ba body.length bc]) (R := fun u W2 => Bt B W2 u (A ++ ((⟨#[41, 32]⟩ : ByteArray).data.toList) ++ (V)) ∧ Gr W W2 vc u) rfl rfl (by simp [execOp, resolve, invoke, e28, hvc2, go_sem]) ((HBL.out W vc _ hrow hB2 (HBEL.out.trans hbel) (by first | omega | (simp; omega))).mono fun e W2 ⟨u, h1, h2, h3⟩ => ⟨u, h1, h2, h3⟩) ?_
     rintro u W2 ⟨r1, r2⟩
     exact hK _ _ (hS.put hon (i := 4) rfl rfl (fun u hu => by cases hu)) (hJ.step (C1 := [(1, 26, (⟨#[41, 32]⟩ : ByteArray).data.toList)]) (C2 := [(5, 4, [])]) (by rw [hS.size]; exact (by decide : (29 : Nat) < 30)) (by simp [d1]) hl (by simp [n5]) (by decide) (by show Bt B W2 u (curX L A [(1, 26, (⟨#[41, 32]⟩ : ByteArray).data.toList), (4, 29, V), (5, 4, [])] ++ (V)); rw [hx]; exact r1) (by show Gr W W2 (cur L a1 u0 [(1, 26, (⟨#[41, 32]⟩ : ByteArray).data.toList), (4, 29, V), (5, 4, [])]) u; rw [hcu]; exact r2))
    ·have d4 : L 4 = true := hBh _ rfl ⟨4, .data⟩ (by simp) rfl
     have d1 : L 1 = true := hBh _ rfl ⟨1, .phase⟩ (by simp) rfl
     obtain ⟨vc, hvc⟩ : ∃ x, a1.eval (.tmp 29) = x := ⟨_, rfl⟩
     have hx : curX L A [(1, 26, (⟨#[41, 32]⟩ : ByteArray).data.toList), (4, 29, V), (5, 4, [])] = A ++ ((⟨#[41, 32]⟩ : ByteArray).data.toList) ++ (V) := by simp [curX, d1, d4, hl, List.append_assoc]
     have e9 := (eval_tmp a1 29).symm.trans hvc
     refine wpOp_step rfl (fun K' hK' => ?_)
     go_simp
     exact hK' _ _ (hK _ _ (hS.put hon (i := 5) rfl rfl (fun u hu => by cases hu)) (hJ.hand (C1 := [(1, 26, (⟨#[41, 32]⟩ : ByteArray).data.toList), (4, 29, V)]) (C2 := []) (by rw [hS.size]; exact (by decide : (4 : Nat) < 30)) (by simp [d1, d4]) hl (by simp) (by decide) (by rw [← hvc]; simp [cur, d1, d4, hl])))
   ·intro L a1 w6 hl hS hJ
    have d1 : L 1 = true := hl 1 (by decide)
    have d4 : L 4 = true := hl 4 (by decide)
    have d5 : L 5 = true := hl 5 (by decide)
    have hcu : cur L a1 u0 [(1, 26, (⟨#[41, 32]⟩ : ByteArray).data.toList), (4, 29, V), (5, 4, [])] = a1.eval (.tmp 4) := by simp [cur, d1, d4, d5]
    have hx : curX L A [(1, 26, (⟨#[41, 32]⟩ : ByteArray).data.toList), (4, 29, V), (5, 4, [])] = A ++ ((⟨#[41, 32]⟩ : ByteArray).data.toList) ++ (V) := by simp [curX, d1, d4, d5, List.append_assoc]
    have hrow := hJ.row
    have hgr := hJ.gr
    rw [hcu] at hgr
    rw [hcu, hx] at hrow
    have hfr := hS.frame [25, 26, 27, 28, 29, 4] rfl
    refine (‹∀ (a : Act) (w : World), Code.wp Tryz.prog _ _ a w → _› a1 w6 ?_)
    obtain ⟨z, hz⟩ : ∃ z : Nat → Value, z = fun k => a1.eval (.tmp k) := ⟨_, rfl⟩
    rw [← hz] at hfr
    have ze : a1.eval (.tmp 4) = z 4 := by rw [hz]
    rw [ze] at hrow hgr
    rw [hfr]
    clear hfr ze hz hS hJ hcu hx hl d1 d4 d5
    simp only [over, List.setIfInBounds_toArray, List.set_cons_zero, List.set_cons_succ]
    obtain ⟨v6, hv⟩ : ∃ u, z 4 = u := ⟨_, rfl⟩
    rw [hv] at hrow hgr ⊢
    clear hv
    have r6 := hrow
    have g6 := hgr
    clear hrow hgr
    have HR6 : Hid (Bt B w6 v6 (A ++ [41, 32] ++ V)) := by show Bt _ _ _ _; simpa using r6
    have HG6 : Hid (Gr w1 w6 v v6) := by show Gr _ _ _ _; exact (HGj.out).trans g6
    have hB6 : B ≤ w6.heap.size := Nat.le_trans hB1 HG6.out.size
    clear r6 g6
    have HRy : Hid (Bt B w6 v6 (l ++ ([102, 110, 40] ++ M ++ [41, 32] ++ V))) := by show Bt _ _ _ _; have h := HR6.out; rw [← HM.out] at h; simpa using h
    have HGy : Hid (Gr w w6 v v6) := HG6.out.pre HBW.out (fun k hk => (HR0.out.lt k hk).2)
    go_wp2
    go_ret
    exact ⟨v6, rfl, HRy.out, HGy.out⟩
end Go.Proofs.YtpboencfnjmmbaaGreatDoor

/-
  Package tree's addBlocks: if, while and try, behind a row.
  Conditions: as each theorem says.
-/
import Derived.Test.YtpgbfkdknggceaaGreatDoorTrField
namespace Go.Proofs.YtpgbfkdknggceaaGreatDoor
open Go.RowKit TM
set_option linter.unusedVariables false
def valP (v : Value) (gb : Nat) (vx x : Value) : Nat → Option Value
  | 0 => some v
  | 2 => some (.pointer (some ⟨gb, 2, none⟩))
  | 3 => some vx
  | 4 => some x
  | _ => none
def valQ (v : Value) (gb j : Nat) (vb : Value) : Nat → Option Value
  | 0 => some v
  | 2 => some (.pointer (some ⟨gb, j, none⟩))
  | 3 => some vb
  | _ => none
set_option maxRecDepth 100000 in
set_option maxHeartbeats 4000000 in
theorem addBlocksIf0 {n : Nat} (hA : Small n) {name : ByteArray} {exprs : List TE} {body els : List TS} {pos : Int} (hsz : szS (.mk 3 name exprs body els pos) ≤ n) (hels : els.length = 0)
    {B : Nat} {w : World} {v : Value} {l : Bs} {vx vb ve : Value} (hR : Bt B w v l) (hB : B ≤ w.heap.size) (hG : Lg B w) (hE : SIn (· < B) w (.mk 3 name exprs body els pos) vx vb ve) (hl : l.length + (blocksT 3 name (txEs exprs) (txSs body) true (txSs els)).length ≤ 1000000000) :
    Calls Tryz.prog 35 #[v, stV (.mk 3 name exprs body els pos) vx vb ve] w fun en w' => ∃ v', en = .returned v' ∧ Bt B w' v' (l ++ blocksT 3 name (txEs exprs) (txSs body) true (txSs els)) ∧ Gr w w' v v' := by
  obtain rfl : els = [] := List.eq_nil_of_length_eq_zero hels
  clear hels
  have hszx : szEs exprs < n := by unfold szS at hsz; omega
  have hszb : szSs body < n := by unfold szS at hsz; omega
  have hsze : szSs ([] : List TS) < n := by unfold szS at hsz; omega
  have hE2 := hE
  obtain ⟨hk8, ⟨pa, pc, rfl, hpc1, hpc2, hpg⟩, ⟨na, nc, rfl, hnc1, hnc2, hng⟩, ⟨ba, bc, rfl, hbc1, hbc2, hbg⟩⟩ := hE2
  unfold maxLen at hpc2 hnc2 hbc2
  obtain ⟨x, hx⟩ := pack hA (show EsIn B w _ exprs from hE.2.1) hB hG 0 (by omega) hszx
  have HBB : Hid (∀ W u X, Bt B W u X → B ≤ W.heap.size → Below B w W → X.length + (blockT (txSs body)).length ≤ 1000000000 → Calls Tryz.prog 57 #[u, .slice na body.length nc] W fun en W2 => ∃ u2, en = .returned u2 ∧ Bt B W2 u2 (X ++ blockT (txSs body)) ∧ Gr W W2 u u2) := fun W u X h1 h2 h3 h4 => addBlock_any hA hszb h1 h2 (hG.on h3) (SsIn.on (show SsIn B w _ body from hE.2.2.1) h3) h4
  have hT : blocksT 3 name (txEs exprs) (txSs body) true (txSs ([] : List TS)) = [105, 102, 32] ++ pt (txEs exprs) 0 ++ [32] ++ blockT (txSs body) ++ [] := rfl
  rw [hT] at hl ⊢
  clear hT
  generalize pt (txEs exprs) 0 = T at hl hx ⊢
  generalize blockT (txSs body) = V at hl HBB ⊢
  have hlT : l.length + T.length + V.length + 4 ≤ 1000000000 := by simp at hl; omega
  have HX : Hid (Pk B w (.slice pa exprs.length pc) 0 T x) := hx
  have HR0 : Hid (Bt B w v l) := hR
  clear hE hl hA hsz hszx hszb hsze hR hG hpc1 hpc2 hpg hnc1 hnc2 hng hbc1 hbg hx hbc2
  unfold stV
  go_enter Tryz.func35, Tryz.ntmps35
  go_wp2_with fail
  obtain ⟨w1, hw1⟩ : ∃ w1, w1 = w.alloc (.cells #[.int .i64 3, .string name, .slice pa exprs.length pc, .slice na body.length nc, .slice ba 0 bc, .int .i64 pos] 30) := ⟨_, rfl⟩
  obtain ⟨gb, hgb⟩ : ∃ gb, gb = w.heap.size := ⟨_, rfl⟩
  have HBW : Hid (Below w.heap.size w w1) := by rw [hw1]; exact (Below.refl _ _).alloc (Nat.le_refl _) _
  have HBX : Hid (w1.heap[gb]? = some (.cells #[.int .i64 3, .string name, .slice pa exprs.length pc, .slice na body.length nc, .slice ba 0 bc, .int .i64 pos] 30 (0, 0))) := by rw [hw1, hgb]; exact heap_alloc_new _ _
  have HR : Hid (Bt B w1 v l) := by rw [hw1]; exact HR0.out.alloc _
  have hB1 : B ≤ w1.heap.size := Nat.le_trans hB HBW.out.size
  rw [← hw1, ← hgb]
  clear hw1 hgb
  refine region_sh (valP v gb (.slice pa exprs.length pc) x) (JC B w1 v l [(1, 10, (⟨#[105, 102, 32]⟩ : ByteArray).data.toList), (5, 14, T), (7, 16, [32]), (8, 0, [])] 6 15 7 [32] 8 0) (by kernel_rfl) (by kernel_rfl) (by kernel_rfl) (JC.start HR.out _ rfl) ?_ ?_
  · intro hon q hq L a1 W hC hl hBh hS hJ K hK
    have hqn : q < 9 := hq
    clear hq
    rcases (show q = 0 ∨ q = 1 ∨ q = 2 ∨ q = 3 ∨ q = 4 ∨ q = 5 ∨ q = 6 ∨ q = 7 ∨ q = 8 from by omega) with rfl | rfl | rfl | rfl | rfl | rfl | rfl | rfl | rfl
    · have hz : L 8 = false := closed_not hC hl (i := 8) (j := 0) rfl (g := .phase) (by simp) rfl
      have e0 := (eval_tmp a1 0).symm.trans (hJ.s0 hz)
      refine wpOp_step rfl (fun K' hK' => ?_)
      go_simp
      exact hK' _ _ (hK _ _ (hS.put hon (i := 0) rfl rfl (fun u hu => by cases hu; rfl)) (hJ.pure (by simp) (by decide)))
    · have n5 : L 5 = false := closed_not hC hl (i := 5) (j := 1) rfl (g := .data) (by simp) rfl
      have n7 : L 7 = false := closed_not hC n5 (i := 7) (j := 5) rfl (g := .data) (by simp) rfl
      have n8 : L 8 = false := closed_not hC n7 (i := 8) (j := 7) rfl (g := .data) (by simp) rfl
      have hx : curX L l [(1, 10, (⟨#[105, 102, 32]⟩ : ByteArray).data.toList), (5, 14, T), (7, 16, [32]), (8, 0, [])] = l := by simp [curX, hl]
      have e9 := (hS.get hBh (i := 1) rfl 0 (by simp) rfl rfl rfl)
      have ek : ∀ c, a1.eval (Operand.const c) = c := fun c => rfl
      obtain ⟨u, W2, hrun, hT⟩ := hJ.str (C1 := []) (C2 := [(5, 14, T), (7, 16, [32]), (8, 0, [])]) (s := (⟨#[105, 102, 32]⟩ : ByteArray)) hB1 (by rw [hS.size]; exact (by decide : (10 : Nat) < 63)) (by simp) hl (by simp [n5, n7, n8]) (by decide) (vc := v) (by simp [cur, hl]) (by refine Nat.le_trans (Nat.add_le_add_right (Nat.le_of_eq (congrArg List.length hx)) _) ?_; first | omega | (show _ + 3 ≤ _; first | omega | (simp; omega)) | (simp; omega)) 38
      refine wpOp_run rfl rfl (v := u) (w' := W2) ?_ (hK _ _ (hS.put hon (i := 1) rfl rfl (fun u hu => by cases hu)) hT)
      simp [execOp, resolve, invoke, builtin, e9, ek, hrun, Result.andThen]
    · have e3 := (eval_tmp a1 3).symm.trans ((hS.kept 3 (by kernel_rfl)).trans rfl)
      refine wpOp_step rfl (fun K' hK' => ?_)
      go_simp
      exact hK' _ _ (hK _ _ (hS.put hon (i := 2) rfl rfl (fun u hu => by cases hu; rfl)) (hJ.pure (by simp) (by decide)))
    · have e11 := (eval_tmp a1 11).symm.trans (hS.get hBh (i := 3) rfl 2 (by simp) rfl rfl rfl)
      have hbx : W.heap[gb]? = _ := HR.out.block (hJ.gr) HBX.out (by decide)
      have hcl2 : W.cell? ⟨gb, 2, none⟩ = some (.slice pa exprs.length pc) := by simp [World.cell?, hbx]
      refine wpOp_step rfl (fun K' hK' => ?_)
      go_simp
      exact hK' _ _ (hK _ _ (hS.put hon (i := 3) rfl rfl (fun u hu => by cases hu; rfl)) (hJ.pure (by simp) (by decide)))
    · have e12 := (eval_tmp a1 12).symm.trans (hS.get hBh (i := 4) rfl 3 (by simp) rfl rfl rfl)
      have hbel := HR.out.bel hJ.gr hB1
      refine wpOp_call (f := 56) (args := #[.slice pa exprs.length pc, .int .i64 0]) (R := fun u W2 => u = x ∧ Below W.heap.size W W2) rfl rfl (by simp [execOp, resolve, invoke, e12, go_sem]) ((HX.out.part _ ((HBW.out.mono hB).trans hbel)).mono fun e W2 ⟨h1, h2⟩ => ⟨_, h1, rfl, h2⟩) ?_
      rintro u W2 ⟨rfl, r2⟩
      exact hK _ _ (hS.put hon (i := 4) rfl rfl (fun u hu => by cases hu; rfl)) (hJ.pureB (by simp) (by decide) r2)
    · have d1 : L 1 = true := hBh _ rfl ⟨1, .data⟩ (by simp) rfl
      have n7 : L 7 = false := closed_not hC hl (i := 7) (j := 5) rfl (g := .data) (by simp) rfl
      have n8 : L 8 = false := closed_not hC n7 (i := 8) (j := 7) rfl (g := .data) (by simp) rfl
      obtain ⟨vc, hvc⟩ : ∃ x, a1.eval (.tmp 10) = x := ⟨_, rfl⟩
      have hx : curX L l [(1, 10, (⟨#[105, 102, 32]⟩ : ByteArray).data.toList), (5, 14, T), (7, 16, [32]), (8, 0, [])] = l ++ ((⟨#[105, 102, 32]⟩ : ByteArray).data.toList) := by simp [curX, d1, hl]
      have e13 := (eval_tmp a1 13).symm.trans (hS.get hBh (i := 5) rfl 4 (by simp) rfl rfl rfl)
      have hvc2 := (eval_tmp a1 10).symm.trans hvc
      have hrow := hJ.row
      rw [hx] at hrow
      have hcu : cur L a1 v [(1, 10, (⟨#[105, 102, 32]⟩ : ByteArray).data.toList), (5, 14, T), (7, 16, [32]), (8, 0, [])] = vc := (by rw [← hvc]; simp [cur, d1, hl])
      rw [hcu] at hrow
      have hgr := hJ.gr
      rw [hcu] at hgr
      have hB2 : B ≤ W.heap.size := Nat.le_trans hB1 hgr.size
      have hbel := HR.out.bel hgr hB1
      refine wpOp_call (f := 23) (args := #[vc, x]) (R := fun u W2 => Bt B W2 u (l ++ ((⟨#[105, 102, 32]⟩ : ByteArray).data.toList) ++ (T)) ∧ Gr W W2 vc u) rfl rfl (by simp [execOp, resolve, invoke, e13, hvc2, go_sem]) ((HX.out.add W vc _ hrow hB2 ((HBW.out.mono hB).trans hbel) (by first | omega | (simp; omega))).mono fun e W2 ⟨u, h1, h2, h3⟩ => ⟨u, h1, h2, h3⟩) ?_
      rintro u W2 ⟨r1, r2⟩
      exact hK _ _ (hS.put hon (i := 5) rfl rfl (fun u hu => by cases hu)) (hJ.step (C1 := [(1, 10, (⟨#[105, 102, 32]⟩ : ByteArray).data.toList)]) (C2 := [(7, 16, [32]), (8, 0, [])]) (by rw [hS.size]; exact (by decide : (14 : Nat) < 63)) (by simp [d1]) hl (by simp [n7, n8]) (by decide) (by show Bt B W2 u (curX L l [(1, 10, (⟨#[105, 102, 32]⟩ : ByteArray).data.toList), (5, 14, T), (7, 16, [32]), (8, 0, [])] ++ (T)); rw [hx]; exact r1) (by show Gr W W2 (cur L a1 v [(1, 10, (⟨#[105, 102, 32]⟩ : ByteArray).data.toList), (5, 14, T), (7, 16, [32]), (8, 0, [])]) u; rw [hcu]; exact r2))
    · refine wpOp_step rfl (fun K' hK' => ?_)
      go_simp
      exact hK' _ _ (hK _ _ (hS.put hon (i := 6) rfl rfl (fun u hu => by cases hu)) (hJ.build (by simp) (by decide) (by rw [hS.size]; exact (by decide : (15 : Nat) < 63)) rfl rfl))
    · have d5 : L 5 = true := hBh _ rfl ⟨5, .data⟩ (by simp) rfl
      have d1 : L 1 = true := hC 5 _ rfl d5 ⟨1, .data⟩ (by simp) rfl
      have n8 : L 8 = false := closed_not hC hl (i := 8) (j := 7) rfl (g := .data) (by simp) rfl
      obtain ⟨vc, hvc⟩ : ∃ x, a1.eval (.tmp 14) = x := ⟨_, rfl⟩
      have hx : curX L l [(1, 10, (⟨#[105, 102, 32]⟩ : ByteArray).data.toList), (5, 14, T), (7, 16, [32]), (8, 0, [])] = l ++ ((⟨#[105, 102, 32]⟩ : ByteArray).data.toList) ++ (T) := by simp [curX, d1, d5, hl, List.append_assoc]
      have hbi : L 6 = true := hBh _ rfl ⟨6, .data⟩ (by simp) rfl
      obtain ⟨g, u, W2, hge, hrun, hT⟩ := hJ.put (C1 := [(1, 10, (⟨#[105, 102, 32]⟩ : ByteArray).data.toList), (5, 14, T)]) (C2 := [(8, 0, [])]) hB1 (by rw [hS.size]; exact (by decide : (16 : Nat) < 63)) (by simp [d1, d5]) hl hbi (by simp [n8]) (by decide) (k := 1) rfl (by decide) (vc := vc) (by rw [← hvc]; simp [cur, d1, d5, hl]) (by refine Nat.le_trans (Nat.add_le_add_right (Nat.le_of_eq (congrArg List.length hx)) _) ?_; first | omega | (show _ + 3 ≤ _; first | omega | (simp; omega)) | (simp; omega)) 38
      refine wpOp_run rfl rfl (v := u) (w' := W2) ?_ (hK _ _ (hS.put hon (i := 7) rfl rfl (fun u hu => by cases hu)) hT)
      simp [execOp, resolve, invoke, builtin, hvc, hge, hrun, Result.andThen]
    · have d7 : L 7 = true := hBh _ rfl ⟨7, .data⟩ (by simp) rfl
      have d5 : L 5 = true := hBh _ rfl ⟨5, .phase⟩ (by simp) rfl
      have d1 : L 1 = true := hBh _ rfl ⟨1, .phase⟩ (by simp) rfl
      obtain ⟨vc, hvc⟩ : ∃ x, a1.eval (.tmp 16) = x := ⟨_, rfl⟩
      have hx : curX L l [(1, 10, (⟨#[105, 102, 32]⟩ : ByteArray).data.toList), (5, 14, T), (7, 16, [32]), (8, 0, [])] = l ++ ((⟨#[105, 102, 32]⟩ : ByteArray).data.toList) ++ (T) ++ ([32]) := by simp [curX, d1, d5, d7, hl, List.append_assoc]
      have e9 := (eval_tmp a1 16).symm.trans hvc
      refine wpOp_step rfl (fun K' hK' => ?_)
      go_simp
      exact hK' _ _ (hK _ _ (hS.put hon (i := 8) rfl rfl (fun u hu => by cases hu)) (hJ.hand (C1 := [(1, 10, (⟨#[105, 102, 32]⟩ : ByteArray).data.toList), (5, 14, T), (7, 16, [32])]) (C2 := []) (by rw [hS.size]; exact (by decide : (0 : Nat) < 63)) (by simp [d1, d5, d7]) hl (by simp) (by decide) (by rw [← hvc]; simp [cur, d1, d5, d7, hl])))
  · intro L a1 w2 hl hS hJ
    have d1 : L 1 = true := hl 1 (by decide)
    have d5 : L 5 = true := hl 5 (by decide)
    have d7 : L 7 = true := hl 7 (by decide)
    have d8 : L 8 = true := hl 8 (by decide)
    have hcu : cur L a1 v [(1, 10, (⟨#[105, 102, 32]⟩ : ByteArray).data.toList), (5, 14, T), (7, 16, [32]), (8, 0, [])] = a1.eval (.tmp 0) := by simp [cur, d1, d5, d7, d8]
    have hx : curX L l [(1, 10, (⟨#[105, 102, 32]⟩ : ByteArray).data.toList), (5, 14, T), (7, 16, [32]), (8, 0, [])] = l ++ ((⟨#[105, 102, 32]⟩ : ByteArray).data.toList) ++ (T) ++ ([32]) := by simp [curX, d1, d5, d7, d8, List.append_assoc]
    have hrow := hJ.row
    have hgr := hJ.gr
    rw [hcu] at hgr
    rw [hcu, hx] at hrow
    have hfr := hS.frame [9, 10, 11, 12, 13, 14, 15, 16, 0] rfl
    refine (‹∀ (a : Act) (w : World), Code.wp Tryz.prog _ _ a w → _› a1 w2 ?_)
    obtain ⟨z, hz⟩ : ∃ z : Nat → Value, z = fun k => a1.eval (.tmp k) := ⟨_, rfl⟩
    rw [← hz] at hfr
    have ze : a1.eval (.tmp 0) = z 0 := by rw [hz]
    rw [ze] at hrow hgr
    rw [hfr]
    clear hfr ze hz hS hJ hcu hx hl d1 d5 d7 d8
    simp only [over, List.setIfInBounds_toArray, List.set_cons_zero, List.set_cons_succ]
    obtain ⟨v2, hv⟩ : ∃ u, z 0 = u := ⟨_, rfl⟩
    rw [hv] at hrow hgr ⊢
    clear hv
    have r2 := hrow
    have g2 := hgr
    clear hrow hgr
    have HR2 : Hid (Bt B w2 v2 (l ++ [105, 102, 32] ++ T ++ [32])) := by show Bt _ _ _ _; simpa using r2
    have HG2 : Hid (Gr w1 w2 v v2) := by show Gr _ _ _ _; exact (Gr.refl _ _).trans g2
    have hB2 : B ≤ w2.heap.size := Nat.le_trans hB1 HG2.out.size
    clear r2 g2
    have hbx2 : w2.heap[gb]? = _ := HR.out.block (HG2.out) HBX.out (by decide)
    have hc2_3 : w2.cell? ⟨gb, 3, none⟩ = some (.slice na body.length nc) := by simp [World.cell?, hbx2]
    clear hbx2
    go_wp2_with fail
    refine (HBB.out _ _ _ HR2.out hB2 ((HBW.out.mono hB).trans (HR.out.bel (HG2.out) hB1)) (by first | omega | (simp; omega))).mono ?_
    rintro e w3 ⟨v3, rfl, r3, g3⟩
    have HR3 : Hid (Bt B w3 v3 (l ++ [105, 102, 32] ++ T ++ [32] ++ V)) := by show Bt _ _ _ _; simpa using r3
    have HG3 : Hid (Gr w1 w3 v v3) := by show Gr _ _ _ _; exact (HG2.out).trans g3
    have hB3 : B ≤ w3.heap.size := Nat.le_trans hB1 HG3.out.size
    clear r3 g3
    have hbx3 : w3.heap[gb]? = _ := HR.out.block (HG3.out) HBX.out (by decide)
    have hc3_4 : w3.cell? ⟨gb, 4, none⟩ = some (.slice ba 0 bc) := by simp [World.cell?, hbx3]
    clear hbx3
    have HRz : Hid (Bt B w3 v3 (l ++ ([105, 102, 32] ++ T ++ [32] ++ V ++ []))) := by show Bt _ _ _ _; simpa using HR3.out
    have HGz : Hid (Gr w w3 v v3) := by show Gr _ _ _ _; exact (HG3.out).pre HBW.out (fun k hk => (HR0.out.lt k hk).2)
    go_wp2
    go_ret
    exact ⟨v3, rfl, HRz.out, HGz.out⟩
set_option maxRecDepth 100000 in
set_option maxHeartbeats 4000000 in
theorem addBlocksIf1 {n : Nat} (hA : Small n) {name : ByteArray} {exprs : List TE} {body els : List TS} {pos : Int} (hsz : szS (.mk 3 name exprs body els pos) ≤ n) (hels : 0 < els.length)
    {B : Nat} {w : World} {v : Value} {l : Bs} {vx vb ve : Value} (hR : Bt B w v l) (hB : B ≤ w.heap.size) (hG : Lg B w) (hE : SIn (· < B) w (.mk 3 name exprs body els pos) vx vb ve) (hl : l.length + (blocksT 3 name (txEs exprs) (txSs body) false (txSs els)).length ≤ 1000000000) :
    Calls Tryz.prog 35 #[v, stV (.mk 3 name exprs body els pos) vx vb ve] w fun en w' => ∃ v', en = .returned v' ∧ Bt B w' v' (l ++ blocksT 3 name (txEs exprs) (txSs body) false (txSs els)) ∧ Gr w w' v v' := by
  have hszx : szEs exprs < n := by unfold szS at hsz; omega
  have hszb : szSs body < n := by unfold szS at hsz; omega
  have hsze : szSs els < n := by unfold szS at hsz; omega
  have hE2 := hE
  obtain ⟨hk8, ⟨pa, pc, rfl, hpc1, hpc2, hpg⟩, ⟨na, nc, rfl, hnc1, hnc2, hng⟩, ⟨ba, bc, rfl, hbc1, hbc2, hbg⟩⟩ := hE2
  unfold maxLen at hpc2 hnc2 hbc2
  obtain ⟨x, hx⟩ := pack hA (show EsIn B w _ exprs from hE.2.1) hB hG 0 (by omega) hszx
  have HBB : Hid (∀ W u X, Bt B W u X → B ≤ W.heap.size → Below B w W → X.length + (blockT (txSs body)).length ≤ 1000000000 → Calls Tryz.prog 57 #[u, .slice na body.length nc] W fun en W2 => ∃ u2, en = .returned u2 ∧ Bt B W2 u2 (X ++ blockT (txSs body)) ∧ Gr W W2 u u2) := fun W u X h1 h2 h3 h4 => addBlock_any hA hszb h1 h2 (hG.on h3) (SsIn.on (show SsIn B w _ body from hE.2.2.1) h3) h4
  have HBE : Hid (∀ W u X, Bt B W u X → B ≤ W.heap.size → Below B w W → X.length + (blockT (txSs els)).length ≤ 1000000000 → Calls Tryz.prog 57 #[u, .slice ba els.length bc] W fun en W2 => ∃ u2, en = .returned u2 ∧ Bt B W2 u2 (X ++ blockT (txSs els)) ∧ Gr W W2 u u2) := fun W u X h1 h2 h3 h4 => addBlock_any hA hsze h1 h2 (hG.on h3) (SsIn.on (show SsIn B w _ els from hE.2.2.2) h3) h4
  have hT : blocksT 3 name (txEs exprs) (txSs body) false (txSs els) = [105, 102, 32] ++ pt (txEs exprs) 0 ++ [32] ++ blockT (txSs body) ++ ([32, 101, 108, 115, 101, 32] ++ blockT (txSs els)) := rfl
  rw [hT] at hl ⊢
  clear hT
  generalize pt (txEs exprs) 0 = T at hl hx ⊢
  generalize blockT (txSs body) = V at hl HBB ⊢
  generalize blockT (txSs els) = U at hl HBE ⊢
  have hlT : l.length + T.length + V.length + U.length + 10 ≤ 1000000000 := by simp at hl; omega
  have HX : Hid (Pk B w (.slice pa exprs.length pc) 0 T x) := hx
  have HR0 : Hid (Bt B w v l) := hR
  have hcm : decide ((0 : Int) < (els.length : Int)) = true := by simp; omega
  clear hE hl hA hsz hszx hszb hsze hR hG hpc1 hpc2 hpg hnc1 hnc2 hng hbg hx
  unfold stV
  go_enter Tryz.func35, Tryz.ntmps35
  go_wp2_with fail
  obtain ⟨w1, hw1⟩ : ∃ w1, w1 = w.alloc (.cells #[.int .i64 3, .string name, .slice pa exprs.length pc, .slice na body.length nc, .slice ba els.length bc, .int .i64 pos] 30) := ⟨_, rfl⟩
  obtain ⟨gb, hgb⟩ : ∃ gb, gb = w.heap.size := ⟨_, rfl⟩
  have HBW : Hid (Below w.heap.size w w1) := by rw [hw1]; exact (Below.refl _ _).alloc (Nat.le_refl _) _
  have HBX : Hid (w1.heap[gb]? = some (.cells #[.int .i64 3, .string name, .slice pa exprs.length pc, .slice na body.length nc, .slice ba els.length bc, .int .i64 pos] 30 (0, 0))) := by rw [hw1, hgb]; exact heap_alloc_new _ _
  have HR : Hid (Bt B w1 v l) := by rw [hw1]; exact HR0.out.alloc _
  have hB1 : B ≤ w1.heap.size := Nat.le_trans hB HBW.out.size
  rw [← hw1, ← hgb]
  clear hw1 hgb
  refine region_sh (valP v gb (.slice pa exprs.length pc) x) (JC B w1 v l [(1, 10, (⟨#[105, 102, 32]⟩ : ByteArray).data.toList), (5, 14, T), (7, 16, [32]), (8, 0, [])] 6 15 7 [32] 8 0) (by kernel_rfl) (by kernel_rfl) (by kernel_rfl) (JC.start HR.out _ rfl) ?_ ?_
  · intro hon q hq L a1 W hC hl hBh hS hJ K hK
    have hqn : q < 9 := hq
    clear hq
    rcases (show q = 0 ∨ q = 1 ∨ q = 2 ∨ q = 3 ∨ q = 4 ∨ q = 5 ∨ q = 6 ∨ q = 7 ∨ q = 8 from by omega) with rfl | rfl | rfl | rfl | rfl | rfl | rfl | rfl | rfl
    · have hz : L 8 = false := closed_not hC hl (i := 8) (j := 0) rfl (g := .phase) (by simp) rfl
      have e0 := (eval_tmp a1 0).symm.trans (hJ.s0 hz)
      refine wpOp_step rfl (fun K' hK' => ?_)
      go_simp
      exact hK' _ _ (hK _ _ (hS.put hon (i := 0) rfl rfl (fun u hu => by cases hu; rfl)) (hJ.pure (by simp) (by decide)))
    · have n5 : L 5 = false := closed_not hC hl (i := 5) (j := 1) rfl (g := .data) (by simp) rfl
      have n7 : L 7 = false := closed_not hC n5 (i := 7) (j := 5) rfl (g := .data) (by simp) rfl
      have n8 : L 8 = false := closed_not hC n7 (i := 8) (j := 7) rfl (g := .data) (by simp) rfl
      have hx : curX L l [(1, 10, (⟨#[105, 102, 32]⟩ : ByteArray).data.toList), (5, 14, T), (7, 16, [32]), (8, 0, [])] = l := by simp [curX, hl]
      have e9 := (hS.get hBh (i := 1) rfl 0 (by simp) rfl rfl rfl)
      have ek : ∀ c, a1.eval (Operand.const c) = c := fun c => rfl
      obtain ⟨u, W2, hrun, hT⟩ := hJ.str (C1 := []) (C2 := [(5, 14, T), (7, 16, [32]), (8, 0, [])]) (s := (⟨#[105, 102, 32]⟩ : ByteArray)) hB1 (by rw [hS.size]; exact (by decide : (10 : Nat) < 63)) (by simp) hl (by simp [n5, n7, n8]) (by decide) (vc := v) (by simp [cur, hl]) (by refine Nat.le_trans (Nat.add_le_add_right (Nat.le_of_eq (congrArg List.length hx)) _) ?_; first | omega | (show _ + 3 ≤ _; first | omega | (simp; omega)) | (simp; omega)) 38
      refine wpOp_run rfl rfl (v := u) (w' := W2) ?_ (hK _ _ (hS.put hon (i := 1) rfl rfl (fun u hu => by cases hu)) hT)
      simp [execOp, resolve, invoke, builtin, e9, ek, hrun, Result.andThen]
    · have e3 := (eval_tmp a1 3).symm.trans ((hS.kept 3 (by kernel_rfl)).trans rfl)
      refine wpOp_step rfl (fun K' hK' => ?_)
      go_simp
      exact hK' _ _ (hK _ _ (hS.put hon (i := 2) rfl rfl (fun u hu => by cases hu; rfl)) (hJ.pure (by simp) (by decide)))
    · have e11 := (eval_tmp a1 11).symm.trans (hS.get hBh (i := 3) rfl 2 (by simp) rfl rfl rfl)
      have hbx : W.heap[gb]? = _ := HR.out.block (hJ.gr) HBX.out (by decide)
      have hcl2 : W.cell? ⟨gb, 2, none⟩ = some (.slice pa exprs.length pc) := by simp [World.cell?, hbx]
      refine wpOp_step rfl (fun K' hK' => ?_)
      go_simp
      exact hK' _ _ (hK _ _ (hS.put hon (i := 3) rfl rfl (fun u hu => by cases hu; rfl)) (hJ.pure (by simp) (by decide)))
    · have e12 := (eval_tmp a1 12).symm.trans (hS.get hBh (i := 4) rfl 3 (by simp) rfl rfl rfl)
      have hbel := HR.out.bel hJ.gr hB1
      refine wpOp_call (f := 56) (args := #[.slice pa exprs.length pc, .int .i64 0]) (R := fun u W2 => u = x ∧ Below W.heap.size W W2) rfl rfl (by simp [execOp, resolve, invoke, e12, go_sem]) ((HX.out.part _ ((HBW.out.mono hB).trans hbel)).mono fun e W2 ⟨h1, h2⟩ => ⟨_, h1, rfl, h2⟩) ?_
      rintro u W2 ⟨rfl, r2⟩
      exact hK _ _ (hS.put hon (i := 4) rfl rfl (fun u hu => by cases hu; rfl)) (hJ.pureB (by simp) (by decide) r2)
    · have d1 : L 1 = true := hBh _ rfl ⟨1, .data⟩ (by simp) rfl
      have n7 : L 7 = false := closed_not hC hl (i := 7) (j := 5) rfl (g := .data) (by simp) rfl
      have n8 : L 8 = false := closed_not hC n7 (i := 8) (j := 7) rfl (g := .data) (by simp) rfl
      obtain ⟨vc, hvc⟩ : ∃ x, a1.eval (.tmp 10) = x := ⟨_, rfl⟩
      have hx : curX L l [(1, 10, (⟨#[105, 102, 32]⟩ : ByteArray).data.toList), (5, 14, T), (7, 16, [32]), (8, 0, [])] = l ++ ((⟨#[105, 102, 32]⟩ : ByteArray).data.toList) := by simp [curX, d1, hl]
      have e13 := (eval_tmp a1 13).symm.trans (hS.get hBh (i := 5) rfl 4 (by simp) rfl rfl rfl)
      have hvc2 := (eval_tmp a1 10).symm.trans hvc
      have hrow := hJ.row
      rw [hx] at hrow
      have hcu : cur L a1 v [(1, 10, (⟨#[105, 102, 32]⟩ : ByteArray).data.toList), (5, 14, T), (7, 16, [32]), (8, 0, [])] = vc := (by rw [← hvc]; simp [cur, d1, hl])
      rw [hcu] at hrow
      have hgr := hJ.gr
      rw [hcu] at hgr
      have hB2 : B ≤ W.heap.size := Nat.le_trans hB1 hgr.size
      have hbel := HR.out.bel hgr hB1
      refine wpOp_call (f := 23) (args := #[vc, x]) (R := fun u W2 => Bt B W2 u (l ++ ((⟨#[105, 102, 32]⟩ : ByteArray).data.toList) ++ (T)) ∧ Gr W W2 vc u) rfl rfl (by simp [execOp, resolve, invoke, e13, hvc2, go_sem]) ((HX.out.add W vc _ hrow hB2 ((HBW.out.mono hB).trans hbel) (by first | omega | (simp; omega))).mono fun e W2 ⟨u, h1, h2, h3⟩ => ⟨u, h1, h2, h3⟩) ?_
      rintro u W2 ⟨r1, r2⟩
      exact hK _ _ (hS.put hon (i := 5) rfl rfl (fun u hu => by cases hu)) (hJ.step (C1 := [(1, 10, (⟨#[105, 102, 32]⟩ : ByteArray).data.toList)]) (C2 := [(7, 16, [32]), (8, 0, [])]) (by rw [hS.size]; exact (by decide : (14 : Nat) < 63)) (by simp [d1]) hl (by simp [n7, n8]) (by decide) (by show Bt B W2 u (curX L l [(1, 10, (⟨#[105, 102, 32]⟩ : ByteArray).data.toList), (5, 14, T), (7, 16, [32]), (8, 0, [])] ++ (T)); rw [hx]; exact r1) (by show Gr W W2 (cur L a1 v [(1, 10, (⟨#[105, 102, 32]⟩ : ByteArray).data.toList), (5, 14, T), (7, 16, [32]), (8, 0, [])]) u; rw [hcu]; exact r2))
    · refine wpOp_step rfl (fun K' hK' => ?_)
      go_simp
      exact hK' _ _ (hK _ _ (hS.put hon (i := 6) rfl rfl (fun u hu => by cases hu)) (hJ.build (by simp) (by decide) (by rw [hS.size]; exact (by decide : (15 : Nat) < 63)) rfl rfl))
    · have d5 : L 5 = true := hBh _ rfl ⟨5, .data⟩ (by simp) rfl
      have d1 : L 1 = true := hC 5 _ rfl d5 ⟨1, .data⟩ (by simp) rfl
      have n8 : L 8 = false := closed_not hC hl (i := 8) (j := 7) rfl (g := .data) (by simp) rfl
      obtain ⟨vc, hvc⟩ : ∃ x, a1.eval (.tmp 14) = x := ⟨_, rfl⟩
      have hx : curX L l [(1, 10, (⟨#[105, 102, 32]⟩ : ByteArray).data.toList), (5, 14, T), (7, 16, [32]), (8, 0, [])] = l ++ ((⟨#[105, 102, 32]⟩ : ByteArray).data.toList) ++ (T) := by simp [curX, d1, d5, hl, List.append_assoc]
      have hbi : L 6 = true := hBh _ rfl ⟨6, .data⟩ (by simp) rfl
      obtain ⟨g, u, W2, hge, hrun, hT⟩ := hJ.put (C1 := [(1, 10, (⟨#[105, 102, 32]⟩ : ByteArray).data.toList), (5, 14, T)]) (C2 := [(8, 0, [])]) hB1 (by rw [hS.size]; exact (by decide : (16 : Nat) < 63)) (by simp [d1, d5]) hl hbi (by simp [n8]) (by decide) (k := 1) rfl (by decide) (vc := vc) (by rw [← hvc]; simp [cur, d1, d5, hl]) (by refine Nat.le_trans (Nat.add_le_add_right (Nat.le_of_eq (congrArg List.length hx)) _) ?_; first | omega | (show _ + 3 ≤ _; first | omega | (simp; omega)) | (simp; omega)) 38
      refine wpOp_run rfl rfl (v := u) (w' := W2) ?_ (hK _ _ (hS.put hon (i := 7) rfl rfl (fun u hu => by cases hu)) hT)
      simp [execOp, resolve, invoke, builtin, hvc, hge, hrun, Result.andThen]
    · have d7 : L 7 = true := hBh _ rfl ⟨7, .data⟩ (by simp) rfl
      have d5 : L 5 = true := hBh _ rfl ⟨5, .phase⟩ (by simp) rfl
      have d1 : L 1 = true := hBh _ rfl ⟨1, .phase⟩ (by simp) rfl
      obtain ⟨vc, hvc⟩ : ∃ x, a1.eval (.tmp 16) = x := ⟨_, rfl⟩
      have hx : curX L l [(1, 10, (⟨#[105, 102, 32]⟩ : ByteArray).data.toList), (5, 14, T), (7, 16, [32]), (8, 0, [])] = l ++ ((⟨#[105, 102, 32]⟩ : ByteArray).data.toList) ++ (T) ++ ([32]) := by simp [curX, d1, d5, d7, hl, List.append_assoc]
      have e9 := (eval_tmp a1 16).symm.trans hvc
      refine wpOp_step rfl (fun K' hK' => ?_)
      go_simp
      exact hK' _ _ (hK _ _ (hS.put hon (i := 8) rfl rfl (fun u hu => by cases hu)) (hJ.hand (C1 := [(1, 10, (⟨#[105, 102, 32]⟩ : ByteArray).data.toList), (5, 14, T), (7, 16, [32])]) (C2 := []) (by rw [hS.size]; exact (by decide : (0 : Nat) < 63)) (by simp [d1, d5, d7]) hl (by simp) (by decide) (by rw [← hvc]; simp [cur, d1, d5, d7, hl])))
  · intro L a1 w2 hl hS hJ
    have d1 : L 1 = true := hl 1 (by decide)
    have d5 : L 5 = true := hl 5 (by decide)
    have d7 : L 7 = true := hl 7 (by decide)
    have d8 : L 8 = true := hl 8 (by decide)
    have hcu : cur L a1 v [(1, 10, (⟨#[105, 102, 32]⟩ : ByteArray).data.toList), (5, 14, T), (7, 16, [32]), (8, 0, [])] = a1.eval (.tmp 0) := by simp [cur, d1, d5, d7, d8]
    have hx : curX L l [(1, 10, (⟨#[105, 102, 32]⟩ : ByteArray).data.toList), (5, 14, T), (7, 16, [32]), (8, 0, [])] = l ++ ((⟨#[105, 102, 32]⟩ : ByteArray).data.toList) ++ (T) ++ ([32]) := by simp [curX, d1, d5, d7, d8, List.append_assoc]
    have hrow := hJ.row
    have hgr := hJ.gr
    rw [hcu] at hgr
    rw [hcu, hx] at hrow
    have hfr := hS.frame [9, 10, 11, 12, 13, 14, 15, 16, 0] rfl
    refine (‹∀ (a : Act) (w : World), Code.wp Tryz.prog _ _ a w → _› a1 w2 ?_)
    obtain ⟨z, hz⟩ : ∃ z : Nat → Value, z = fun k => a1.eval (.tmp k) := ⟨_, rfl⟩
    rw [← hz] at hfr
    have ze : a1.eval (.tmp 0) = z 0 := by rw [hz]
    rw [ze] at hrow hgr
    rw [hfr]
    clear hfr ze hz hS hJ hcu hx hl d1 d5 d7 d8
    simp only [over, List.setIfInBounds_toArray, List.set_cons_zero, List.set_cons_succ]
    obtain ⟨v2, hv⟩ : ∃ u, z 0 = u := ⟨_, rfl⟩
    rw [hv] at hrow hgr ⊢
    clear hv
    have r2 := hrow
    have g2 := hgr
    clear hrow hgr
    have HR2 : Hid (Bt B w2 v2 (l ++ [105, 102, 32] ++ T ++ [32])) := by show Bt _ _ _ _; simpa using r2
    have HG2 : Hid (Gr w1 w2 v v2) := by show Gr _ _ _ _; exact (Gr.refl _ _).trans g2
    have hB2 : B ≤ w2.heap.size := Nat.le_trans hB1 HG2.out.size
    clear r2 g2
    have hbx2 : w2.heap[gb]? = _ := HR.out.block (HG2.out) HBX.out (by decide)
    have hc2_3 : w2.cell? ⟨gb, 3, none⟩ = some (.slice na body.length nc) := by simp [World.cell?, hbx2]
    clear hbx2
    go_wp2_with fail
    refine (HBB.out _ _ _ HR2.out hB2 ((HBW.out.mono hB).trans (HR.out.bel (HG2.out) hB1)) (by first | omega | (simp; omega))).mono ?_
    rintro e w3 ⟨v3, rfl, r3, g3⟩
    have HR3 : Hid (Bt B w3 v3 (l ++ [105, 102, 32] ++ T ++ [32] ++ V)) := by show Bt _ _ _ _; simpa using r3
    have HG3 : Hid (Gr w1 w3 v v3) := by show Gr _ _ _ _; exact (HG2.out).trans g3
    have hB3 : B ≤ w3.heap.size := Nat.le_trans hB1 HG3.out.size
    clear r3 g3
    have hbx3 : w3.heap[gb]? = _ := HR.out.block (HG3.out) HBX.out (by decide)
    have hc3_4 : w3.cell? ⟨gb, 4, none⟩ = some (.slice ba els.length bc) := by simp [World.cell?, hbx3]
    clear hbx3
    go_wp2_with fail
    refine region_sh (valQ v3 gb 4 (.slice ba els.length bc)) (JC B w3 v3 (l ++ [105, 102, 32] ++ T ++ [32] ++ V) [(1, 26, (⟨#[32, 101, 108, 115, 101, 32]⟩ : ByteArray).data.toList), (4, 29, U), (5, 0, [])] 1000 1000 1001 [] 5 0) (by kernel_rfl) (by kernel_rfl) (by kernel_rfl) (JC.start HR3.out _ rfl) ?_ ?_
    · intro hon q hq L a1 W hC hl hBh hS hJ K hK
      have hqn : q < 6 := hq
      clear hq
      rcases (show q = 0 ∨ q = 1 ∨ q = 2 ∨ q = 3 ∨ q = 4 ∨ q = 5 from by omega) with rfl | rfl | rfl | rfl | rfl | rfl
      · have hz : L 5 = false := closed_not hC hl (i := 5) (j := 0) rfl (g := .phase) (by simp) rfl
        have e0 := (eval_tmp a1 0).symm.trans (hJ.s0 hz)
        refine wpOp_step rfl (fun K' hK' => ?_)
        go_simp
        exact hK' _ _ (hK _ _ (hS.put hon (i := 0) rfl rfl (fun u hu => by cases hu; rfl)) (hJ.pure (by simp) (by decide)))
      · have n4 : L 4 = false := closed_not hC hl (i := 4) (j := 1) rfl (g := .data) (by simp) rfl
        have n5 : L 5 = false := closed_not hC n4 (i := 5) (j := 4) rfl (g := .data) (by simp) rfl
        have hx : curX L (l ++ [105, 102, 32] ++ T ++ [32] ++ V) [(1, 26, (⟨#[32, 101, 108, 115, 101, 32]⟩ : ByteArray).data.toList), (4, 29, U), (5, 0, [])] = (l ++ [105, 102, 32] ++ T ++ [32] ++ V) := by simp [curX, hl]
        have e25 := (hS.get hBh (i := 1) rfl 0 (by simp) rfl rfl rfl)
        have ek : ∀ c, a1.eval (Operand.const c) = c := fun c => rfl
        obtain ⟨u, W2, hrun, hT⟩ := hJ.str (C1 := []) (C2 := [(4, 29, U), (5, 0, [])]) (s := (⟨#[32, 101, 108, 115, 101, 32]⟩ : ByteArray)) hB3 (by rw [hS.size]; exact (by decide : (26 : Nat) < 63)) (by simp) hl (by simp [n4, n5]) (by decide) (vc := v3) (by simp [cur, hl]) (by refine Nat.le_trans (Nat.add_le_add_right (Nat.le_of_eq (congrArg List.length hx)) _) ?_; first | omega | (show _ + 6 ≤ _; first | omega | (simp; omega)) | (simp; omega)) 38
        refine wpOp_run rfl rfl (v := u) (w' := W2) ?_ (hK _ _ (hS.put hon (i := 1) rfl rfl (fun u hu => by cases hu)) hT)
        simp [execOp, resolve, invoke, builtin, e25, ek, hrun, Result.andThen]
      · have e3 := (eval_tmp a1 3).symm.trans ((hS.kept 3 (by kernel_rfl)).trans rfl)
        refine wpOp_step rfl (fun K' hK' => ?_)
        go_simp
        exact hK' _ _ (hK _ _ (hS.put hon (i := 2) rfl rfl (fun u hu => by cases hu; rfl)) (hJ.pure (by simp) (by decide)))
      · have e27 := (eval_tmp a1 27).symm.trans (hS.get hBh (i := 3) rfl 2 (by simp) rfl rfl rfl)
        have hbx : W.heap[gb]? = _ := HR.out.block (HG3.out.trans hJ.gr) HBX.out (by decide)
        have hcl2 : W.cell? ⟨gb, 4, none⟩ = some (.slice ba els.length bc) := by simp [World.cell?, hbx]
        refine wpOp_step rfl (fun K' hK' => ?_)
        go_simp
        exact hK' _ _ (hK _ _ (hS.put hon (i := 3) rfl rfl (fun u hu => by cases hu; rfl)) (hJ.pure (by simp) (by decide)))
      · have d1 : L 1 = true := hBh _ rfl ⟨1, .data⟩ (by simp) rfl
        have n5 : L 5 = false := closed_not hC hl (i := 5) (j := 4) rfl (g := .data) (by simp) rfl
        obtain ⟨vc, hvc⟩ : ∃ x, a1.eval (.tmp 26) = x := ⟨_, rfl⟩
        have hx : curX L (l ++ [105, 102, 32] ++ T ++ [32] ++ V) [(1, 26, (⟨#[32, 101, 108, 115, 101, 32]⟩ : ByteArray).data.toList), (4, 29, U), (5, 0, [])] = (l ++ [105, 102, 32] ++ T ++ [32] ++ V) ++ ((⟨#[32, 101, 108, 115, 101, 32]⟩ : ByteArray).data.toList) := by simp [curX, d1, hl]
        have e28 := (eval_tmp a1 28).symm.trans (hS.get hBh (i := 4) rfl 3 (by simp) rfl rfl rfl)
        have hvc2 := (eval_tmp a1 26).symm.trans hvc
        have hrow := hJ.row
        rw [hx] at hrow
        have hcu : cur L a1 v3 [(1, 26, (⟨#[32, 101, 108, 115, 101, 32]⟩ : ByteArray).data.toList), (4, 29, U), (5, 0, [])] = vc := (by rw [← hvc]; simp [cur, d1, hl])
        rw [hcu] at hrow
        have hgr := hJ.gr
        rw [hcu] at hgr
        have hB2 : B ≤ W.heap.size := Nat.le_trans hB3 hgr.size
        have hbel := HR3.out.bel hgr hB3
        refine wpOp_call (f := 57) (args := #[vc, .slice ba els.length bc]) (R := fun u W2 => Bt B W2 u ((l ++ [105, 102, 32] ++ T ++ [32] ++ V) ++ ((⟨#[32, 101, 108, 115, 101, 32]⟩ : ByteArray).data.toList) ++ (U)) ∧ Gr W W2 vc u) rfl rfl (by simp [execOp, resolve, invoke, e28, hvc2, go_sem]) ((HBE.out W vc _ hrow hB2 ((HBW.out.mono hB).trans ((HR.out.bel (HG3.out) hB1).trans hbel)) (by first | omega | (simp; omega))).mono fun e W2 ⟨u, h1, h2, h3⟩ => ⟨u, h1, h2, h3⟩) ?_
        rintro u W2 ⟨r1, r2⟩
        exact hK _ _ (hS.put hon (i := 4) rfl rfl (fun u hu => by cases hu)) (hJ.step (C1 := [(1, 26, (⟨#[32, 101, 108, 115, 101, 32]⟩ : ByteArray).data.toList)]) (C2 := [(5, 0, [])]) (by rw [hS.size]; exact (by decide : (29 : Nat) < 63)) (by simp [d1]) hl (by simp [n5]) (by decide) (by show Bt B W2 u (curX L (l ++ [105, 102, 32] ++ T ++ [32] ++ V) [(1, 26, (⟨#[32, 101, 108, 115, 101, 32]⟩ : ByteArray).data.toList), (4, 29, U), (5, 0, [])] ++ (U)); rw [hx]; exact r1) (by show Gr W W2 (cur L a1 v3 [(1, 26, (⟨#[32, 101, 108, 115, 101, 32]⟩ : ByteArray).data.toList), (4, 29, U), (5, 0, [])]) u; rw [hcu]; exact r2))
      · have d4 : L 4 = true := hBh _ rfl ⟨4, .data⟩ (by simp) rfl
        have d1 : L 1 = true := hBh _ rfl ⟨1, .phase⟩ (by simp) rfl
        obtain ⟨vc, hvc⟩ : ∃ x, a1.eval (.tmp 29) = x := ⟨_, rfl⟩
        have hx : curX L (l ++ [105, 102, 32] ++ T ++ [32] ++ V) [(1, 26, (⟨#[32, 101, 108, 115, 101, 32]⟩ : ByteArray).data.toList), (4, 29, U), (5, 0, [])] = (l ++ [105, 102, 32] ++ T ++ [32] ++ V) ++ ((⟨#[32, 101, 108, 115, 101, 32]⟩ : ByteArray).data.toList) ++ (U) := by simp [curX, d1, d4, hl, List.append_assoc]
        have e9 := (eval_tmp a1 29).symm.trans hvc
        refine wpOp_step rfl (fun K' hK' => ?_)
        go_simp
        exact hK' _ _ (hK _ _ (hS.put hon (i := 5) rfl rfl (fun u hu => by cases hu)) (hJ.hand (C1 := [(1, 26, (⟨#[32, 101, 108, 115, 101, 32]⟩ : ByteArray).data.toList), (4, 29, U)]) (C2 := []) (by rw [hS.size]; exact (by decide : (0 : Nat) < 63)) (by simp [d1, d4]) hl (by simp) (by decide) (by rw [← hvc]; simp [cur, d1, d4, hl])))
    · intro L a1 w4 hl hS hJ
      have d1 : L 1 = true := hl 1 (by decide)
      have d4 : L 4 = true := hl 4 (by decide)
      have d5 : L 5 = true := hl 5 (by decide)
      have hcu : cur L a1 v3 [(1, 26, (⟨#[32, 101, 108, 115, 101, 32]⟩ : ByteArray).data.toList), (4, 29, U), (5, 0, [])] = a1.eval (.tmp 0) := by simp [cur, d1, d4, d5]
      have hx : curX L (l ++ [105, 102, 32] ++ T ++ [32] ++ V) [(1, 26, (⟨#[32, 101, 108, 115, 101, 32]⟩ : ByteArray).data.toList), (4, 29, U), (5, 0, [])] = (l ++ [105, 102, 32] ++ T ++ [32] ++ V) ++ ((⟨#[32, 101, 108, 115, 101, 32]⟩ : ByteArray).data.toList) ++ (U) := by simp [curX, d1, d4, d5, List.append_assoc]
      have hrow := hJ.row
      have hgr := hJ.gr
      rw [hcu] at hgr
      rw [hcu, hx] at hrow
      have hfr := hS.frame [25, 26, 27, 28, 29, 0] rfl
      refine (‹∀ (a : Act) (w : World), Code.wp Tryz.prog _ _ a w → _› a1 w4 ?_)
      obtain ⟨z, hz⟩ : ∃ z : Nat → Value, z = fun k => a1.eval (.tmp k) := ⟨_, rfl⟩
      rw [← hz] at hfr
      have ze : a1.eval (.tmp 0) = z 0 := by rw [hz]
      rw [ze] at hrow hgr
      rw [hfr]
      clear hfr ze hz hS hJ hcu hx hl d1 d4 d5
      simp only [over, List.setIfInBounds_toArray, List.set_cons_zero, List.set_cons_succ]
      obtain ⟨v4, hv⟩ : ∃ u, z 0 = u := ⟨_, rfl⟩
      rw [hv] at hrow hgr ⊢
      clear hv
      have r4 := hrow
      have g4 := hgr
      clear hrow hgr
      have HR4 : Hid (Bt B w4 v4 (l ++ [105, 102, 32] ++ T ++ [32] ++ V ++ [32, 101, 108, 115, 101, 32] ++ U)) := by show Bt _ _ _ _; simpa using r4
      have HG4 : Hid (Gr w1 w4 v v4) := by show Gr _ _ _ _; exact (HG3.out).trans g4
      have hB4 : B ≤ w4.heap.size := Nat.le_trans hB1 HG4.out.size
      clear r4 g4
      have HRz : Hid (Bt B w4 v4 (l ++ ([105, 102, 32] ++ T ++ [32] ++ V ++ ([32, 101, 108, 115, 101, 32] ++ U)))) := by show Bt _ _ _ _; simpa using HR4.out
      have HGz : Hid (Gr w w4 v v4) := by show Gr _ _ _ _; exact (HG4.out).pre HBW.out (fun k hk => (HR0.out.lt k hk).2)
      go_wp2
      go_ret
      exact ⟨v4, rfl, HRz.out, HGz.out⟩
set_option maxRecDepth 100000 in
set_option maxHeartbeats 4000000 in
theorem addBlocksWhile {n : Nat} (hA : Small n) {name : ByteArray} {exprs : List TE} {body els : List TS} {pos : Int} (hsz : szS (.mk 4 name exprs body els pos) ≤ n)
    {B : Nat} {w : World} {v : Value} {l : Bs} {vx vb ve : Value} (hR : Bt B w v l) (hB : B ≤ w.heap.size) (hG : Lg B w) (hE : SIn (· < B) w (.mk 4 name exprs body els pos) vx vb ve) (hl : l.length + (blocksT 4 name (txEs exprs) (txSs body) els.isEmpty (txSs els)).length ≤ 1000000000) :
    Calls Tryz.prog 35 #[v, stV (.mk 4 name exprs body els pos) vx vb ve] w fun en w' => ∃ v', en = .returned v' ∧ Bt B w' v' (l ++ blocksT 4 name (txEs exprs) (txSs body) els.isEmpty (txSs els)) ∧ Gr w w' v v' := by
  have hszx : szEs exprs < n := by unfold szS at hsz; omega
  have hszb : szSs body < n := by unfold szS at hsz; omega
  have hsze : szSs els < n := by unfold szS at hsz; omega
  have hE2 := hE
  obtain ⟨hk8, ⟨pa, pc, rfl, hpc1, hpc2, hpg⟩, ⟨na, nc, rfl, hnc1, hnc2, hng⟩, ⟨ba, bc, rfl, hbc1, hbc2, hbg⟩⟩ := hE2
  unfold maxLen at hpc2 hnc2 hbc2
  obtain ⟨x, hx⟩ := pack hA (show EsIn B w _ exprs from hE.2.1) hB hG 0 (by omega) hszx
  have HBB : Hid (∀ W u X, Bt B W u X → B ≤ W.heap.size → Below B w W → X.length + (blockT (txSs body)).length ≤ 1000000000 → Calls Tryz.prog 57 #[u, .slice na body.length nc] W fun en W2 => ∃ u2, en = .returned u2 ∧ Bt B W2 u2 (X ++ blockT (txSs body)) ∧ Gr W W2 u u2) := fun W u X h1 h2 h3 h4 => addBlock_any hA hszb h1 h2 (hG.on h3) (SsIn.on (show SsIn B w _ body from hE.2.2.1) h3) h4
  have hT : blocksT 4 name (txEs exprs) (txSs body) els.isEmpty (txSs els) = [119, 104, 105, 108, 101, 32] ++ pt (txEs exprs) 0 ++ [32] ++ blockT (txSs body) := rfl
  rw [hT] at hl ⊢
  clear hT
  generalize pt (txEs exprs) 0 = T at hl hx ⊢
  generalize blockT (txSs body) = V at hl HBB ⊢
  have hlT : l.length + T.length + V.length + 7 ≤ 1000000000 := by simp at hl; omega
  have HX : Hid (Pk B w (.slice pa exprs.length pc) 0 T x) := hx
  have HR0 : Hid (Bt B w v l) := hR
  clear hE hl hA hsz hszx hszb hsze hR hG hpc1 hpc2 hpg hnc1 hnc2 hng hbc1 hbg hx hbc2
  unfold stV
  go_enter Tryz.func35, Tryz.ntmps35
  go_wp2_with fail
  obtain ⟨w1, hw1⟩ : ∃ w1, w1 = w.alloc (.cells #[.int .i64 4, .string name, .slice pa exprs.length pc, .slice na body.length nc, .slice ba els.length bc, .int .i64 pos] 30) := ⟨_, rfl⟩
  obtain ⟨gb, hgb⟩ : ∃ gb, gb = w.heap.size := ⟨_, rfl⟩
  have HBW : Hid (Below w.heap.size w w1) := by rw [hw1]; exact (Below.refl _ _).alloc (Nat.le_refl _) _
  have HBX : Hid (w1.heap[gb]? = some (.cells #[.int .i64 4, .string name, .slice pa exprs.length pc, .slice na body.length nc, .slice ba els.length bc, .int .i64 pos] 30 (0, 0))) := by rw [hw1, hgb]; exact heap_alloc_new _ _
  have HR : Hid (Bt B w1 v l) := by rw [hw1]; exact HR0.out.alloc _
  have hB1 : B ≤ w1.heap.size := Nat.le_trans hB HBW.out.size
  rw [← hw1, ← hgb]
  clear hw1 hgb
  refine region_sh (valP v gb (.slice pa exprs.length pc) x) (JC B w1 v l [(1, 33, (⟨#[119, 104, 105, 108, 101, 32]⟩ : ByteArray).data.toList), (5, 37, T), (7, 39, [32]), (8, 0, [])] 6 38 7 [32] 8 0) (by kernel_rfl) (by kernel_rfl) (by kernel_rfl) (JC.start HR.out _ rfl) ?_ ?_
  · intro hon q hq L a1 W hC hl hBh hS hJ K hK
    have hqn : q < 9 := hq
    clear hq
    rcases (show q = 0 ∨ q = 1 ∨ q = 2 ∨ q = 3 ∨ q = 4 ∨ q = 5 ∨ q = 6 ∨ q = 7 ∨ q = 8 from by omega) with rfl | rfl | rfl | rfl | rfl | rfl | rfl | rfl | rfl
    · have hz : L 8 = false := closed_not hC hl (i := 8) (j := 0) rfl (g := .phase) (by simp) rfl
      have e0 := (eval_tmp a1 0).symm.trans (hJ.s0 hz)
      refine wpOp_step rfl (fun K' hK' => ?_)
      go_simp
      exact hK' _ _ (hK _ _ (hS.put hon (i := 0) rfl rfl (fun u hu => by cases hu; rfl)) (hJ.pure (by simp) (by decide)))
    · have n5 : L 5 = false := closed_not hC hl (i := 5) (j := 1) rfl (g := .data) (by simp) rfl
      have n7 : L 7 = false := closed_not hC n5 (i := 7) (j := 5) rfl (g := .data) (by simp) rfl
      have n8 : L 8 = false := closed_not hC n7 (i := 8) (j := 7) rfl (g := .data) (by simp) rfl
      have hx : curX L l [(1, 33, (⟨#[119, 104, 105, 108, 101, 32]⟩ : ByteArray).data.toList), (5, 37, T), (7, 39, [32]), (8, 0, [])] = l := by simp [curX, hl]
      have e32 := (hS.get hBh (i := 1) rfl 0 (by simp) rfl rfl rfl)
      have ek : ∀ c, a1.eval (Operand.const c) = c := fun c => rfl
      obtain ⟨u, W2, hrun, hT⟩ := hJ.str (C1 := []) (C2 := [(5, 37, T), (7, 39, [32]), (8, 0, [])]) (s := (⟨#[119, 104, 105, 108, 101, 32]⟩ : ByteArray)) hB1 (by rw [hS.size]; exact (by decide : (33 : Nat) < 63)) (by simp) hl (by simp [n5, n7, n8]) (by decide) (vc := v) (by simp [cur, hl]) (by refine Nat.le_trans (Nat.add_le_add_right (Nat.le_of_eq (congrArg List.length hx)) _) ?_; first | omega | (show _ + 6 ≤ _; first | omega | (simp; omega)) | (simp; omega)) 38
      refine wpOp_run rfl rfl (v := u) (w' := W2) ?_ (hK _ _ (hS.put hon (i := 1) rfl rfl (fun u hu => by cases hu)) hT)
      simp [execOp, resolve, invoke, builtin, e32, ek, hrun, Result.andThen]
    · have e3 := (eval_tmp a1 3).symm.trans ((hS.kept 3 (by kernel_rfl)).trans rfl)
      refine wpOp_step rfl (fun K' hK' => ?_)
      go_simp
      exact hK' _ _ (hK _ _ (hS.put hon (i := 2) rfl rfl (fun u hu => by cases hu; rfl)) (hJ.pure (by simp) (by decide)))
    · have e34 := (eval_tmp a1 34).symm.trans (hS.get hBh (i := 3) rfl 2 (by simp) rfl rfl rfl)
      have hbx : W.heap[gb]? = _ := HR.out.block (hJ.gr) HBX.out (by decide)
      have hcl2 : W.cell? ⟨gb, 2, none⟩ = some (.slice pa exprs.length pc) := by simp [World.cell?, hbx]
      refine wpOp_step rfl (fun K' hK' => ?_)
      go_simp
      exact hK' _ _ (hK _ _ (hS.put hon (i := 3) rfl rfl (fun u hu => by cases hu; rfl)) (hJ.pure (by simp) (by decide)))
    · have e35 := (eval_tmp a1 35).symm.trans (hS.get hBh (i := 4) rfl 3 (by simp) rfl rfl rfl)
      have hbel := HR.out.bel hJ.gr hB1
      refine wpOp_call (f := 56) (args := #[.slice pa exprs.length pc, .int .i64 0]) (R := fun u W2 => u = x ∧ Below W.heap.size W W2) rfl rfl (by simp [execOp, resolve, invoke, e35, go_sem]) ((HX.out.part _ ((HBW.out.mono hB).trans hbel)).mono fun e W2 ⟨h1, h2⟩ => ⟨_, h1, rfl, h2⟩) ?_
      rintro u W2 ⟨rfl, r2⟩
      exact hK _ _ (hS.put hon (i := 4) rfl rfl (fun u hu => by cases hu; rfl)) (hJ.pureB (by simp) (by decide) r2)
    · have d1 : L 1 = true := hBh _ rfl ⟨1, .data⟩ (by simp) rfl
      have n7 : L 7 = false := closed_not hC hl (i := 7) (j := 5) rfl (g := .data) (by simp) rfl
      have n8 : L 8 = false := closed_not hC n7 (i := 8) (j := 7) rfl (g := .data) (by simp) rfl
      obtain ⟨vc, hvc⟩ : ∃ x, a1.eval (.tmp 33) = x := ⟨_, rfl⟩
      have hx : curX L l [(1, 33, (⟨#[119, 104, 105, 108, 101, 32]⟩ : ByteArray).data.toList), (5, 37, T), (7, 39, [32]), (8, 0, [])] = l ++ ((⟨#[119, 104, 105, 108, 101, 32]⟩ : ByteArray).data.toList) := by simp [curX, d1, hl]
      have e36 := (eval_tmp a1 36).symm.trans (hS.get hBh (i := 5) rfl 4 (by simp) rfl rfl rfl)
      have hvc2 := (eval_tmp a1 33).symm.trans hvc
      have hrow := hJ.row
      rw [hx] at hrow
      have hcu : cur L a1 v [(1, 33, (⟨#[119, 104, 105, 108, 101, 32]⟩ : ByteArray).data.toList), (5, 37, T), (7, 39, [32]), (8, 0, [])] = vc := (by rw [← hvc]; simp [cur, d1, hl])
      rw [hcu] at hrow
      have hgr := hJ.gr
      rw [hcu] at hgr
      have hB2 : B ≤ W.heap.size := Nat.le_trans hB1 hgr.size
      have hbel := HR.out.bel hgr hB1
      refine wpOp_call (f := 23) (args := #[vc, x]) (R := fun u W2 => Bt B W2 u (l ++ ((⟨#[119, 104, 105, 108, 101, 32]⟩ : ByteArray).data.toList) ++ (T)) ∧ Gr W W2 vc u) rfl rfl (by simp [execOp, resolve, invoke, e36, hvc2, go_sem]) ((HX.out.add W vc _ hrow hB2 ((HBW.out.mono hB).trans hbel) (by first | omega | (simp; omega))).mono fun e W2 ⟨u, h1, h2, h3⟩ => ⟨u, h1, h2, h3⟩) ?_
      rintro u W2 ⟨r1, r2⟩
      exact hK _ _ (hS.put hon (i := 5) rfl rfl (fun u hu => by cases hu)) (hJ.step (C1 := [(1, 33, (⟨#[119, 104, 105, 108, 101, 32]⟩ : ByteArray).data.toList)]) (C2 := [(7, 39, [32]), (8, 0, [])]) (by rw [hS.size]; exact (by decide : (37 : Nat) < 63)) (by simp [d1]) hl (by simp [n7, n8]) (by decide) (by show Bt B W2 u (curX L l [(1, 33, (⟨#[119, 104, 105, 108, 101, 32]⟩ : ByteArray).data.toList), (5, 37, T), (7, 39, [32]), (8, 0, [])] ++ (T)); rw [hx]; exact r1) (by show Gr W W2 (cur L a1 v [(1, 33, (⟨#[119, 104, 105, 108, 101, 32]⟩ : ByteArray).data.toList), (5, 37, T), (7, 39, [32]), (8, 0, [])]) u; rw [hcu]; exact r2))
    · refine wpOp_step rfl (fun K' hK' => ?_)
      go_simp
      exact hK' _ _ (hK _ _ (hS.put hon (i := 6) rfl rfl (fun u hu => by cases hu)) (hJ.build (by simp) (by decide) (by rw [hS.size]; exact (by decide : (38 : Nat) < 63)) rfl rfl))
    · have d5 : L 5 = true := hBh _ rfl ⟨5, .data⟩ (by simp) rfl
      have d1 : L 1 = true := hC 5 _ rfl d5 ⟨1, .data⟩ (by simp) rfl
      have n8 : L 8 = false := closed_not hC hl (i := 8) (j := 7) rfl (g := .data) (by simp) rfl
      obtain ⟨vc, hvc⟩ : ∃ x, a1.eval (.tmp 37) = x := ⟨_, rfl⟩
      have hx : curX L l [(1, 33, (⟨#[119, 104, 105, 108, 101, 32]⟩ : ByteArray).data.toList), (5, 37, T), (7, 39, [32]), (8, 0, [])] = l ++ ((⟨#[119, 104, 105, 108, 101, 32]⟩ : ByteArray).data.toList) ++ (T) := by simp [curX, d1, d5, hl, List.append_assoc]
      have hbi : L 6 = true := hBh _ rfl ⟨6, .data⟩ (by simp) rfl
      obtain ⟨g, u, W2, hge, hrun, hT⟩ := hJ.put (C1 := [(1, 33, (⟨#[119, 104, 105, 108, 101, 32]⟩ : ByteArray).data.toList), (5, 37, T)]) (C2 := [(8, 0, [])]) hB1 (by rw [hS.size]; exact (by decide : (39 : Nat) < 63)) (by simp [d1, d5]) hl hbi (by simp [n8]) (by decide) (k := 1) rfl (by decide) (vc := vc) (by rw [← hvc]; simp [cur, d1, d5, hl]) (by refine Nat.le_trans (Nat.add_le_add_right (Nat.le_of_eq (congrArg List.length hx)) _) ?_; first | omega | (show _ + 6 ≤ _; first | omega | (simp; omega)) | (simp; omega)) 38
      refine wpOp_run rfl rfl (v := u) (w' := W2) ?_ (hK _ _ (hS.put hon (i := 7) rfl rfl (fun u hu => by cases hu)) hT)
      simp [execOp, resolve, invoke, builtin, hvc, hge, hrun, Result.andThen]
    · have d7 : L 7 = true := hBh _ rfl ⟨7, .data⟩ (by simp) rfl
      have d5 : L 5 = true := hBh _ rfl ⟨5, .phase⟩ (by simp) rfl
      have d1 : L 1 = true := hBh _ rfl ⟨1, .phase⟩ (by simp) rfl
      obtain ⟨vc, hvc⟩ : ∃ x, a1.eval (.tmp 39) = x := ⟨_, rfl⟩
      have hx : curX L l [(1, 33, (⟨#[119, 104, 105, 108, 101, 32]⟩ : ByteArray).data.toList), (5, 37, T), (7, 39, [32]), (8, 0, [])] = l ++ ((⟨#[119, 104, 105, 108, 101, 32]⟩ : ByteArray).data.toList) ++ (T) ++ ([32]) := by simp [curX, d1, d5, d7, hl, List.append_assoc]
      have e9 := (eval_tmp a1 39).symm.trans hvc
      refine wpOp_step rfl (fun K' hK' => ?_)
      go_simp
      exact hK' _ _ (hK _ _ (hS.put hon (i := 8) rfl rfl (fun u hu => by cases hu)) (hJ.hand (C1 := [(1, 33, (⟨#[119, 104, 105, 108, 101, 32]⟩ : ByteArray).data.toList), (5, 37, T), (7, 39, [32])]) (C2 := []) (by rw [hS.size]; exact (by decide : (0 : Nat) < 63)) (by simp [d1, d5, d7]) hl (by simp) (by decide) (by rw [← hvc]; simp [cur, d1, d5, d7, hl])))
  · intro L a1 w2 hl hS hJ
    have d1 : L 1 = true := hl 1 (by decide)
    have d5 : L 5 = true := hl 5 (by decide)
    have d7 : L 7 = true := hl 7 (by decide)
    have d8 : L 8 = true := hl 8 (by decide)
    have hcu : cur L a1 v [(1, 33, (⟨#[119, 104, 105, 108, 101, 32]⟩ : ByteArray).data.toList), (5, 37, T), (7, 39, [32]), (8, 0, [])] = a1.eval (.tmp 0) := by simp [cur, d1, d5, d7, d8]
    have hx : curX L l [(1, 33, (⟨#[119, 104, 105, 108, 101, 32]⟩ : ByteArray).data.toList), (5, 37, T), (7, 39, [32]), (8, 0, [])] = l ++ ((⟨#[119, 104, 105, 108, 101, 32]⟩ : ByteArray).data.toList) ++ (T) ++ ([32]) := by simp [curX, d1, d5, d7, d8, List.append_assoc]
    have hrow := hJ.row
    have hgr := hJ.gr
    rw [hcu] at hgr
    rw [hcu, hx] at hrow
    have hfr := hS.frame [32, 33, 34, 35, 36, 37, 38, 39, 0] rfl
    refine (‹∀ (a : Act) (w : World), Code.wp Tryz.prog _ _ a w → _› a1 w2 ?_)
    obtain ⟨z, hz⟩ : ∃ z : Nat → Value, z = fun k => a1.eval (.tmp k) := ⟨_, rfl⟩
    rw [← hz] at hfr
    have ze : a1.eval (.tmp 0) = z 0 := by rw [hz]
    rw [ze] at hrow hgr
    rw [hfr]
    clear hfr ze hz hS hJ hcu hx hl d1 d5 d7 d8
    simp only [over, List.setIfInBounds_toArray, List.set_cons_zero, List.set_cons_succ]
    obtain ⟨v2, hv⟩ : ∃ u, z 0 = u := ⟨_, rfl⟩
    rw [hv] at hrow hgr ⊢
    clear hv
    have r2 := hrow
    have g2 := hgr
    clear hrow hgr
    have HR2 : Hid (Bt B w2 v2 (l ++ [119, 104, 105, 108, 101, 32] ++ T ++ [32])) := by show Bt _ _ _ _; simpa using r2
    have HG2 : Hid (Gr w1 w2 v v2) := by show Gr _ _ _ _; exact (Gr.refl _ _).trans g2
    have hB2 : B ≤ w2.heap.size := Nat.le_trans hB1 HG2.out.size
    clear r2 g2
    have hbx2 : w2.heap[gb]? = _ := HR.out.block (HG2.out) HBX.out (by decide)
    have hc2_3 : w2.cell? ⟨gb, 3, none⟩ = some (.slice na body.length nc) := by simp [World.cell?, hbx2]
    clear hbx2
    go_wp2_with fail
    refine (HBB.out _ _ _ HR2.out hB2 ((HBW.out.mono hB).trans (HR.out.bel (HG2.out) hB1)) (by first | omega | (simp; omega))).mono ?_
    rintro e w3 ⟨v3, rfl, r3, g3⟩
    have HR3 : Hid (Bt B w3 v3 (l ++ [119, 104, 105, 108, 101, 32] ++ T ++ [32] ++ V)) := by show Bt _ _ _ _; simpa using r3
    have HG3 : Hid (Gr w1 w3 v v3) := by show Gr _ _ _ _; exact (HG2.out).trans g3
    have hB3 : B ≤ w3.heap.size := Nat.le_trans hB1 HG3.out.size
    clear r3 g3
    have HRz : Hid (Bt B w3 v3 (l ++ ([119, 104, 105, 108, 101, 32] ++ T ++ [32] ++ V))) := by show Bt _ _ _ _; simpa using HR3.out
    have HGz : Hid (Gr w w3 v v3) := by show Gr _ _ _ _; exact (HG3.out).pre HBW.out (fun k hk => (HR0.out.lt k hk).2)
    go_wp2
    go_ret
    exact ⟨v3, rfl, HRz.out, HGz.out⟩
set_option maxRecDepth 100000 in
set_option maxHeartbeats 4000000 in
theorem addBlocksTry {n : Nat} (hA : Small n) {name : ByteArray} {exprs : List TE} {body els : List TS} {pos : Int} (hsz : szS (.mk 7 name exprs body els pos) ≤ n)
    {B : Nat} {w : World} {v : Value} {l : Bs} {vx vb ve : Value} (hR : Bt B w v l) (hB : B ≤ w.heap.size) (hG : Lg B w) (hE : SIn (· < B) w (.mk 7 name exprs body els pos) vx vb ve) (hl : l.length + (blocksT 7 name (txEs exprs) (txSs body) els.isEmpty (txSs els)).length ≤ 1000000000) :
    Calls Tryz.prog 35 #[v, stV (.mk 7 name exprs body els pos) vx vb ve] w fun en w' => ∃ v', en = .returned v' ∧ Bt B w' v' (l ++ blocksT 7 name (txEs exprs) (txSs body) els.isEmpty (txSs els)) ∧ Gr w w' v v' := by
  have hszx : szEs exprs < n := by unfold szS at hsz; omega
  have hszb : szSs body < n := by unfold szS at hsz; omega
  have hsze : szSs els < n := by unfold szS at hsz; omega
  have hE2 := hE
  obtain ⟨hk8, ⟨pa, pc, rfl, hpc1, hpc2, hpg⟩, ⟨na, nc, rfl, hnc1, hnc2, hng⟩, ⟨ba, bc, rfl, hbc1, hbc2, hbg⟩⟩ := hE2
  unfold maxLen at hpc2 hnc2 hbc2
  have HBB : Hid (∀ W u X, Bt B W u X → B ≤ W.heap.size → Below B w W → X.length + (blockT (txSs body)).length ≤ 1000000000 → Calls Tryz.prog 57 #[u, .slice na body.length nc] W fun en W2 => ∃ u2, en = .returned u2 ∧ Bt B W2 u2 (X ++ blockT (txSs body)) ∧ Gr W W2 u u2) := fun W u X h1 h2 h3 h4 => addBlock_any hA hszb h1 h2 (hG.on h3) (SsIn.on (show SsIn B w _ body from hE.2.2.1) h3) h4
  have HBE : Hid (∀ W u X, Bt B W u X → B ≤ W.heap.size → Below B w W → X.length + (blockT (txSs els)).length ≤ 1000000000 → Calls Tryz.prog 57 #[u, .slice ba els.length bc] W fun en W2 => ∃ u2, en = .returned u2 ∧ Bt B W2 u2 (X ++ blockT (txSs els)) ∧ Gr W W2 u u2) := fun W u X h1 h2 h3 h4 => addBlock_any hA hsze h1 h2 (hG.on h3) (SsIn.on (show SsIn B w _ els from hE.2.2.2) h3) h4
  have hT : blocksT 7 name (txEs exprs) (txSs body) els.isEmpty (txSs els) = [116, 114, 121, 32] ++ blockT (txSs body) ++ [32, 99, 97, 116, 99, 104, 32] ++ name.data.toList ++ [32] ++ blockT (txSs els) := rfl
  rw [hT] at hl ⊢
  clear hT
  generalize blockT (txSs body) = V at hl HBB ⊢
  generalize blockT (txSs els) = U at hl HBE ⊢
  have hnm : name.data.toList.length = name.size := rfl
  have hlT : l.length + V.length + U.length + name.size + 12 ≤ 1000000000 := by rw [← hnm]; simp at hl ⊢; omega
  have HR0 : Hid (Bt B w v l) := hR
  clear hE hl hA hsz hszx hszb hsze hR hG hpc1 hpc2 hpg hnc1 hnc2 hng hbc1 hbg hbc2 hnm
  unfold stV
  go_enter Tryz.func35, Tryz.ntmps35
  go_wp2_with fail
  obtain ⟨w1, hw1⟩ : ∃ w1, w1 = w.alloc (.cells #[.int .i64 7, .string name, .slice pa exprs.length pc, .slice na body.length nc, .slice ba els.length bc, .int .i64 pos] 30) := ⟨_, rfl⟩
  obtain ⟨gb, hgb⟩ : ∃ gb, gb = w.heap.size := ⟨_, rfl⟩
  have HBW : Hid (Below w.heap.size w w1) := by rw [hw1]; exact (Below.refl _ _).alloc (Nat.le_refl _) _
  have HBX : Hid (w1.heap[gb]? = some (.cells #[.int .i64 7, .string name, .slice pa exprs.length pc, .slice na body.length nc, .slice ba els.length bc, .int .i64 pos] 30 (0, 0))) := by rw [hw1, hgb]; exact heap_alloc_new _ _
  have HR : Hid (Bt B w1 v l) := by rw [hw1]; exact HR0.out.alloc _
  have hB1 : B ≤ w1.heap.size := Nat.le_trans hB HBW.out.size
  rw [← hw1, ← hgb]
  clear hw1 hgb
  refine region_sh (valQ v gb 3 (.slice na body.length nc)) (JC B w1 v l [(1, 47, (⟨#[116, 114, 121, 32]⟩ : ByteArray).data.toList), (4, 50, V), (5, 0, [])] 1000 1000 1001 [] 5 0) (by kernel_rfl) (by kernel_rfl) (by kernel_rfl) (JC.start HR.out _ rfl) ?_ ?_
  · intro hon q hq L a1 W hC hl hBh hS hJ K hK
    have hqn : q < 6 := hq
    clear hq
    rcases (show q = 0 ∨ q = 1 ∨ q = 2 ∨ q = 3 ∨ q = 4 ∨ q = 5 from by omega) with rfl | rfl | rfl | rfl | rfl | rfl
    · have hz : L 5 = false := closed_not hC hl (i := 5) (j := 0) rfl (g := .phase) (by simp) rfl
      have e0 := (eval_tmp a1 0).symm.trans (hJ.s0 hz)
      refine wpOp_step rfl (fun K' hK' => ?_)
      go_simp
      exact hK' _ _ (hK _ _ (hS.put hon (i := 0) rfl rfl (fun u hu => by cases hu; rfl)) (hJ.pure (by simp) (by decide)))
    · have n4 : L 4 = false := closed_not hC hl (i := 4) (j := 1) rfl (g := .data) (by simp) rfl
      have n5 : L 5 = false := closed_not hC n4 (i := 5) (j := 4) rfl (g := .data) (by simp) rfl
      have hx : curX L l [(1, 47, (⟨#[116, 114, 121, 32]⟩ : ByteArray).data.toList), (4, 50, V), (5, 0, [])] = l := by simp [curX, hl]
      have e46 := (hS.get hBh (i := 1) rfl 0 (by simp) rfl rfl rfl)
      have ek : ∀ c, a1.eval (Operand.const c) = c := fun c => rfl
      obtain ⟨u, W2, hrun, hT⟩ := hJ.str (C1 := []) (C2 := [(4, 50, V), (5, 0, [])]) (s := (⟨#[116, 114, 121, 32]⟩ : ByteArray)) hB1 (by rw [hS.size]; exact (by decide : (47 : Nat) < 63)) (by simp) hl (by simp [n4, n5]) (by decide) (vc := v) (by simp [cur, hl]) (by refine Nat.le_trans (Nat.add_le_add_right (Nat.le_of_eq (congrArg List.length hx)) _) ?_; first | omega | (show _ + 4 ≤ _; first | omega | (simp; omega)) | (simp; omega)) 38
      refine wpOp_run rfl rfl (v := u) (w' := W2) ?_ (hK _ _ (hS.put hon (i := 1) rfl rfl (fun u hu => by cases hu)) hT)
      simp [execOp, resolve, invoke, builtin, e46, ek, hrun, Result.andThen]
    · have e3 := (eval_tmp a1 3).symm.trans ((hS.kept 3 (by kernel_rfl)).trans rfl)
      refine wpOp_step rfl (fun K' hK' => ?_)
      go_simp
      exact hK' _ _ (hK _ _ (hS.put hon (i := 2) rfl rfl (fun u hu => by cases hu; rfl)) (hJ.pure (by simp) (by decide)))
    · have e48 := (eval_tmp a1 48).symm.trans (hS.get hBh (i := 3) rfl 2 (by simp) rfl rfl rfl)
      have hbx : W.heap[gb]? = _ := HR.out.block (hJ.gr) HBX.out (by decide)
      have hcl2 : W.cell? ⟨gb, 3, none⟩ = some (.slice na body.length nc) := by simp [World.cell?, hbx]
      refine wpOp_step rfl (fun K' hK' => ?_)
      go_simp
      exact hK' _ _ (hK _ _ (hS.put hon (i := 3) rfl rfl (fun u hu => by cases hu; rfl)) (hJ.pure (by simp) (by decide)))
    · have d1 : L 1 = true := hBh _ rfl ⟨1, .data⟩ (by simp) rfl
      have n5 : L 5 = false := closed_not hC hl (i := 5) (j := 4) rfl (g := .data) (by simp) rfl
      obtain ⟨vc, hvc⟩ : ∃ x, a1.eval (.tmp 47) = x := ⟨_, rfl⟩
      have hx : curX L l [(1, 47, (⟨#[116, 114, 121, 32]⟩ : ByteArray).data.toList), (4, 50, V), (5, 0, [])] = l ++ ((⟨#[116, 114, 121, 32]⟩ : ByteArray).data.toList) := by simp [curX, d1, hl]
      have e49 := (eval_tmp a1 49).symm.trans (hS.get hBh (i := 4) rfl 3 (by simp) rfl rfl rfl)
      have hvc2 := (eval_tmp a1 47).symm.trans hvc
      have hrow := hJ.row
      rw [hx] at hrow
      have hcu : cur L a1 v [(1, 47, (⟨#[116, 114, 121, 32]⟩ : ByteArray).data.toList), (4, 50, V), (5, 0, [])] = vc := (by rw [← hvc]; simp [cur, d1, hl])
      rw [hcu] at hrow
      have hgr := hJ.gr
      rw [hcu] at hgr
      have hB2 : B ≤ W.heap.size := Nat.le_trans hB1 hgr.size
      have hbel := HR.out.bel hgr hB1
      refine wpOp_call (f := 57) (args := #[vc, .slice na body.length nc]) (R := fun u W2 => Bt B W2 u (l ++ ((⟨#[116, 114, 121, 32]⟩ : ByteArray).data.toList) ++ (V)) ∧ Gr W W2 vc u) rfl rfl (by simp [execOp, resolve, invoke, e49, hvc2, go_sem]) ((HBB.out W vc _ hrow hB2 ((HBW.out.mono hB).trans hbel) (by first | omega | (simp; omega))).mono fun e W2 ⟨u, h1, h2, h3⟩ => ⟨u, h1, h2, h3⟩) ?_
      rintro u W2 ⟨r1, r2⟩
      exact hK _ _ (hS.put hon (i := 4) rfl rfl (fun u hu => by cases hu)) (hJ.step (C1 := [(1, 47, (⟨#[116, 114, 121, 32]⟩ : ByteArray).data.toList)]) (C2 := [(5, 0, [])]) (by rw [hS.size]; exact (by decide : (50 : Nat) < 63)) (by simp [d1]) hl (by simp [n5]) (by decide) (by show Bt B W2 u (curX L l [(1, 47, (⟨#[116, 114, 121, 32]⟩ : ByteArray).data.toList), (4, 50, V), (5, 0, [])] ++ (V)); rw [hx]; exact r1) (by show Gr W W2 (cur L a1 v [(1, 47, (⟨#[116, 114, 121, 32]⟩ : ByteArray).data.toList), (4, 50, V), (5, 0, [])]) u; rw [hcu]; exact r2))
    · have d4 : L 4 = true := hBh _ rfl ⟨4, .data⟩ (by simp) rfl
      have d1 : L 1 = true := hBh _ rfl ⟨1, .phase⟩ (by simp) rfl
      obtain ⟨vc, hvc⟩ : ∃ x, a1.eval (.tmp 50) = x := ⟨_, rfl⟩
      have hx : curX L l [(1, 47, (⟨#[116, 114, 121, 32]⟩ : ByteArray).data.toList), (4, 50, V), (5, 0, [])] = l ++ ((⟨#[116, 114, 121, 32]⟩ : ByteArray).data.toList) ++ (V) := by simp [curX, d1, d4, hl, List.append_assoc]
      have e9 := (eval_tmp a1 50).symm.trans hvc
      refine wpOp_step rfl (fun K' hK' => ?_)
      go_simp
      exact hK' _ _ (hK _ _ (hS.put hon (i := 5) rfl rfl (fun u hu => by cases hu)) (hJ.hand (C1 := [(1, 47, (⟨#[116, 114, 121, 32]⟩ : ByteArray).data.toList), (4, 50, V)]) (C2 := []) (by rw [hS.size]; exact (by decide : (0 : Nat) < 63)) (by simp [d1, d4]) hl (by simp) (by decide) (by rw [← hvc]; simp [cur, d1, d4, hl])))
  · intro L a1 w2 hl hS hJ
    have d1 : L 1 = true := hl 1 (by decide)
    have d4 : L 4 = true := hl 4 (by decide)
    have d5 : L 5 = true := hl 5 (by decide)
    have hcu : cur L a1 v [(1, 47, (⟨#[116, 114, 121, 32]⟩ : ByteArray).data.toList), (4, 50, V), (5, 0, [])] = a1.eval (.tmp 0) := by simp [cur, d1, d4, d5]
    have hx : curX L l [(1, 47, (⟨#[116, 114, 121, 32]⟩ : ByteArray).data.toList), (4, 50, V), (5, 0, [])] = l ++ ((⟨#[116, 114, 121, 32]⟩ : ByteArray).data.toList) ++ (V) := by simp [curX, d1, d4, d5, List.append_assoc]
    have hrow := hJ.row
    have hgr := hJ.gr
    rw [hcu] at hgr
    rw [hcu, hx] at hrow
    have hfr := hS.frame [46, 47, 48, 49, 50, 0] rfl
    refine (‹∀ (a : Act) (w : World), Code.wp Tryz.prog _ _ a w → _› a1 w2 ?_)
    obtain ⟨z, hz⟩ : ∃ z : Nat → Value, z = fun k => a1.eval (.tmp k) := ⟨_, rfl⟩
    rw [← hz] at hfr
    have ze : a1.eval (.tmp 0) = z 0 := by rw [hz]
    rw [ze] at hrow hgr
    rw [hfr]
    clear hfr ze hz hS hJ hcu hx hl d1 d4 d5
    simp only [over, List.setIfInBounds_toArray, List.set_cons_zero, List.set_cons_succ]
    obtain ⟨v2, hv⟩ : ∃ u, z 0 = u := ⟨_, rfl⟩
    rw [hv] at hrow hgr ⊢
    clear hv
    have r2 := hrow
    have g2 := hgr
    clear hrow hgr
    have HR2 : Hid (Bt B w2 v2 (l ++ [116, 114, 121, 32] ++ V)) := by show Bt _ _ _ _; simpa using r2
    have HG2 : Hid (Gr w1 w2 v v2) := by show Gr _ _ _ _; exact (Gr.refl _ _).trans g2
    have hB2 : B ≤ w2.heap.size := Nat.le_trans hB1 HG2.out.size
    clear r2 g2
    go_wp2_with fail
    refine region_sh (valQ v2 gb 1 (.string name)) (JC B w2 v2 (l ++ [116, 114, 121, 32] ++ V) [(1, 52, (⟨#[32, 99, 97, 116, 99, 104, 32]⟩ : ByteArray).data.toList), (4, 55, name.data.toList), (6, 57, [32]), (7, 0, [])] 5 56 6 [32] 7 0) (by kernel_rfl) (by kernel_rfl) (by kernel_rfl) (JC.start HR2.out _ rfl) ?_ ?_
    · intro hon q hq L a1 W hC hl hBh hS hJ K hK
      have hqn : q < 8 := hq
      clear hq
      rcases (show q = 0 ∨ q = 1 ∨ q = 2 ∨ q = 3 ∨ q = 4 ∨ q = 5 ∨ q = 6 ∨ q = 7 from by omega) with rfl | rfl | rfl | rfl | rfl | rfl | rfl | rfl
      · have hz : L 7 = false := closed_not hC hl (i := 7) (j := 0) rfl (g := .phase) (by simp) rfl
        have e0 := (eval_tmp a1 0).symm.trans (hJ.s0 hz)
        refine wpOp_step rfl (fun K' hK' => ?_)
        go_simp
        exact hK' _ _ (hK _ _ (hS.put hon (i := 0) rfl rfl (fun u hu => by cases hu; rfl)) (hJ.pure (by simp) (by decide)))
      · have n4 : L 4 = false := closed_not hC hl (i := 4) (j := 1) rfl (g := .data) (by simp) rfl
        have n6 : L 6 = false := closed_not hC n4 (i := 6) (j := 4) rfl (g := .data) (by simp) rfl
        have n7 : L 7 = false := closed_not hC n6 (i := 7) (j := 6) rfl (g := .data) (by simp) rfl
        have hx : curX L (l ++ [116, 114, 121, 32] ++ V) [(1, 52, (⟨#[32, 99, 97, 116, 99, 104, 32]⟩ : ByteArray).data.toList), (4, 55, name.data.toList), (6, 57, [32]), (7, 0, [])] = (l ++ [116, 114, 121, 32] ++ V) := by simp [curX, hl]
        have e51 := (hS.get hBh (i := 1) rfl 0 (by simp) rfl rfl rfl)
        have ek : ∀ c, a1.eval (Operand.const c) = c := fun c => rfl
        obtain ⟨u, W2, hrun, hT⟩ := hJ.str (C1 := []) (C2 := [(4, 55, name.data.toList), (6, 57, [32]), (7, 0, [])]) (s := (⟨#[32, 99, 97, 116, 99, 104, 32]⟩ : ByteArray)) hB2 (by rw [hS.size]; exact (by decide : (52 : Nat) < 63)) (by simp) hl (by simp [n4, n6, n7]) (by decide) (vc := v2) (by simp [cur, hl]) (by refine Nat.le_trans (Nat.add_le_add_right (Nat.le_of_eq (congrArg List.length hx)) _) ?_; first | omega | (show _ + 7 ≤ _; first | omega | (simp; omega)) | (simp; omega)) 38
        refine wpOp_run rfl rfl (v := u) (w' := W2) ?_ (hK _ _ (hS.put hon (i := 1) rfl rfl (fun u hu => by cases hu)) hT)
        simp [execOp, resolve, invoke, builtin, e51, ek, hrun, Result.andThen]
      · have e3 := (eval_tmp a1 3).symm.trans ((hS.kept 3 (by kernel_rfl)).trans rfl)
        refine wpOp_step rfl (fun K' hK' => ?_)
        go_simp
        exact hK' _ _ (hK _ _ (hS.put hon (i := 2) rfl rfl (fun u hu => by cases hu; rfl)) (hJ.pure (by simp) (by decide)))
      · have e53 := (eval_tmp a1 53).symm.trans (hS.get hBh (i := 3) rfl 2 (by simp) rfl rfl rfl)
        have hbx : W.heap[gb]? = _ := HR.out.block (HG2.out.trans hJ.gr) HBX.out (by decide)
        have hcl2 : W.cell? ⟨gb, 1, none⟩ = some (.string name) := by simp [World.cell?, hbx]
        refine wpOp_step rfl (fun K' hK' => ?_)
        go_simp
        exact hK' _ _ (hK _ _ (hS.put hon (i := 3) rfl rfl (fun u hu => by cases hu; rfl)) (hJ.pure (by simp) (by decide)))
      · have d1 : L 1 = true := hBh _ rfl ⟨1, .data⟩ (by simp) rfl
        have n6 : L 6 = false := closed_not hC hl (i := 6) (j := 4) rfl (g := .data) (by simp) rfl
        have n7 : L 7 = false := closed_not hC n6 (i := 7) (j := 6) rfl (g := .data) (by simp) rfl
        obtain ⟨vc, hvc⟩ : ∃ x, a1.eval (.tmp 52) = x := ⟨_, rfl⟩
        have hx : curX L (l ++ [116, 114, 121, 32] ++ V) [(1, 52, (⟨#[32, 99, 97, 116, 99, 104, 32]⟩ : ByteArray).data.toList), (4, 55, name.data.toList), (6, 57, [32]), (7, 0, [])] = (l ++ [116, 114, 121, 32] ++ V) ++ ((⟨#[32, 99, 97, 116, 99, 104, 32]⟩ : ByteArray).data.toList) := by simp [curX, d1, hl]
        have e54 := (hS.get hBh (i := 4) rfl 3 (by simp) rfl rfl rfl)
        obtain ⟨u, W2, hrun, hT⟩ := hJ.str (C1 := [(1, 52, (⟨#[32, 99, 97, 116, 99, 104, 32]⟩ : ByteArray).data.toList)]) (C2 := [(6, 57, [32]), (7, 0, [])]) (s := name) hB2 (by rw [hS.size]; exact (by decide : (55 : Nat) < 63)) (by simp [d1]) hl (by simp [n6, n7]) (by decide) (vc := vc) (by rw [← hvc]; simp [cur, d1, hl]) (by refine Nat.le_trans (Nat.add_le_add_right (Nat.le_of_eq (congrArg List.length hx)) _) ?_; first | omega | (show _ + 7 ≤ _; first | omega | (simp; omega)) | (simp; omega)) 38
        refine wpOp_run rfl rfl (v := u) (w' := W2) ?_ (hK _ _ (hS.put hon (i := 4) rfl rfl (fun u hu => by cases hu)) hT)
        simp [execOp, resolve, invoke, builtin, e54, hvc, hrun, Result.andThen]
      · refine wpOp_step rfl (fun K' hK' => ?_)
        go_simp
        exact hK' _ _ (hK _ _ (hS.put hon (i := 5) rfl rfl (fun u hu => by cases hu)) (hJ.build (by simp) (by decide) (by rw [hS.size]; exact (by decide : (56 : Nat) < 63)) rfl rfl))
      · have d4 : L 4 = true := hBh _ rfl ⟨4, .data⟩ (by simp) rfl
        have d1 : L 1 = true := hC 4 _ rfl d4 ⟨1, .data⟩ (by simp) rfl
        have n7 : L 7 = false := closed_not hC hl (i := 7) (j := 6) rfl (g := .data) (by simp) rfl
        obtain ⟨vc, hvc⟩ : ∃ x, a1.eval (.tmp 55) = x := ⟨_, rfl⟩
        have hx : curX L (l ++ [116, 114, 121, 32] ++ V) [(1, 52, (⟨#[32, 99, 97, 116, 99, 104, 32]⟩ : ByteArray).data.toList), (4, 55, name.data.toList), (6, 57, [32]), (7, 0, [])] = (l ++ [116, 114, 121, 32] ++ V) ++ ((⟨#[32, 99, 97, 116, 99, 104, 32]⟩ : ByteArray).data.toList) ++ (name.data.toList) := by simp [curX, d1, d4, hl, List.append_assoc]
        have hbi : L 5 = true := hBh _ rfl ⟨5, .data⟩ (by simp) rfl
        obtain ⟨g, u, W2, hge, hrun, hT⟩ := hJ.put (C1 := [(1, 52, (⟨#[32, 99, 97, 116, 99, 104, 32]⟩ : ByteArray).data.toList), (4, 55, name.data.toList)]) (C2 := [(7, 0, [])]) hB2 (by rw [hS.size]; exact (by decide : (57 : Nat) < 63)) (by simp [d1, d4]) hl hbi (by simp [n7]) (by decide) (k := 1) rfl (by decide) (vc := vc) (by rw [← hvc]; simp [cur, d1, d4, hl]) (by refine Nat.le_trans (Nat.add_le_add_right (Nat.le_of_eq (congrArg List.length hx)) _) ?_; first | omega | (show _ + 7 ≤ _; first | omega | (simp; omega)) | (simp; omega)) 38
        refine wpOp_run rfl rfl (v := u) (w' := W2) ?_ (hK _ _ (hS.put hon (i := 6) rfl rfl (fun u hu => by cases hu)) hT)
        simp [execOp, resolve, invoke, builtin, hvc, hge, hrun, Result.andThen]
      · have d6 : L 6 = true := hBh _ rfl ⟨6, .data⟩ (by simp) rfl
        have d4 : L 4 = true := hBh _ rfl ⟨4, .phase⟩ (by simp) rfl
        have d1 : L 1 = true := hBh _ rfl ⟨1, .phase⟩ (by simp) rfl
        obtain ⟨vc, hvc⟩ : ∃ x, a1.eval (.tmp 57) = x := ⟨_, rfl⟩
        have hx : curX L (l ++ [116, 114, 121, 32] ++ V) [(1, 52, (⟨#[32, 99, 97, 116, 99, 104, 32]⟩ : ByteArray).data.toList), (4, 55, name.data.toList), (6, 57, [32]), (7, 0, [])] = (l ++ [116, 114, 121, 32] ++ V) ++ ((⟨#[32, 99, 97, 116, 99, 104, 32]⟩ : ByteArray).data.toList) ++ (name.data.toList) ++ ([32]) := by simp [curX, d1, d4, d6, hl, List.append_assoc]
        have e9 := (eval_tmp a1 57).symm.trans hvc
        refine wpOp_step rfl (fun K' hK' => ?_)
        go_simp
        exact hK' _ _ (hK _ _ (hS.put hon (i := 7) rfl rfl (fun u hu => by cases hu)) (hJ.hand (C1 := [(1, 52, (⟨#[32, 99, 97, 116, 99, 104, 32]⟩ : ByteArray).data.toList), (4, 55, name.data.toList), (6, 57, [32])]) (C2 := []) (by rw [hS.size]; exact (by decide : (0 : Nat) < 63)) (by simp [d1, d4, d6]) hl (by simp) (by decide) (by rw [← hvc]; simp [cur, d1, d4, d6, hl])))
    · intro L a1 w3 hl hS hJ
      have d1 : L 1 = true := hl 1 (by decide)
      have d4 : L 4 = true := hl 4 (by decide)
      have d6 : L 6 = true := hl 6 (by decide)
      have d7 : L 7 = true := hl 7 (by decide)
      have hcu : cur L a1 v2 [(1, 52, (⟨#[32, 99, 97, 116, 99, 104, 32]⟩ : ByteArray).data.toList), (4, 55, name.data.toList), (6, 57, [32]), (7, 0, [])] = a1.eval (.tmp 0) := by simp [cur, d1, d4, d6, d7]
      have hx : curX L (l ++ [116, 114, 121, 32] ++ V) [(1, 52, (⟨#[32, 99, 97, 116, 99, 104, 32]⟩ : ByteArray).data.toList), (4, 55, name.data.toList), (6, 57, [32]), (7, 0, [])] = (l ++ [116, 114, 121, 32] ++ V) ++ ((⟨#[32, 99, 97, 116, 99, 104, 32]⟩ : ByteArray).data.toList) ++ (name.data.toList) ++ ([32]) := by simp [curX, d1, d4, d6, d7, List.append_assoc]
      have hrow := hJ.row
      have hgr := hJ.gr
      rw [hcu] at hgr
      rw [hcu, hx] at hrow
      have hfr := hS.frame [51, 52, 53, 54, 55, 56, 57, 0] rfl
      refine (‹∀ (a : Act) (w : World), Code.wp Tryz.prog _ _ a w → _› a1 w3 ?_)
      obtain ⟨z, hz⟩ : ∃ z : Nat → Value, z = fun k => a1.eval (.tmp k) := ⟨_, rfl⟩
      rw [← hz] at hfr
      have ze : a1.eval (.tmp 0) = z 0 := by rw [hz]
      rw [ze] at hrow hgr
      rw [hfr]
      clear hfr ze hz hS hJ hcu hx hl d1 d4 d6 d7
      simp only [over, List.setIfInBounds_toArray, List.set_cons_zero, List.set_cons_succ]
      obtain ⟨v3, hv⟩ : ∃ u, z 0 = u := ⟨_, rfl⟩
      rw [hv] at hrow hgr ⊢
      clear hv
      have r3 := hrow
      have g3 := hgr
      clear hrow hgr
      have HR3 : Hid (Bt B w3 v3 (l ++ [116, 114, 121, 32] ++ V ++ [32, 99, 97, 116, 99, 104, 32] ++ name.data.toList ++ [32])) := by show Bt _ _ _ _; simpa using r3
      have HG3 : Hid (Gr w1 w3 v v3) := by show Gr _ _ _ _; exact (HG2.out).trans g3
      have hB3 : B ≤ w3.heap.size := Nat.le_trans hB1 HG3.out.size
      clear r3 g3
      have hbx3 : w3.heap[gb]? = _ := HR.out.block (HG3.out) HBX.out (by decide)
      have hc3_4 : w3.cell? ⟨gb, 4, none⟩ = some (.slice ba els.length bc) := by simp [World.cell?, hbx3]
      clear hbx3
      go_wp2_with fail
      refine (HBE.out _ _ _ HR3.out hB3 ((HBW.out.mono hB).trans (HR.out.bel (HG3.out) hB1)) (by first | omega | (simp; omega))).mono ?_
      rintro e w4 ⟨v4, rfl, r4, g4⟩
      have HR4 : Hid (Bt B w4 v4 (l ++ [116, 114, 121, 32] ++ V ++ [32, 99, 97, 116, 99, 104, 32] ++ name.data.toList ++ [32] ++ U)) := by show Bt _ _ _ _; simpa using r4
      have HG4 : Hid (Gr w1 w4 v v4) := by show Gr _ _ _ _; exact (HG3.out).trans g4
      have hB4 : B ≤ w4.heap.size := Nat.le_trans hB1 HG4.out.size
      clear r4 g4
      have HRz : Hid (Bt B w4 v4 (l ++ ([116, 114, 121, 32] ++ V ++ [32, 99, 97, 116, 99, 104, 32] ++ name.data.toList ++ [32] ++ U))) := by show Bt _ _ _ _; simpa using HR4.out
      have HGz : Hid (Gr w w4 v v4) := by show Gr _ _ _ _; exact (HG4.out).pre HBW.out (fun k hk => (HR0.out.lt k hk).2)
      go_wp2
      go_ret
      exact ⟨v4, rfl, HRz.out, HGz.out⟩
end Go.Proofs.YtpgbfkdknggceaaGreatDoor

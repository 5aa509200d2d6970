/-
  Package tree's addSimple: a statement without blocks, behind a row.
  Conditions: as each theorem says.
-/
import Derived.Test.YtpgbfkdknggceaaGreatDoorTrField
namespace Go.Proofs.YtpgbfkdknggceaaGreatDoor
open Go.RowKit TM
set_option linter.unusedVariables false
section
variable {B : Nat} {w w' : World} {v v' : Value} {l : Bs}
theorem Gr.set (h : Gr w w' v v') {p : Addr} (hp : w.heap.size ≤ p.block) (x : Value) : Gr w (w'.setCell p x) v v' :=
  ⟨⟨h.g.os, h.g.tape, h.g.output, by simp [World.setCell]; exact h.size, fun j hj hn => (Below.heap_setCell _ _ _ _ (by omega)).trans (h.g.block j hj hn)⟩, h.o⟩
theorem Bt.set (h : Bt B w v l) {p : Addr} (hp : v.ownBlock ≠ some p.block) (x : Value) : Bt B (w.setCell p x) v l := by
  refine ⟨h.1, ?_⟩
  rcases h.2 with h0 | ⟨g, cap, cur, rfl, hg, hh, r⟩
  · exact .inl h0
  · exact .inr ⟨g, cap, cur, rfl, hg, (Below.heap_setCell _ _ _ _ (fun e => hp (by simp [Value.ownBlock, e]))).trans hh, r⟩
end
def valL (v : Value) (gb : Nat) (x : Value) : Nat → Option Value
  | 0 => some v
  | 2 => some (.pointer (some ⟨gb, 1, none⟩))
  | 3 => some x
  | _ => none
set_option maxRecDepth 100000 in
set_option maxHeartbeats 4000000 in
theorem addSimpleLet {n : Nat} (hA : Small n) {name : ByteArray} {exprs : List TE} {body els : List TS} {pos : Int} (hsz : szS (.mk 0 name exprs body els pos) ≤ n)
    {B : Nat} {w : World} {v : Value} {l : Bs} {vx vb ve : Value} (hR : Bt B w v l) (hB : B ≤ w.heap.size) (hG : Lg B w) (hE : SIn (· < B) w (.mk 0 name exprs body els pos) vx vb ve) (hl : l.length + (simpleT 0 name (txEs exprs)).length ≤ 1000000000) :
    Calls Tryz.prog 36 #[v, stV (.mk 0 name exprs body els pos) vx vb ve] w fun en w' => ∃ v', en = .returned v' ∧ Bt B w' v' (l ++ simpleT 0 name (txEs exprs)) ∧ Gr w w' v v' := by
  have hszx : szEs exprs < n := by unfold szS at hsz; omega
  have hszb : szSs body < n := by unfold szS at hsz; omega
  have hsze : szSs els < n := by unfold szS at hsz; omega
  have hE2 := hE
  obtain ⟨hk8, ⟨pa, pc, rfl, hpc1, hpc2, hpg⟩, ⟨na, nc, rfl, hnc1, hnc2, hng⟩, ⟨ba, bc, rfl, hbc1, hbc2, hbg⟩⟩ := hE2
  unfold maxLen at hpc2 hnc2 hbc2
  obtain ⟨x, hx⟩ := pack hA (show EsIn B w _ exprs from hE.2.1) hB hG 0 (by omega) hszx
  have hT : simpleT 0 name (txEs exprs) = [108, 101, 116, 32] ++ name.data.toList ++ [32, 61, 32] ++ pt (txEs exprs) 0 := rfl
  rw [hT] at hl ⊢
  clear hT
  generalize pt (txEs exprs) 0 = T at hl hx ⊢
  have hnm : name.data.toList.length = name.size := rfl
  have hlT : l.length + T.length + name.size + 7 ≤ 1000000000 := by have h2 := hnm; simp at hl h2; omega
  obtain ⟨op2, num2, text2, a2, b2, c2, n1, m1, n2, m2, n3, m3, rfl⟩ := hx.six
  have HX : Hid (Pk B w (.slice pa exprs.length pc) 0 T (.agg #[.int .i64 op2, .int .i64 num2, .string text2, .slice a2 n1 m1, .slice b2 n2 m2, .slice c2 n3 m3])) := hx
  have HR0 : Hid (Bt B w v l) := hR
  clear hE hl hA hsz hszx hszb hsze hR hG hpc1 hpc2 hpg hnc1 hnc2 hng hbc1 hbg hx hbc2 hnm
  unfold stV
  go_enter Tryz.func36, Tryz.ntmps36
  go_wp2_with fail
  obtain ⟨w1, hw1⟩ : ∃ w1, w1 = w.alloc (.cells #[.int .i64 0, .string name, .slice pa exprs.length pc, .slice na body.length nc, .slice ba els.length bc, .int .i64 pos] 30) := ⟨_, rfl⟩
  obtain ⟨gb, hgb⟩ : ∃ gb, gb = w.heap.size := ⟨_, rfl⟩
  have HBW1 : Hid (Below w.heap.size w w1) := by rw [hw1]; exact (Below.refl _ _).alloc (Nat.le_refl _) _
  have HBX1 : Hid (w1.heap[gb]? = some (.cells #[.int .i64 0, .string name, .slice pa exprs.length pc, .slice na body.length nc, .slice ba els.length bc, .int .i64 pos] 30 (0, 0))) := by rw [hw1, hgb]; exact heap_alloc_new _ _
  rw [← hw1, ← hgb]
  clear hw1 hgb
  refine (HX.out.part _ (HBW1.out.mono hB)).mono ?_
  rintro e w2 ⟨rfl, b2w⟩
  have HBW2 : Hid (Below w.heap.size w w2) := HBW1.out.trans (b2w.mono HBW1.out.size)
  have HBX2 : Hid (w2.heap[gb]? = some (.cells #[.int .i64 0, .string name, .slice pa exprs.length pc, .slice na body.length nc, .slice ba els.length bc, .int .i64 pos] 30 (0, 0))) := by show _ = _; rw [b2w.block gb (Array.getElem?_eq_some_iff.1 HBX1.out).1]; exact HBX1.out
  clear b2w HBX1 HBW1
  have hbx2 := HBX2.out
  have hcx : w2.cell? ⟨gb, 0, none⟩ = some (.int .i64 0) := by simp [World.cell?, hbx2]
  have hgb2 : gb < w2.heap.size := (Array.getElem?_eq_some_iff.1 hbx2).1
  have hcy : w2.cell? ⟨gb, 1, none⟩ = some (.string name) := by simp [World.cell?, hbx2]
  clear hbx2
  go_wp2_with fail
  obtain ⟨w3, hw3⟩ : ∃ w3, w3 = w2.alloc (.cells #[.int .i64 op2, .int .i64 num2, .string text2, .slice a2 n1 m1, .slice b2 n2 m2, .slice c2 n3 m3] 35) := ⟨_, rfl⟩
  obtain ⟨gv, hgv⟩ : ∃ gv, gv = w2.heap.size := ⟨_, rfl⟩
  have HBW : Hid (Below w.heap.size w w3) := by rw [hw3]; exact HBW2.out.alloc HBW2.out.size _
  have HBX : Hid (w3.heap[gb]? = some (.cells #[.int .i64 0, .string name, .slice pa exprs.length pc, .slice na body.length nc, .slice ba els.length bc, .int .i64 pos] 30 (0, 0))) := by show _ = _; rw [hw3, Below.heap_alloc _ _ _ hgb2]; exact HBX2.out
  have HBV : Hid (w3.heap[gv]? = some (.cells #[.int .i64 op2, .int .i64 num2, .string text2, .slice a2 n1 m1, .slice b2 n2 m2, .slice c2 n3 m3] 35 (0, 0))) := by rw [hw3, hgv]; exact heap_alloc_new _ _
  have hwv : w.heap.size ≤ gv := by rw [hgv]; exact HBW2.out.size
  have HR : Hid (Bt B w3 v l) := by rw [hw3]; exact (HR0.out.below HBW2.out).alloc _
  have hB1 : B ≤ w3.heap.size := Nat.le_trans hB HBW.out.size
  rw [← hw3, ← hgv]
  clear hw3 hgv HBX2 hcx hgb2 hcy
  refine region_sh (valL v gb (.string name)) (JC B w3 v l [(1, 14, (⟨#[108, 101, 116, 32]⟩ : ByteArray).data.toList), (4, 17, name.data.toList), (5, 18, (⟨#[32, 61, 32]⟩ : ByteArray).data.toList), (6, 0, [])] 1000 1000 1001 [] 6 0) (by kernel_rfl) (by kernel_rfl) (by kernel_rfl) (JC.start HR.out _ rfl) ?_ ?_
  · intro hon q hq L a1 W hC hl hBh hS hJ K hK
    have hqn : q < 7 := hq
    clear hq
    rcases (show q = 0 ∨ q = 1 ∨ q = 2 ∨ q = 3 ∨ q = 4 ∨ q = 5 ∨ q = 6 from by omega) with rfl | rfl | rfl | rfl | rfl | rfl | rfl
    · have hz : L 6 = false := closed_not hC hl (i := 6) (j := 0) rfl (g := .phase) (by simp) rfl
      have e0 := (eval_tmp a1 0).symm.trans (hJ.s0 hz)
      refine wpOp_step rfl (fun K' hK' => ?_)
      go_simp
      exact hK' _ _ (hK _ _ (hS.put hon (i := 0) rfl rfl (fun u hu => by cases hu; rfl)) (hJ.pure (by simp) (by decide)))
    · have n4 : L 4 = false := closed_not hC hl (i := 4) (j := 1) rfl (g := .data) (by simp) rfl
      have n5 : L 5 = false := closed_not hC n4 (i := 5) (j := 4) rfl (g := .data) (by simp) rfl
      have n6 : L 6 = false := closed_not hC n5 (i := 6) (j := 5) rfl (g := .data) (by simp) rfl
      have hx : curX L l [(1, 14, (⟨#[108, 101, 116, 32]⟩ : ByteArray).data.toList), (4, 17, name.data.toList), (5, 18, (⟨#[32, 61, 32]⟩ : ByteArray).data.toList), (6, 0, [])] = l := by simp [curX, hl]
      have e13 := (hS.get hBh (i := 1) rfl 0 (by simp) rfl rfl rfl)
      have ek : ∀ c, a1.eval (Operand.const c) = c := fun c => rfl
      obtain ⟨u, W2, hrun, hT⟩ := hJ.str (C1 := []) (C2 := [(4, 17, name.data.toList), (5, 18, (⟨#[32, 61, 32]⟩ : ByteArray).data.toList), (6, 0, [])]) (s := (⟨#[108, 101, 116, 32]⟩ : ByteArray)) hB1 (by rw [hS.size]; exact (by decide : (14 : Nat) < 47)) (by simp) hl (by simp [n4, n5, n6]) (by decide) (vc := v) (by simp [cur, hl]) (by refine Nat.le_trans (Nat.add_le_add_right (Nat.le_of_eq (congrArg List.length hx)) _) ?_; first | omega | (show _ + 4 ≤ _; first | omega | (simp; omega)) | (show _ + 3 ≤ _; first | omega | (simp; omega)) | (simp; omega)) 38
      refine wpOp_run rfl rfl (v := u) (w' := W2) ?_ (hK _ _ (hS.put hon (i := 1) rfl rfl (fun u hu => by cases hu)) hT)
      simp [execOp, resolve, invoke, builtin, e13, ek, hrun, Result.andThen]
    · have e3 := (eval_tmp a1 3).symm.trans ((hS.kept 3 (by kernel_rfl)).trans rfl)
      refine wpOp_step rfl (fun K' hK' => ?_)
      go_simp
      exact hK' _ _ (hK _ _ (hS.put hon (i := 2) rfl rfl (fun u hu => by cases hu; rfl)) (hJ.pure (by simp) (by decide)))
    · have e15 := (eval_tmp a1 15).symm.trans (hS.get hBh (i := 3) rfl 2 (by simp) rfl rfl rfl)
      have hbx : W.heap[gb]? = _ := HR.out.block (hJ.gr) HBX.out (by decide)
      have hcl2 : W.cell? ⟨gb, 1, none⟩ = some (.string name) := by simp [World.cell?, hbx]
      refine wpOp_step rfl (fun K' hK' => ?_)
      go_simp
      exact hK' _ _ (hK _ _ (hS.put hon (i := 3) rfl rfl (fun u hu => by cases hu; rfl)) (hJ.pure (by simp) (by decide)))
    · have d1 : L 1 = true := hBh _ rfl ⟨1, .data⟩ (by simp) rfl
      have n5 : L 5 = false := closed_not hC hl (i := 5) (j := 4) rfl (g := .data) (by simp) rfl
      have n6 : L 6 = false := closed_not hC n5 (i := 6) (j := 5) rfl (g := .data) (by simp) rfl
      obtain ⟨vc, hvc⟩ : ∃ x, a1.eval (.tmp 14) = x := ⟨_, rfl⟩
      have hx : curX L l [(1, 14, (⟨#[108, 101, 116, 32]⟩ : ByteArray).data.toList), (4, 17, name.data.toList), (5, 18, (⟨#[32, 61, 32]⟩ : ByteArray).data.toList), (6, 0, [])] = l ++ ((⟨#[108, 101, 116, 32]⟩ : ByteArray).data.toList) := by simp [curX, d1, hl]
      have e16 := (hS.get hBh (i := 4) rfl 3 (by simp) rfl rfl rfl)
      obtain ⟨u, W2, hrun, hT⟩ := hJ.str (C1 := [(1, 14, (⟨#[108, 101, 116, 32]⟩ : ByteArray).data.toList)]) (C2 := [(5, 18, (⟨#[32, 61, 32]⟩ : ByteArray).data.toList), (6, 0, [])]) (s := name) hB1 (by rw [hS.size]; exact (by decide : (17 : Nat) < 47)) (by simp [d1]) hl (by simp [n5, n6]) (by decide) (vc := vc) (by rw [← hvc]; simp [cur, d1, hl]) (by refine Nat.le_trans (Nat.add_le_add_right (Nat.le_of_eq (congrArg List.length hx)) _) ?_; first | omega | (show _ + 4 ≤ _; first | omega | (simp; omega)) | (show _ + 3 ≤ _; first | omega | (simp; omega)) | (simp; omega)) 38
      refine wpOp_run rfl rfl (v := u) (w' := W2) ?_ (hK _ _ (hS.put hon (i := 4) rfl rfl (fun u hu => by cases hu)) hT)
      simp [execOp, resolve, invoke, builtin, e16, hvc, hrun, Result.andThen]
    · have d4 : L 4 = true := hBh _ rfl ⟨4, .data⟩ (by simp) rfl
      have d1 : L 1 = true := hC 4 _ rfl d4 ⟨1, .data⟩ (by simp) rfl
      have n6 : L 6 = false := closed_not hC hl (i := 6) (j := 5) rfl (g := .data) (by simp) rfl
      obtain ⟨vc, hvc⟩ : ∃ x, a1.eval (.tmp 17) = x := ⟨_, rfl⟩
      have hx : curX L l [(1, 14, (⟨#[108, 101, 116, 32]⟩ : ByteArray).data.toList), (4, 17, name.data.toList), (5, 18, (⟨#[32, 61, 32]⟩ : ByteArray).data.toList), (6, 0, [])] = l ++ ((⟨#[108, 101, 116, 32]⟩ : ByteArray).data.toList) ++ (name.data.toList) := by simp [curX, d1, d4, hl, List.append_assoc]
      have ek : ∀ c, a1.eval (Operand.const c) = c := fun c => rfl
      obtain ⟨u, W2, hrun, hT⟩ := hJ.str (C1 := [(1, 14, (⟨#[108, 101, 116, 32]⟩ : ByteArray).data.toList), (4, 17, name.data.toList)]) (C2 := [(6, 0, [])]) (s := (⟨#[32, 61, 32]⟩ : ByteArray)) hB1 (by rw [hS.size]; exact (by decide : (18 : Nat) < 47)) (by simp [d1, d4]) hl (by simp [n6]) (by decide) (vc := vc) (by rw [← hvc]; simp [cur, d1, d4, hl]) (by refine Nat.le_trans (Nat.add_le_add_right (Nat.le_of_eq (congrArg List.length hx)) _) ?_; first | omega | (show _ + 4 ≤ _; first | omega | (simp; omega)) | (show _ + 3 ≤ _; first | omega | (simp; omega)) | (simp; omega)) 38
      refine wpOp_run rfl rfl (v := u) (w' := W2) ?_ (hK _ _ (hS.put hon (i := 5) rfl rfl (fun u hu => by cases hu)) hT)
      simp [execOp, resolve, invoke, builtin, hvc, ek, hrun, Result.andThen]
    · have d5 : L 5 = true := hBh _ rfl ⟨5, .data⟩ (by simp) rfl
      have d4 : L 4 = true := hBh _ rfl ⟨4, .phase⟩ (by simp) rfl
      have d1 : L 1 = true := hBh _ rfl ⟨1, .phase⟩ (by simp) rfl
      obtain ⟨vc, hvc⟩ : ∃ x, a1.eval (.tmp 18) = x := ⟨_, rfl⟩
      have hx : curX L l [(1, 14, (⟨#[108, 101, 116, 32]⟩ : ByteArray).data.toList), (4, 17, name.data.toList), (5, 18, (⟨#[32, 61, 32]⟩ : ByteArray).data.toList), (6, 0, [])] = l ++ ((⟨#[108, 101, 116, 32]⟩ : ByteArray).data.toList) ++ (name.data.toList) ++ ((⟨#[32, 61, 32]⟩ : ByteArray).data.toList) := by simp [curX, d1, d4, d5, hl, List.append_assoc]
      have e9 := (eval_tmp a1 18).symm.trans hvc
      refine wpOp_step rfl (fun K' hK' => ?_)
      go_simp
      exact hK' _ _ (hK _ _ (hS.put hon (i := 6) rfl rfl (fun u hu => by cases hu)) (hJ.hand (C1 := [(1, 14, (⟨#[108, 101, 116, 32]⟩ : ByteArray).data.toList), (4, 17, name.data.toList), (5, 18, (⟨#[32, 61, 32]⟩ : ByteArray).data.toList)]) (C2 := []) (by rw [hS.size]; exact (by decide : (0 : Nat) < 47)) (by simp [d1, d4, d5]) hl (by simp) (by decide) (by rw [← hvc]; simp [cur, d1, d4, d5, hl])))
  · intro L a1 w4 hl hS hJ
    have d1 : L 1 = true := hl 1 (by decide)
    have d4 : L 4 = true := hl 4 (by decide)
    have d5 : L 5 = true := hl 5 (by decide)
    have d6 : L 6 = true := hl 6 (by decide)
    have hcu : cur L a1 v [(1, 14, (⟨#[108, 101, 116, 32]⟩ : ByteArray).data.toList), (4, 17, name.data.toList), (5, 18, (⟨#[32, 61, 32]⟩ : ByteArray).data.toList), (6, 0, [])] = a1.eval (.tmp 0) := by simp [cur, d1, d4, d5, d6]
    have hx : curX L l [(1, 14, (⟨#[108, 101, 116, 32]⟩ : ByteArray).data.toList), (4, 17, name.data.toList), (5, 18, (⟨#[32, 61, 32]⟩ : ByteArray).data.toList), (6, 0, [])] = l ++ ((⟨#[108, 101, 116, 32]⟩ : ByteArray).data.toList) ++ (name.data.toList) ++ ((⟨#[32, 61, 32]⟩ : ByteArray).data.toList) := by simp [curX, d1, d4, d5, d6, List.append_assoc]
    have hrow := hJ.row
    have hgr := hJ.gr
    rw [hcu] at hgr
    rw [hcu, hx] at hrow
    have hfr := hS.frame [13, 14, 15, 16, 17, 18, 0] rfl
    refine (‹∀ (a : Act) (w : World), Code.wp Tryz.prog _ _ a w → _› a1 w4 ?_)
    obtain ⟨z, hz⟩ : ∃ z : Nat → Value, z = fun k => a1.eval (.tmp k) := ⟨_, rfl⟩
    rw [← hz] at hfr
    have ze : a1.eval (.tmp 0) = z 0 := by rw [hz]
    rw [ze] at hrow hgr
    rw [hfr]
    clear hfr ze hz hS hJ hcu hx hl d1 d4 d5 d6
    simp only [over, List.setIfInBounds_toArray, List.set_cons_zero, List.set_cons_succ]
    obtain ⟨v4, hv⟩ : ∃ u, z 0 = u := ⟨_, rfl⟩
    rw [hv] at hrow hgr ⊢
    clear hv
    have r4 := hrow
    have g4 := hgr
    clear hrow hgr
    have HR4 : Hid (Bt B w4 v4 (l ++ [108, 101, 116, 32] ++ name.data.toList ++ [32, 61, 32])) := by show Bt _ _ _ _; simpa using r4
    have HG4 : Hid (Gr w3 w4 v v4) := by show Gr _ _ _ _; exact (Gr.refl _ _).trans g4
    have hB4 : B ≤ w4.heap.size := Nat.le_trans hB1 HG4.out.size
    clear r4 g4
    have hbv : w4.heap[gv]? = _ := HR.out.block (HG4.out) HBV.out (by decide)
    have hv0 : w4.cell? ⟨gv, 0, none⟩ = some (.int .i64 op2) := by simp [World.cell?, hbv]
    have hv1 : w4.cell? ⟨gv, 1, none⟩ = some (.int .i64 num2) := by simp [World.cell?, hbv]
    have hv2 : w4.cell? ⟨gv, 2, none⟩ = some (.string text2) := by simp [World.cell?, hbv]
    have hv3 : w4.cell? ⟨gv, 3, none⟩ = some (.slice a2 n1 m1) := by simp [World.cell?, hbv]
    have hv4 : w4.cell? ⟨gv, 4, none⟩ = some (.slice b2 n2 m2) := by simp [World.cell?, hbv]
    have hv5 : w4.cell? ⟨gv, 5, none⟩ = some (.slice c2 n3 m3) := by simp [World.cell?, hbv]
    clear hbv
    go_wp2_with fail
    refine (HX.out.add _ _ _ HR4.out hB4 ((HBW.out.mono hB).trans (HR.out.bel (HG4.out) hB1)) (by first | omega | (simp; omega))).mono ?_
    rintro e w5 ⟨v5, rfl, r5, g5⟩
    have HR5 : Hid (Bt B w5 v5 (l ++ [108, 101, 116, 32] ++ name.data.toList ++ [32, 61, 32] ++ T)) := by show Bt _ _ _ _; simpa using r5
    have HG5 : Hid (Gr w3 w5 v v5) := by show Gr _ _ _ _; exact (HG4.out).trans g5
    have hB5 : B ≤ w5.heap.size := Nat.le_trans hB1 HG5.out.size
    clear r5 g5
    have HRz : Hid (Bt B w5 v5 (l ++ ([108, 101, 116, 32] ++ name.data.toList ++ [32, 61, 32] ++ T))) := by show Bt _ _ _ _; simpa using HR5.out
    have HGz : Hid (Gr w w5 v v5) := by show Gr _ _ _ _; exact (HG5.out).pre HBW.out (fun k hk => (HR0.out.lt k hk).2)
    go_wp2
    go_ret
    exact ⟨v5, rfl, HRz.out, HGz.out⟩
set_option maxRecDepth 100000 in
set_option maxHeartbeats 4000000 in
theorem addSimpleSet {n : Nat} (hA : Small n) {name : ByteArray} {exprs : List TE} {body els : List TS} {pos : Int} (hsz : szS (.mk 1 name exprs body els pos) ≤ n)
    {B : Nat} {w : World} {v : Value} {l : Bs} {vx vb ve : Value} (hR : Bt B w v l) (hB : B ≤ w.heap.size) (hG : Lg B w) (hE : SIn (· < B) w (.mk 1 name exprs body els pos) vx vb ve) (hl : l.length + (simpleT 1 name (txEs exprs)).length ≤ 1000000000) :
    Calls Tryz.prog 36 #[v, stV (.mk 1 name exprs body els pos) vx vb ve] w fun en w' => ∃ v', en = .returned v' ∧ Bt B w' v' (l ++ simpleT 1 name (txEs exprs)) ∧ Gr w w' v v' := by
  have hszx : szEs exprs < n := by unfold szS at hsz; omega
  have hszb : szSs body < n := by unfold szS at hsz; omega
  have hsze : szSs els < n := by unfold szS at hsz; omega
  have hE2 := hE
  obtain ⟨hk8, ⟨pa, pc, rfl, hpc1, hpc2, hpg⟩, ⟨na, nc, rfl, hnc1, hnc2, hng⟩, ⟨ba, bc, rfl, hbc1, hbc2, hbg⟩⟩ := hE2
  unfold maxLen at hpc2 hnc2 hbc2
  obtain ⟨x, hx⟩ := pack hA (show EsIn B w _ exprs from hE.2.1) hB hG 0 (by omega) hszx
  have hT : simpleT 1 name (txEs exprs) = name.data.toList ++ [32, 61, 32] ++ pt (txEs exprs) 0 := rfl
  rw [hT] at hl ⊢
  clear hT
  generalize pt (txEs exprs) 0 = T at hl hx ⊢
  have hnm : name.data.toList.length = name.size := rfl
  have hlT : l.length + T.length + name.size + 3 ≤ 1000000000 := by have h2 := hnm; simp at hl h2; omega
  obtain ⟨op2, num2, text2, a2, b2, c2, n1, m1, n2, m2, n3, m3, rfl⟩ := hx.six
  have HX : Hid (Pk B w (.slice pa exprs.length pc) 0 T (.agg #[.int .i64 op2, .int .i64 num2, .string text2, .slice a2 n1 m1, .slice b2 n2 m2, .slice c2 n3 m3])) := hx
  have HR0 : Hid (Bt B w v l) := hR
  clear hE hl hA hsz hszx hszb hsze hR hG hpc1 hpc2 hpg hnc1 hnc2 hng hbc1 hbg hx hbc2 hnm
  unfold stV
  go_enter Tryz.func36, Tryz.ntmps36
  go_wp2_with fail
  obtain ⟨w1, hw1⟩ : ∃ w1, w1 = w.alloc (.cells #[.int .i64 1, .string name, .slice pa exprs.length pc, .slice na body.length nc, .slice ba els.length bc, .int .i64 pos] 30) := ⟨_, rfl⟩
  obtain ⟨gb, hgb⟩ : ∃ gb, gb = w.heap.size := ⟨_, rfl⟩
  have HBW1 : Hid (Below w.heap.size w w1) := by rw [hw1]; exact (Below.refl _ _).alloc (Nat.le_refl _) _
  have HBX1 : Hid (w1.heap[gb]? = some (.cells #[.int .i64 1, .string name, .slice pa exprs.length pc, .slice na body.length nc, .slice ba els.length bc, .int .i64 pos] 30 (0, 0))) := by rw [hw1, hgb]; exact heap_alloc_new _ _
  rw [← hw1, ← hgb]
  clear hw1 hgb
  refine (HX.out.part _ (HBW1.out.mono hB)).mono ?_
  rintro e w2 ⟨rfl, b2w⟩
  have HBW2 : Hid (Below w.heap.size w w2) := HBW1.out.trans (b2w.mono HBW1.out.size)
  have HBX2 : Hid (w2.heap[gb]? = some (.cells #[.int .i64 1, .string name, .slice pa exprs.length pc, .slice na body.length nc, .slice ba els.length bc, .int .i64 pos] 30 (0, 0))) := by show _ = _; rw [b2w.block gb (Array.getElem?_eq_some_iff.1 HBX1.out).1]; exact HBX1.out
  clear b2w HBX1 HBW1
  have hbx2 := HBX2.out
  have hcx : w2.cell? ⟨gb, 0, none⟩ = some (.int .i64 1) := by simp [World.cell?, hbx2]
  have hgb2 : gb < w2.heap.size := (Array.getElem?_eq_some_iff.1 hbx2).1
  have hcy : w2.cell? ⟨gb, 1, none⟩ = some (.string name) := by simp [World.cell?, hbx2]
  clear hbx2
  go_wp2_with (at_builtin; refine Hid.out ?_)
  refine Lib.hid ?_
  obtain ⟨w3, hw3⟩ : ∃ w3, w3 = w2.alloc (.cells #[.int .i64 op2, .int .i64 num2, .string text2, .slice a2 n1 m1, .slice b2 n2 m2, .slice c2 n3 m3] 35) := ⟨_, rfl⟩
  obtain ⟨gv, hgv⟩ : ∃ gv, gv = w2.heap.size := ⟨_, rfl⟩
  have HBW : Hid (Below w.heap.size w w3) := by rw [hw3]; exact HBW2.out.alloc HBW2.out.size _
  have HBX : Hid (w3.heap[gb]? = some (.cells #[.int .i64 1, .string name, .slice pa exprs.length pc, .slice na body.length nc, .slice ba els.length bc, .int .i64 pos] 30 (0, 0))) := by show _ = _; rw [hw3, Below.heap_alloc _ _ _ hgb2]; exact HBX2.out
  have HBV : Hid (w3.heap[gv]? = some (.cells #[.int .i64 op2, .int .i64 num2, .string text2, .slice a2 n1 m1, .slice b2 n2 m2, .slice c2 n3 m3] 35 (0, 0))) := by rw [hw3, hgv]; exact heap_alloc_new _ _
  have hwv : w.heap.size ≤ gv := by rw [hgv]; exact HBW2.out.size
  have HR : Hid (Bt B w3 v l) := by rw [hw3]; exact (HR0.out.below HBW2.out).alloc _
  have hB1 : B ≤ w3.heap.size := Nat.le_trans hB HBW.out.size
  rw [← hw3, ← hgv]
  clear hw3 hgv HBX2 hcx hgb2 hcy
  refine wpList_app_str rfl (.tmp 21) (.tmp 23) rfl rfl HR.out hB1 name rfl (by show _ + name.size ≤ _; first | omega | (simp; omega)) ?_
  intro v4 w4 r4 g4
  have HR4 : Hid (Bt B w4 v4 (l ++ name.data.toList)) := by show Bt _ _ _ _; simpa using r4
  have HG4 : Hid (Gr w3 w4 v v4) := by show Gr _ _ _ _; exact (Gr.refl _ _).trans g4
  have hB4 : B ≤ w4.heap.size := Nat.le_trans hB1 HG4.out.size
  clear r4 g4
  go_wp2_with (at_builtin; refine wpList_app_str rfl (.tmp 24) _ rfl rfl HR4.out hB4 ⟨#[32, 61, 32]⟩ rfl (by show _ + 3 ≤ _; first | omega | (simp; omega)) ?_)
  intro v5 w5 r5 g5
  have HR5 : Hid (Bt B w5 v5 (l ++ name.data.toList ++ [32, 61, 32])) := by show Bt _ _ _ _; simpa using r5
  have HG5 : Hid (Gr w3 w5 v v5) := by show Gr _ _ _ _; exact (HG4.out).trans g5
  have hB5 : B ≤ w5.heap.size := Nat.le_trans hB1 HG5.out.size
  clear r5 g5
  have hbv : w5.heap[gv]? = _ := HR.out.block (HG5.out) HBV.out (by decide)
  have hv0 : w5.cell? ⟨gv, 0, none⟩ = some (.int .i64 op2) := by simp [World.cell?, hbv]
  have hv1 : w5.cell? ⟨gv, 1, none⟩ = some (.int .i64 num2) := by simp [World.cell?, hbv]
  have hv2 : w5.cell? ⟨gv, 2, none⟩ = some (.string text2) := by simp [World.cell?, hbv]
  have hv3 : w5.cell? ⟨gv, 3, none⟩ = some (.slice a2 n1 m1) := by simp [World.cell?, hbv]
  have hv4 : w5.cell? ⟨gv, 4, none⟩ = some (.slice b2 n2 m2) := by simp [World.cell?, hbv]
  have hv5 : w5.cell? ⟨gv, 5, none⟩ = some (.slice c2 n3 m3) := by simp [World.cell?, hbv]
  clear hbv
  go_wp2_with fail
  refine (HX.out.add _ _ _ HR5.out hB5 ((HBW.out.mono hB).trans (HR.out.bel (HG5.out) hB1)) (by first | omega | (simp; omega))).mono ?_
  rintro e w6 ⟨v6, rfl, r6, g6⟩
  have HR6 : Hid (Bt B w6 v6 (l ++ name.data.toList ++ [32, 61, 32] ++ T)) := by show Bt _ _ _ _; simpa using r6
  have HG6 : Hid (Gr w3 w6 v v6) := by show Gr _ _ _ _; exact (HG5.out).trans g6
  have hB6 : B ≤ w6.heap.size := Nat.le_trans hB1 HG6.out.size
  clear r6 g6
  have HRz : Hid (Bt B w6 v6 (l ++ (name.data.toList ++ [32, 61, 32] ++ T))) := by show Bt _ _ _ _; simpa using HR6.out
  have HGz : Hid (Gr w w6 v v6) := by show Gr _ _ _ _; exact (HG6.out).pre HBW.out (fun k hk => (HR0.out.lt k hk).2)
  go_wp2
  go_ret
  exact ⟨v6, rfl, HRz.out, HGz.out⟩
set_option maxRecDepth 100000 in
set_option maxHeartbeats 4000000 in
theorem addSimpleRet {n : Nat} (hA : Small n) {name : ByteArray} {exprs : List TE} {body els : List TS} {pos : Int} (hsz : szS (.mk 5 name exprs body els pos) ≤ n)
    {B : Nat} {w : World} {v : Value} {l : Bs} {vx vb ve : Value} (hR : Bt B w v l) (hB : B ≤ w.heap.size) (hG : Lg B w) (hE : SIn (· < B) w (.mk 5 name exprs body els pos) vx vb ve) (hl : l.length + (simpleT 5 name (txEs exprs)).length ≤ 1000000000) :
    Calls Tryz.prog 36 #[v, stV (.mk 5 name exprs body els pos) vx vb ve] w fun en w' => ∃ v', en = .returned v' ∧ Bt B w' v' (l ++ simpleT 5 name (txEs exprs)) ∧ Gr w w' v v' := by
  have hszx : szEs exprs < n := by unfold szS at hsz; omega
  have hszb : szSs body < n := by unfold szS at hsz; omega
  have hsze : szSs els < n := by unfold szS at hsz; omega
  have hE2 := hE
  obtain ⟨hk8, ⟨pa, pc, rfl, hpc1, hpc2, hpg⟩, ⟨na, nc, rfl, hnc1, hnc2, hng⟩, ⟨ba, bc, rfl, hbc1, hbc2, hbg⟩⟩ := hE2
  unfold maxLen at hpc2 hnc2 hbc2
  obtain ⟨x, hx⟩ := pack hA (show EsIn B w _ exprs from hE.2.1) hB hG 0 (by omega) hszx
  have hT : simpleT 5 name (txEs exprs) = [114, 101, 116, 117, 114, 110, 32] ++ pt (txEs exprs) 0 := rfl
  rw [hT] at hl ⊢
  clear hT
  generalize pt (txEs exprs) 0 = T at hl hx ⊢
  have hnm : name.data.toList.length = name.size := rfl
  have hlT : l.length + T.length + 7 ≤ 1000000000 := by have h2 := hnm; simp at hl h2; omega
  obtain ⟨op2, num2, text2, a2, b2, c2, n1, m1, n2, m2, n3, m3, rfl⟩ := hx.six
  have HX : Hid (Pk B w (.slice pa exprs.length pc) 0 T (.agg #[.int .i64 op2, .int .i64 num2, .string text2, .slice a2 n1 m1, .slice b2 n2 m2, .slice c2 n3 m3])) := hx
  have HR0 : Hid (Bt B w v l) := hR
  clear hE hl hA hsz hszx hszb hsze hR hG hpc1 hpc2 hpg hnc1 hnc2 hng hbc1 hbg hx hbc2 hnm
  unfold stV
  go_enter Tryz.func36, Tryz.ntmps36
  go_wp2_with fail
  obtain ⟨w1, hw1⟩ : ∃ w1, w1 = w.alloc (.cells #[.int .i64 5, .string name, .slice pa exprs.length pc, .slice na body.length nc, .slice ba els.length bc, .int .i64 pos] 30) := ⟨_, rfl⟩
  obtain ⟨gb, hgb⟩ : ∃ gb, gb = w.heap.size := ⟨_, rfl⟩
  have HBW1 : Hid (Below w.heap.size w w1) := by rw [hw1]; exact (Below.refl _ _).alloc (Nat.le_refl _) _
  have HBX1 : Hid (w1.heap[gb]? = some (.cells #[.int .i64 5, .string name, .slice pa exprs.length pc, .slice na body.length nc, .slice ba els.length bc, .int .i64 pos] 30 (0, 0))) := by rw [hw1, hgb]; exact heap_alloc_new _ _
  rw [← hw1, ← hgb]
  clear hw1 hgb
  refine (HX.out.part _ (HBW1.out.mono hB)).mono ?_
  rintro e w2 ⟨rfl, b2w⟩
  have HBW2 : Hid (Below w.heap.size w w2) := HBW1.out.trans (b2w.mono HBW1.out.size)
  have HBX2 : Hid (w2.heap[gb]? = some (.cells #[.int .i64 5, .string name, .slice pa exprs.length pc, .slice na body.length nc, .slice ba els.length bc, .int .i64 pos] 30 (0, 0))) := by show _ = _; rw [b2w.block gb (Array.getElem?_eq_some_iff.1 HBX1.out).1]; exact HBX1.out
  clear b2w HBX1 HBW1
  have hbx2 := HBX2.out
  have hcx : w2.cell? ⟨gb, 0, none⟩ = some (.int .i64 5) := by simp [World.cell?, hbx2]
  have hgb2 : gb < w2.heap.size := (Array.getElem?_eq_some_iff.1 hbx2).1
  clear hbx2
  go_wp2_with (at_builtin; refine Hid.out ?_)
  refine Lib.hid ?_
  obtain ⟨w3, hw3⟩ : ∃ w3, w3 = w2.alloc (.cells #[.int .i64 op2, .int .i64 num2, .string text2, .slice a2 n1 m1, .slice b2 n2 m2, .slice c2 n3 m3] 35) := ⟨_, rfl⟩
  obtain ⟨gv, hgv⟩ : ∃ gv, gv = w2.heap.size := ⟨_, rfl⟩
  have HBW : Hid (Below w.heap.size w w3) := by rw [hw3]; exact HBW2.out.alloc HBW2.out.size _
  have HBX : Hid (w3.heap[gb]? = some (.cells #[.int .i64 5, .string name, .slice pa exprs.length pc, .slice na body.length nc, .slice ba els.length bc, .int .i64 pos] 30 (0, 0))) := by show _ = _; rw [hw3, Below.heap_alloc _ _ _ hgb2]; exact HBX2.out
  have HBV : Hid (w3.heap[gv]? = some (.cells #[.int .i64 op2, .int .i64 num2, .string text2, .slice a2 n1 m1, .slice b2 n2 m2, .slice c2 n3 m3] 35 (0, 0))) := by rw [hw3, hgv]; exact heap_alloc_new _ _
  have hwv : w.heap.size ≤ gv := by rw [hgv]; exact HBW2.out.size
  have HR : Hid (Bt B w3 v l) := by rw [hw3]; exact (HR0.out.below HBW2.out).alloc _
  have hB1 : B ≤ w3.heap.size := Nat.le_trans hB HBW.out.size
  rw [← hw3, ← hgv]
  clear hw3 hgv HBX2 hcx hgb2
  refine wpList_app_str rfl (.tmp 38) _ rfl rfl HR.out hB1 ⟨#[114, 101, 116, 117, 114, 110, 32]⟩ rfl (by show _ + 7 ≤ _; first | omega | (simp; omega)) ?_
  intro v4 w4 r4 g4
  have HR4 : Hid (Bt B w4 v4 (l ++ [114, 101, 116, 117, 114, 110, 32])) := by show Bt _ _ _ _; simpa using r4
  have HG4 : Hid (Gr w3 w4 v v4) := by show Gr _ _ _ _; exact (Gr.refl _ _).trans g4
  have hB4 : B ≤ w4.heap.size := Nat.le_trans hB1 HG4.out.size
  clear r4 g4
  have hbv : w4.heap[gv]? = _ := HR.out.block (HG4.out) HBV.out (by decide)
  have hv0 : w4.cell? ⟨gv, 0, none⟩ = some (.int .i64 op2) := by simp [World.cell?, hbv]
  have hv1 : w4.cell? ⟨gv, 1, none⟩ = some (.int .i64 num2) := by simp [World.cell?, hbv]
  have hv2 : w4.cell? ⟨gv, 2, none⟩ = some (.string text2) := by simp [World.cell?, hbv]
  have hv3 : w4.cell? ⟨gv, 3, none⟩ = some (.slice a2 n1 m1) := by simp [World.cell?, hbv]
  have hv4 : w4.cell? ⟨gv, 4, none⟩ = some (.slice b2 n2 m2) := by simp [World.cell?, hbv]
  have hv5 : w4.cell? ⟨gv, 5, none⟩ = some (.slice c2 n3 m3) := by simp [World.cell?, hbv]
  clear hbv
  go_wp2_with fail
  refine (HX.out.add _ _ _ HR4.out hB4 ((HBW.out.mono hB).trans (HR.out.bel (HG4.out) hB1)) (by first | omega | (simp; omega))).mono ?_
  rintro e w5 ⟨v5, rfl, r5, g5⟩
  have HR5 : Hid (Bt B w5 v5 (l ++ [114, 101, 116, 117, 114, 110, 32] ++ T)) := by show Bt _ _ _ _; simpa using r5
  have HG5 : Hid (Gr w3 w5 v v5) := by show Gr _ _ _ _; exact (HG4.out).trans g5
  have hB5 : B ≤ w5.heap.size := Nat.le_trans hB1 HG5.out.size
  clear r5 g5
  have HRz : Hid (Bt B w5 v5 (l ++ ([114, 101, 116, 117, 114, 110, 32] ++ T))) := by show Bt _ _ _ _; simpa using HR5.out
  have HGz : Hid (Gr w w5 v v5) := by show Gr _ _ _ _; exact (HG5.out).pre HBW.out (fun k hk => (HR0.out.lt k hk).2)
  go_wp2
  go_ret
  exact ⟨v5, rfl, HRz.out, HGz.out⟩
set_option maxRecDepth 100000 in
set_option maxHeartbeats 4000000 in
theorem addSimpleThr {n : Nat} (hA : Small n) {name : ByteArray} {exprs : List TE} {body els : List TS} {pos : Int} (hsz : szS (.mk 6 name exprs body els pos) ≤ n)
    {B : Nat} {w : World} {v : Value} {l : Bs} {vx vb ve : Value} (hR : Bt B w v l) (hB : B ≤ w.heap.size) (hG : Lg B w) (hE : SIn (· < B) w (.mk 6 name exprs body els pos) vx vb ve) (hl : l.length + (simpleT 6 name (txEs exprs)).length ≤ 1000000000) :
    Calls Tryz.prog 36 #[v, stV (.mk 6 name exprs body els pos) vx vb ve] w fun en w' => ∃ v', en = .returned v' ∧ Bt B w' v' (l ++ simpleT 6 name (txEs exprs)) ∧ Gr w w' v v' := by
  have hszx : szEs exprs < n := by unfold szS at hsz; omega
  have hszb : szSs body < n := by unfold szS at hsz; omega
  have hsze : szSs els < n := by unfold szS at hsz; omega
  have hE2 := hE
  obtain ⟨hk8, ⟨pa, pc, rfl, hpc1, hpc2, hpg⟩, ⟨na, nc, rfl, hnc1, hnc2, hng⟩, ⟨ba, bc, rfl, hbc1, hbc2, hbg⟩⟩ := hE2
  unfold maxLen at hpc2 hnc2 hbc2
  obtain ⟨x, hx⟩ := pack hA (show EsIn B w _ exprs from hE.2.1) hB hG 0 (by omega) hszx
  have hT : simpleT 6 name (txEs exprs) = [116, 104, 114, 111, 119, 32] ++ pt (txEs exprs) 0 := rfl
  rw [hT] at hl ⊢
  clear hT
  generalize pt (txEs exprs) 0 = T at hl hx ⊢
  have hnm : name.data.toList.length = name.size := rfl
  have hlT : l.length + T.length + 6 ≤ 1000000000 := by have h2 := hnm; simp at hl h2; omega
  obtain ⟨op2, num2, text2, a2, b2, c2, n1, m1, n2, m2, n3, m3, rfl⟩ := hx.six
  have HX : Hid (Pk B w (.slice pa exprs.length pc) 0 T (.agg #[.int .i64 op2, .int .i64 num2, .string text2, .slice a2 n1 m1, .slice b2 n2 m2, .slice c2 n3 m3])) := hx
  have HR0 : Hid (Bt B w v l) := hR
  clear hE hl hA hsz hszx hszb hsze hR hG hpc1 hpc2 hpg hnc1 hnc2 hng hbc1 hbg hx hbc2 hnm
  unfold stV
  go_enter Tryz.func36, Tryz.ntmps36
  go_wp2_with fail
  obtain ⟨w1, hw1⟩ : ∃ w1, w1 = w.alloc (.cells #[.int .i64 6, .string name, .slice pa exprs.length pc, .slice na body.length nc, .slice ba els.length bc, .int .i64 pos] 30) := ⟨_, rfl⟩
  obtain ⟨gb, hgb⟩ : ∃ gb, gb = w.heap.size := ⟨_, rfl⟩
  have HBW1 : Hid (Below w.heap.size w w1) := by rw [hw1]; exact (Below.refl _ _).alloc (Nat.le_refl _) _
  have HBX1 : Hid (w1.heap[gb]? = some (.cells #[.int .i64 6, .string name, .slice pa exprs.length pc, .slice na body.length nc, .slice ba els.length bc, .int .i64 pos] 30 (0, 0))) := by rw [hw1, hgb]; exact heap_alloc_new _ _
  rw [← hw1, ← hgb]
  clear hw1 hgb
  refine (HX.out.part _ (HBW1.out.mono hB)).mono ?_
  rintro e w2 ⟨rfl, b2w⟩
  have HBW2 : Hid (Below w.heap.size w w2) := HBW1.out.trans (b2w.mono HBW1.out.size)
  have HBX2 : Hid (w2.heap[gb]? = some (.cells #[.int .i64 6, .string name, .slice pa exprs.length pc, .slice na body.length nc, .slice ba els.length bc, .int .i64 pos] 30 (0, 0))) := by show _ = _; rw [b2w.block gb (Array.getElem?_eq_some_iff.1 HBX1.out).1]; exact HBX1.out
  clear b2w HBX1 HBW1
  have hbx2 := HBX2.out
  have hcx : w2.cell? ⟨gb, 0, none⟩ = some (.int .i64 6) := by simp [World.cell?, hbx2]
  have hgb2 : gb < w2.heap.size := (Array.getElem?_eq_some_iff.1 hbx2).1
  clear hbx2
  go_wp2_with (at_builtin; refine Hid.out ?_)
  refine Lib.hid ?_
  obtain ⟨w3, hw3⟩ : ∃ w3, w3 = w2.alloc (.cells #[.int .i64 op2, .int .i64 num2, .string text2, .slice a2 n1 m1, .slice b2 n2 m2, .slice c2 n3 m3] 35) := ⟨_, rfl⟩
  obtain ⟨gv, hgv⟩ : ∃ gv, gv = w2.heap.size := ⟨_, rfl⟩
  have HBW : Hid (Below w.heap.size w w3) := by rw [hw3]; exact HBW2.out.alloc HBW2.out.size _
  have HBX : Hid (w3.heap[gb]? = some (.cells #[.int .i64 6, .string name, .slice pa exprs.length pc, .slice na body.length nc, .slice ba els.length bc, .int .i64 pos] 30 (0, 0))) := by show _ = _; rw [hw3, Below.heap_alloc _ _ _ hgb2]; exact HBX2.out
  have HBV : Hid (w3.heap[gv]? = some (.cells #[.int .i64 op2, .int .i64 num2, .string text2, .slice a2 n1 m1, .slice b2 n2 m2, .slice c2 n3 m3] 35 (0, 0))) := by rw [hw3, hgv]; exact heap_alloc_new _ _
  have hwv : w.heap.size ≤ gv := by rw [hgv]; exact HBW2.out.size
  have HR : Hid (Bt B w3 v l) := by rw [hw3]; exact (HR0.out.below HBW2.out).alloc _
  have hB1 : B ≤ w3.heap.size := Nat.le_trans hB HBW.out.size
  rw [← hw3, ← hgv]
  clear hw3 hgv HBX2 hcx hgb2
  refine wpList_app_str rfl (.tmp 42) _ rfl rfl HR.out hB1 ⟨#[116, 104, 114, 111, 119, 32]⟩ rfl (by show _ + 6 ≤ _; first | omega | (simp; omega)) ?_
  intro v4 w4 r4 g4
  have HR4 : Hid (Bt B w4 v4 (l ++ [116, 104, 114, 111, 119, 32])) := by show Bt _ _ _ _; simpa using r4
  have HG4 : Hid (Gr w3 w4 v v4) := by show Gr _ _ _ _; exact (Gr.refl _ _).trans g4
  have hB4 : B ≤ w4.heap.size := Nat.le_trans hB1 HG4.out.size
  clear r4 g4
  have hbv : w4.heap[gv]? = _ := HR.out.block (HG4.out) HBV.out (by decide)
  have hv0 : w4.cell? ⟨gv, 0, none⟩ = some (.int .i64 op2) := by simp [World.cell?, hbv]
  have hv1 : w4.cell? ⟨gv, 1, none⟩ = some (.int .i64 num2) := by simp [World.cell?, hbv]
  have hv2 : w4.cell? ⟨gv, 2, none⟩ = some (.string text2) := by simp [World.cell?, hbv]
  have hv3 : w4.cell? ⟨gv, 3, none⟩ = some (.slice a2 n1 m1) := by simp [World.cell?, hbv]
  have hv4 : w4.cell? ⟨gv, 4, none⟩ = some (.slice b2 n2 m2) := by simp [World.cell?, hbv]
  have hv5 : w4.cell? ⟨gv, 5, none⟩ = some (.slice c2 n3 m3) := by simp [World.cell?, hbv]
  clear hbv
  go_wp2_with fail
  refine (HX.out.add _ _ _ HR4.out hB4 ((HBW.out.mono hB).trans (HR.out.bel (HG4.out) hB1)) (by first | omega | (simp; omega))).mono ?_
  rintro e w5 ⟨v5, rfl, r5, g5⟩
  have HR5 : Hid (Bt B w5 v5 (l ++ [116, 104, 114, 111, 119, 32] ++ T)) := by show Bt _ _ _ _; simpa using r5
  have HG5 : Hid (Gr w3 w5 v v5) := by show Gr _ _ _ _; exact (HG4.out).trans g5
  have hB5 : B ≤ w5.heap.size := Nat.le_trans hB1 HG5.out.size
  clear r5 g5
  have HRz : Hid (Bt B w5 v5 (l ++ ([116, 104, 114, 111, 119, 32] ++ T))) := by show Bt _ _ _ _; simpa using HR5.out
  have HGz : Hid (Gr w w5 v v5) := by show Gr _ _ _ _; exact (HG5.out).pre HBW.out (fun k hk => (HR0.out.lt k hk).2)
  go_wp2
  go_ret
  exact ⟨v5, rfl, HRz.out, HGz.out⟩
set_option maxRecDepth 100000 in
set_option maxHeartbeats 4000000 in
theorem addSimpleDo {n : Nat} (hA : Small n) {name : ByteArray} {exprs : List TE} {body els : List TS} {pos : Int} (hsz : szS (.mk 8 name exprs body els pos) ≤ n)
    {B : Nat} {w : World} {v : Value} {l : Bs} {vx vb ve : Value} (hR : Bt B w v l) (hB : B ≤ w.heap.size) (hG : Lg B w) (hE : SIn (· < B) w (.mk 8 name exprs body els pos) vx vb ve) (hl : l.length + (simpleT 8 name (txEs exprs)).length ≤ 1000000000) :
    Calls Tryz.prog 36 #[v, stV (.mk 8 name exprs body els pos) vx vb ve] w fun en w' => ∃ v', en = .returned v' ∧ Bt B w' v' (l ++ simpleT 8 name (txEs exprs)) ∧ Gr w w' v v' := by
  have hszx : szEs exprs < n := by unfold szS at hsz; omega
  have hszb : szSs body < n := by unfold szS at hsz; omega
  have hsze : szSs els < n := by unfold szS at hsz; omega
  have hE2 := hE
  obtain ⟨hk8, ⟨pa, pc, rfl, hpc1, hpc2, hpg⟩, ⟨na, nc, rfl, hnc1, hnc2, hng⟩, ⟨ba, bc, rfl, hbc1, hbc2, hbg⟩⟩ := hE2
  unfold maxLen at hpc2 hnc2 hbc2
  obtain ⟨x, hx⟩ := pack hA (show EsIn B w _ exprs from hE.2.1) hB hG 0 (by omega) hszx
  have hT : simpleT 8 name (txEs exprs) = pt (txEs exprs) 0 := rfl
  rw [hT] at hl ⊢
  clear hT
  generalize pt (txEs exprs) 0 = T at hl hx ⊢
  have hnm : name.data.toList.length = name.size := rfl
  have hlT : l.length + T.length + 0 ≤ 1000000000 := by have h2 := hnm; simp at hl h2; omega
  obtain ⟨op2, num2, text2, a2, b2, c2, n1, m1, n2, m2, n3, m3, rfl⟩ := hx.six
  have HX : Hid (Pk B w (.slice pa exprs.length pc) 0 T (.agg #[.int .i64 op2, .int .i64 num2, .string text2, .slice a2 n1 m1, .slice b2 n2 m2, .slice c2 n3 m3])) := hx
  have HR0 : Hid (Bt B w v l) := hR
  clear hE hl hA hsz hszx hszb hsze hR hG hpc1 hpc2 hpg hnc1 hnc2 hng hbc1 hbg hx hbc2 hnm
  unfold stV
  go_enter Tryz.func36, Tryz.ntmps36
  go_wp2_with fail
  obtain ⟨w1, hw1⟩ : ∃ w1, w1 = w.alloc (.cells #[.int .i64 8, .string name, .slice pa exprs.length pc, .slice na body.length nc, .slice ba els.length bc, .int .i64 pos] 30) := ⟨_, rfl⟩
  obtain ⟨gb, hgb⟩ : ∃ gb, gb = w.heap.size := ⟨_, rfl⟩
  have HBW1 : Hid (Below w.heap.size w w1) := by rw [hw1]; exact (Below.refl _ _).alloc (Nat.le_refl _) _
  have HBX1 : Hid (w1.heap[gb]? = some (.cells #[.int .i64 8, .string name, .slice pa exprs.length pc, .slice na body.length nc, .slice ba els.length bc, .int .i64 pos] 30 (0, 0))) := by rw [hw1, hgb]; exact heap_alloc_new _ _
  rw [← hw1, ← hgb]
  clear hw1 hgb
  refine (HX.out.part _ (HBW1.out.mono hB)).mono ?_
  rintro e w2 ⟨rfl, b2w⟩
  have HBW2 : Hid (Below w.heap.size w w2) := HBW1.out.trans (b2w.mono HBW1.out.size)
  have HBX2 : Hid (w2.heap[gb]? = some (.cells #[.int .i64 8, .string name, .slice pa exprs.length pc, .slice na body.length nc, .slice ba els.length bc, .int .i64 pos] 30 (0, 0))) := by show _ = _; rw [b2w.block gb (Array.getElem?_eq_some_iff.1 HBX1.out).1]; exact HBX1.out
  clear b2w HBX1 HBW1
  have hbx2 := HBX2.out
  have hcx : w2.cell? ⟨gb, 0, none⟩ = some (.int .i64 8) := by simp [World.cell?, hbx2]
  have hgb2 : gb < w2.heap.size := (Array.getElem?_eq_some_iff.1 hbx2).1
  clear hbx2
  go_wp2_with fail
  obtain ⟨w3, hw3⟩ : ∃ w3, w3 = w2.alloc (.cells #[.int .i64 op2, .int .i64 num2, .string text2, .slice a2 n1 m1, .slice b2 n2 m2, .slice c2 n3 m3] 35) := ⟨_, rfl⟩
  obtain ⟨gv, hgv⟩ : ∃ gv, gv = w2.heap.size := ⟨_, rfl⟩
  have HBW : Hid (Below w.heap.size w w3) := by rw [hw3]; exact HBW2.out.alloc HBW2.out.size _
  have HBX : Hid (w3.heap[gb]? = some (.cells #[.int .i64 8, .string name, .slice pa exprs.length pc, .slice na body.length nc, .slice ba els.length bc, .int .i64 pos] 30 (0, 0))) := by show _ = _; rw [hw3, Below.heap_alloc _ _ _ hgb2]; exact HBX2.out
  have HBV : Hid (w3.heap[gv]? = some (.cells #[.int .i64 op2, .int .i64 num2, .string text2, .slice a2 n1 m1, .slice b2 n2 m2, .slice c2 n3 m3] 35 (0, 0))) := by rw [hw3, hgv]; exact heap_alloc_new _ _
  have hwv : w.heap.size ≤ gv := by rw [hgv]; exact HBW2.out.size
  have HR : Hid (Bt B w3 v l) := by rw [hw3]; exact (HR0.out.below HBW2.out).alloc _
  have hB1 : B ≤ w3.heap.size := Nat.le_trans hB HBW.out.size
  rw [← hw3, ← hgv]
  clear hw3 hgv HBX2 hcx hgb2
  refine (HX.out.add _ _ _ HR.out hB1 ((HBW.out.mono hB).trans (HR.out.bel (Gr.refl _ _) hB1)) (by first | omega | (simp; omega))).mono ?_
  rintro e w4 ⟨v4, rfl, r4, g4⟩
  have HR4 : Hid (Bt B w4 v4 (l ++ T)) := by show Bt _ _ _ _; simpa using r4
  have HG4 : Hid (Gr w3 w4 v v4) := by show Gr _ _ _ _; exact (Gr.refl _ _).trans g4
  have hB4 : B ≤ w4.heap.size := Nat.le_trans hB1 HG4.out.size
  clear r4 g4
  have HRz : Hid (Bt B w4 v4 (l ++ (T))) := by show Bt _ _ _ _; simpa using HR4.out
  have HGz : Hid (Gr w w4 v v4) := by show Gr _ _ _ _; exact (HG4.out).pre HBW.out (fun k hk => (HR0.out.lt k hk).2)
  go_wp2
  go_ret
  exact ⟨v4, rfl, HRz.out, HGz.out⟩
theorem bel_sets {B : Nat} {w w3 w' : World} {v v' : Value} {l : Bs} {g : Nat} {x0 x1 x2 x3 x4 x5 : Value} (h0 : Below B w w3) (hR : Bt B w3 v l) (hg : Gr w3 w' v v') (hB : B ≤ w3.heap.size) (hb : B ≤ g) : Below B w ((((((w'.setCell ⟨g, 0, none⟩ x0).setCell ⟨g, 1, none⟩ x1).setCell ⟨g, 2, none⟩ x2).setCell ⟨g, 3, none⟩ x3).setCell ⟨g, 4, none⟩ x4).setCell ⟨g, 5, none⟩ x5) :=
  (((((((h0.trans (hR.bel hg hB)).setCell hb _).setCell hb _).setCell hb _).setCell hb _).setCell hb _).setCell hb _)
set_option maxRecDepth 100000 in
set_option maxHeartbeats 4000000 in
theorem addSimplePut {n : Nat} (hA : Small n) {name : ByteArray} {exprs : List TE} {body els : List TS} {pos : Int} (hsz : szS (.mk 2 name exprs body els pos) ≤ n)
    {B : Nat} {w : World} {v : Value} {l : Bs} {vx vb ve : Value} (hR : Bt B w v l) (hB : B ≤ w.heap.size) (hG : Lg B w) (hE : SIn (· < B) w (.mk 2 name exprs body els pos) vx vb ve) (hl : l.length + (simpleT 2 name (txEs exprs)).length ≤ 1000000000) :
    Calls Tryz.prog 36 #[v, stV (.mk 2 name exprs body els pos) vx vb ve] w fun en w' => ∃ v', en = .returned v' ∧ Bt B w' v' (l ++ simpleT 2 name (txEs exprs)) ∧ Gr w w' v v' := by
  have hszx : szEs exprs < n := by unfold szS at hsz; omega
  have hszb : szSs body < n := by unfold szS at hsz; omega
  have hsze : szSs els < n := by unfold szS at hsz; omega
  have hE2 := hE
  obtain ⟨hk8, ⟨pa, pc, rfl, hpc1, hpc2, hpg⟩, ⟨na, nc, rfl, hnc1, hnc2, hng⟩, ⟨ba, bc, rfl, hbc1, hbc2, hbg⟩⟩ := hE2
  unfold maxLen at hpc2 hnc2 hbc2
  obtain ⟨x, hx⟩ := pack hA (show EsIn B w _ exprs from hE.2.1) hB hG 0 (by omega) hszx
  obtain ⟨y, hy⟩ := pack hA (show EsIn B w _ exprs from hE.2.1) hB hG 2 (by omega) hszx
  have HF : Hid (∀ W u X, Bt B W u X → B ≤ W.heap.size → Below B w W → X.length + (fieldT (txEs exprs)).length ≤ 1000000000 → Calls Tryz.prog 40 #[u, .slice pa exprs.length pc] W fun en W2 => ∃ u2, en = .returned u2 ∧ Bt B W2 u2 (X ++ fieldT (txEs exprs)) ∧ Gr W W2 u u2) := fun W u X h1 h2 h3 h4 => addField_any hA hszx h1 h2 (hG.on h3) (EsIn.on (show EsIn B w _ exprs from hE.2.1) h3) h4
  have hT : simpleT 2 name (txEs exprs) = fieldT (txEs exprs) ++ [32, 61, 32] ++ pt (txEs exprs) 2 := rfl
  rw [hT] at hl ⊢
  clear hT
  generalize fieldT (txEs exprs) = F at hl HF ⊢
  generalize pt (txEs exprs) 2 = U at hl hy ⊢
  have hlT : l.length + F.length + U.length + 3 ≤ 1000000000 := by simp at hl; omega
  obtain ⟨op2, num2, text2, a2, b2, c2, n1, m1, n2, m2, n3, m3, rfl⟩ := hx.six
  obtain ⟨op4, num4, text4, a4, b4, c4, n41, m41, n42, m42, n43, m43, rfl⟩ := hy.six
  have HX : Hid (Pk B w (.slice pa exprs.length pc) 0 (pt (txEs exprs) 0) (.agg #[.int .i64 op2, .int .i64 num2, .string text2, .slice a2 n1 m1, .slice b2 n2 m2, .slice c2 n3 m3])) := hx
  have HR0 : Hid (Bt B w v l) := hR
  have HY : Hid (Pk B w (.slice pa exprs.length pc) 2 U (.agg #[.int .i64 op4, .int .i64 num4, .string text4, .slice a4 n41 m41, .slice b4 n42 m42, .slice c4 n43 m43])) := hy
  clear hE hl hA hsz hszx hszb hsze hR hG hpc1 hpc2 hpg hnc1 hnc2 hng hbc1 hbg hx hbc2 hy
  unfold stV
  go_enter Tryz.func36, Tryz.ntmps36
  go_wp2_with fail
  obtain ⟨w1, hw1⟩ : ∃ w1, w1 = w.alloc (.cells #[.int .i64 2, .string name, .slice pa exprs.length pc, .slice na body.length nc, .slice ba els.length bc, .int .i64 pos] 30) := ⟨_, rfl⟩
  obtain ⟨gb, hgb⟩ : ∃ gb, gb = w.heap.size := ⟨_, rfl⟩
  have HBW1 : Hid (Below w.heap.size w w1) := by rw [hw1]; exact (Below.refl _ _).alloc (Nat.le_refl _) _
  have HBX1 : Hid (w1.heap[gb]? = some (.cells #[.int .i64 2, .string name, .slice pa exprs.length pc, .slice na body.length nc, .slice ba els.length bc, .int .i64 pos] 30 (0, 0))) := by rw [hw1, hgb]; exact heap_alloc_new _ _
  rw [← hw1, ← hgb]
  clear hw1 hgb
  refine (HX.out.part _ (HBW1.out.mono hB)).mono ?_
  rintro e w2 ⟨rfl, b2w⟩
  have HBW2 : Hid (Below w.heap.size w w2) := HBW1.out.trans (b2w.mono HBW1.out.size)
  have HBX2 : Hid (w2.heap[gb]? = some (.cells #[.int .i64 2, .string name, .slice pa exprs.length pc, .slice na body.length nc, .slice ba els.length bc, .int .i64 pos] 30 (0, 0))) := by show _ = _; rw [b2w.block gb (Array.getElem?_eq_some_iff.1 HBX1.out).1]; exact HBX1.out
  clear b2w HBX1 HBW1
  have hbx2 := HBX2.out
  have hcx : w2.cell? ⟨gb, 0, none⟩ = some (.int .i64 2) := by simp [World.cell?, hbx2]
  have hgb2 : gb < w2.heap.size := (Array.getElem?_eq_some_iff.1 hbx2).1
  have hcy : w2.cell? ⟨gb, 2, none⟩ = some (.slice pa exprs.length pc) := by simp [World.cell?, hbx2]
  clear hbx2
  go_wp2_with fail
  obtain ⟨w3, hw3⟩ : ∃ w3, w3 = w2.alloc (.cells #[.int .i64 op2, .int .i64 num2, .string text2, .slice a2 n1 m1, .slice b2 n2 m2, .slice c2 n3 m3] 35) := ⟨_, rfl⟩
  obtain ⟨gv, hgv⟩ : ∃ gv, gv = w2.heap.size := ⟨_, rfl⟩
  have HBW : Hid (Below w.heap.size w w3) := by rw [hw3]; exact HBW2.out.alloc HBW2.out.size _
  have HBX : Hid (w3.heap[gb]? = some (.cells #[.int .i64 2, .string name, .slice pa exprs.length pc, .slice na body.length nc, .slice ba els.length bc, .int .i64 pos] 30 (0, 0))) := by show _ = _; rw [hw3, Below.heap_alloc _ _ _ hgb2]; exact HBX2.out
  have HBV : Hid (w3.heap[gv]? = some (.cells #[.int .i64 op2, .int .i64 num2, .string text2, .slice a2 n1 m1, .slice b2 n2 m2, .slice c2 n3 m3] 35 (0, 0))) := by rw [hw3, hgv]; exact heap_alloc_new _ _
  have hwv : w.heap.size ≤ gv := by rw [hgv]; exact HBW2.out.size
  have HR : Hid (Bt B w3 v l) := by rw [hw3]; exact (HR0.out.below HBW2.out).alloc _
  have hB1 : B ≤ w3.heap.size := Nat.le_trans hB HBW.out.size
  rw [← hw3, ← hgv]
  clear hw3 hgv HBX2 hcx hgb2 hcy
  refine (HF.out _ _ _ HR.out hB1 ((HBW.out.mono hB).trans (HR.out.bel (Gr.refl _ _) hB1)) (by first | omega | (simp; omega))).mono ?_
  rintro e w4 ⟨v4, rfl, r4, g4⟩
  have HR4 : Hid (Bt B w4 v4 (l ++ F)) := by show Bt _ _ _ _; simpa using r4
  have HG4 : Hid (Gr w3 w4 v v4) := by show Gr _ _ _ _; exact (Gr.refl _ _).trans g4
  have hB4 : B ≤ w4.heap.size := Nat.le_trans hB1 HG4.out.size
  clear r4 g4
  go_wp2_with (at_builtin; refine wpList_app_str rfl (.tmp 31) _ rfl rfl HR4.out hB4 ⟨#[32, 61, 32]⟩ rfl (by show _ + 3 ≤ _; first | omega | (simp; omega)) ?_)
  intro v5 w5 r5 g5
  have HR5 : Hid (Bt B w5 v5 (l ++ F ++ [32, 61, 32])) := by show Bt _ _ _ _; simpa using r5
  have HG5 : Hid (Gr w3 w5 v v5) := by show Gr _ _ _ _; exact (HG4.out).trans g5
  have hB5 : B ≤ w5.heap.size := Nat.le_trans hB1 HG5.out.size
  clear r5 g5
  have hbx5 : w5.heap[gb]? = _ := HR.out.block (HG5.out) HBX.out (by decide)
  have hc5_2 : w5.cell? ⟨gb, 2, none⟩ = some (.slice pa exprs.length pc) := by simp [World.cell?, hbx5]
  clear hbx5
  go_wp2_with fail
  refine (HY.out.part _ ((HBW.out.mono hB).trans (HR.out.bel (HG5.out) hB1))).mono ?_
  rintro e w6 ⟨rfl, b6⟩
  have HR6 : Hid (Bt B w6 v5 (l ++ F ++ [32, 61, 32])) := by show Bt _ _ _ _; exact HR5.out.below b6
  have HG6 : Hid (Gr w3 w6 v v5) := by show Gr _ _ _ _; exact (HG5.out).below b6
  have hB6 : B ≤ w6.heap.size := Nat.le_trans hB1 HG6.out.size
  clear b6
  have hbv : w6.heap[gv]? = _ := HR.out.block (HG6.out) HBV.out (by decide)
  have hv0 : w6.cell? ⟨gv, 0, none⟩ = some (.int .i64 op2) := by simp [World.cell?, hbv]
  have hv1 : w6.cell? ⟨gv, 1, none⟩ = some (.int .i64 num2) := by simp [World.cell?, hbv]
  have hv2 : w6.cell? ⟨gv, 2, none⟩ = some (.string text2) := by simp [World.cell?, hbv]
  have hv3 : w6.cell? ⟨gv, 3, none⟩ = some (.slice a2 n1 m1) := by simp [World.cell?, hbv]
  have hv4 : w6.cell? ⟨gv, 4, none⟩ = some (.slice b2 n2 m2) := by simp [World.cell?, hbv]
  have hv5 : w6.cell? ⟨gv, 5, none⟩ = some (.slice c2 n3 m3) := by simp [World.cell?, hbv]
  clear hbv
  have hgvl : gv < w6.heap.size := Nat.lt_of_lt_of_le (Array.getElem?_eq_some_iff.1 HBV.out).1 HG6.out.size
  have hbv2 : w6.heap[gv]? = _ := HR.out.block (HG6.out) HBV.out (by decide)
  have hfz : ∀ i, w6.frozen? ⟨gv, i, none⟩ = false := fun i => by simp [World.frozen?, hbv2]
  have hne : v5.ownBlock ≠ some gv := fun e => by obtain ⟨c, f, h⟩ := HR6.out.kind gv e; rw [hbv2] at h; cases h
  have HBV2 := Lib.hid hbv2
  clear hbv2
  have HNE := Lib.hid hne
  clear hne
  go_wp2_with fail
  refine (HY.out.add _ _ _ ((((((HR6.out.set (p := ⟨gv, 0, none⟩) HNE.out _).set (p := ⟨gv, 1, none⟩) HNE.out _).set (p := ⟨gv, 2, none⟩) HNE.out _).set (p := ⟨gv, 3, none⟩) HNE.out _).set (p := ⟨gv, 4, none⟩) HNE.out _).set (p := ⟨gv, 5, none⟩) HNE.out _) ?_ ?_ (by first | omega | (simp; omega))).mono ?_
  · simp; omega
  · exact bel_sets (HBW.out.mono hB) HR.out (HG6.out) hB1 (Nat.le_trans hB hwv)
  rintro e w7 ⟨v7, rfl, r7, g7⟩
  have HRz : Hid (Bt B w7 v7 (l ++ (F ++ [32, 61, 32] ++ U))) := by show Bt _ _ _ _; simpa using r7
  have HGz : Hid (Gr w w7 v v7) := by show Gr _ _ _ _; exact (((((((HG6.out.pre HBW.out (fun k hk => (HR0.out.lt k hk).2)).set (p := ⟨gv, 0, none⟩) hwv _).set (p := ⟨gv, 1, none⟩) hwv _).set (p := ⟨gv, 2, none⟩) hwv _).set (p := ⟨gv, 3, none⟩) hwv _).set (p := ⟨gv, 4, none⟩) hwv _).set (p := ⟨gv, 5, none⟩) hwv _).trans g7
  clear r7 g7
  go_wp2
  go_ret
  exact ⟨v7, rfl, HRz.out, HGz.out⟩
end Go.Proofs.YtpgbfkdknggceaaGreatDoor

/-
  Package tree's addBinary: two parts, a sign between, in brackets, behind a row.
  Conditions: as each theorem says.
-/
import Derived.Test.YtpgbfkdknggceaaGreatDoorTrAdd0
namespace Go.Proofs.YtpgbfkdknggceaaGreatDoor
open Go.RowKit TM
set_option linter.unusedVariables false
def valB (v : Value) (gb : Nat) (vp x : Value) : Nat → Option Value
  | 0 => some v
  | 3 => some (.pointer (some ⟨gb, 3, none⟩))
  | 4 => some vp
  | 5 => some x
  | _ => none
set_option maxRecDepth 100000 in
set_option maxHeartbeats 4000000 in
theorem addBinary_any {n : Nat} (hA : Small n) {op : Nat} {num : Int} {text : ByteArray} {parts : List TE} {params : List ByteArray} {body : List TS} (hsz : szE (.mk op num text parts params body) ≤ n) (sg : ByteArray)
    {B : Nat} {w : World} {v : Value} {l : Bs} {vp vn vb : Value} (hR : Bt B w v l) (hB : B ≤ w.heap.size) (hG : Lg B w) (hE : EIn (· < B) w (.mk op num text parts params body) vp vn vb) (hl : l.length + (binT sg.data.toList (txEs parts)).length ≤ 1000000000) :
    Calls Tryz.prog 39 #[v, .string sg, exV (.mk op num text parts params body) vp vn vb] w fun en w' => ∃ v', en = .returned v' ∧ Bt B w' v' (l ++ binT sg.data.toList (txEs parts)) ∧ Gr w w' v v' := by
  have hszp : szEs parts < n := by unfold szE at hsz; omega
  have hszb : szSs body < n := by unfold szE at hsz; omega
  have hE2 := hE
  obtain ⟨_, ⟨pa, pc, rfl, hpc1, hpc2, hpg⟩, ⟨na, nc, rfl, hnc1, hnc2, hng⟩, ⟨ba, bc, rfl, hbc1, hbc2, hbg⟩⟩ := hE2
  obtain ⟨x, hx⟩ := pack hA hE.2.1 hB hG 0 (by omega) hszp
  obtain ⟨y, hy⟩ := pack hA hE.2.1 hB hG 1 (by omega) hszp
  have hT : binT sg.data.toList (txEs parts) = [40] ++ pt (txEs parts) 0 ++ [32] ++ sg.data.toList ++ [32] ++ pt (txEs parts) 1 ++ [41] := rfl
  rw [hT] at hl ⊢
  clear hT
  generalize pt (txEs parts) 0 = T at hl hx ⊢
  generalize pt (txEs parts) 1 = U at hl hy ⊢
  have hsg : sg.data.toList.length = sg.size := rfl
  have hlT : l.length + T.length + U.length + sg.size + 4 ≤ 1000000000 := by simp at hl; rw [← hsg]; simp; omega
  have HX : Hid (Pk B w (.slice pa parts.length pc) 0 T x) := hx
  have HY : Hid (Pk B w (.slice pa parts.length pc) 1 U y) := hy
  have HR0 : Hid (Bt B w v l) := hR
  have HSG : Hid (sg.data.toList.length = sg.size) := hsg
  clear hE hl hx hy hA hsz hszp hszb hR hG hpc1 hpc2 hpg hnc1 hnc2 hng hbc1 hbc2 hbg hsg
  unfold exV
  go_enter Tryz.func39, Tryz.ntmps39
  go_wp2_with fail
  obtain ⟨w1, hw1⟩ : ∃ w1, w1 = w.alloc (.cells #[.int .i64 (op : Int), .int .i64 num, .string text, .slice pa parts.length pc, .slice na params.length nc, .slice ba body.length bc] 35) := ⟨_, rfl⟩
  obtain ⟨gb, hgb⟩ : ∃ gb, gb = w.heap.size := ⟨_, rfl⟩
  have HBW : Hid (Below w.heap.size w w1) := by rw [hw1]; exact (Below.refl _ _).alloc (Nat.le_refl _) _
  have HBX : Hid (w1.heap[gb]? = some (.cells #[.int .i64 (op : Int), .int .i64 num, .string text, .slice pa parts.length pc, .slice na params.length nc, .slice ba body.length bc] 35 (0, 0))) := by rw [hw1, hgb]; exact heap_alloc_new _ _
  have HR : Hid (Bt B w1 v l) := by rw [hw1]; exact HR0.out.alloc _
  have hB1 : B ≤ w1.heap.size := Nat.le_trans hB HBW.out.size
  rw [← hw1, ← hgb]
  clear hw1 hgb
  refine region_sh (valB v gb (.slice pa parts.length pc) x) (JC B w1 v l [(2, 9, [40]), (6, 13, T), (7, 0, [])] 1 8 2 [40] 7 0) (by kernel_rfl) (by kernel_rfl) (by kernel_rfl) (JC.start HR.out _ rfl) ?_ ?_
  · intro hon q hq L a1 W hC hl hBh hS hJ K hK
    have hqn : q < 8 := hq
    clear hq
    rcases (show q = 0 ∨ q = 1 ∨ q = 2 ∨ q = 3 ∨ q = 4 ∨ q = 5 ∨ q = 6 ∨ q = 7 from by omega) with rfl | rfl | rfl | rfl | rfl | rfl | rfl | rfl
    · have hz : L 7 = false := closed_not hC hl (i := 7) (j := 0) rfl (g := .phase) (by simp) rfl
      have e0 := (eval_tmp a1 0).symm.trans (hJ.s0 hz)
      refine wpOp_step rfl (fun K' hK' => ?_)
      go_simp
      exact hK' _ _ (hK _ _ (hS.put hon (i := 0) rfl rfl (fun u hu => by cases hu; rfl)) (hJ.pure (by simp) (by decide)))
    · refine wpOp_step rfl (fun K' hK' => ?_)
      go_simp
      exact hK' _ _ (hK _ _ (hS.put hon (i := 1) rfl rfl (fun u hu => by cases hu)) (hJ.build (by simp) (by decide) (by rw [hS.size]; exact (by decide : (8 : Nat) < 28)) rfl rfl))
    · have n6 : L 6 = false := closed_not hC hl (i := 6) (j := 2) rfl (g := .data) (by simp) rfl
      have n7 : L 7 = false := closed_not hC n6 (i := 7) (j := 6) rfl (g := .data) (by simp) rfl
      have hx : curX L l [(2, 9, [40]), (6, 13, T), (7, 0, [])] = l := by simp [curX, hl]
      have e7 := (hS.get hBh (i := 2) rfl 0 (by simp) rfl rfl rfl)
      have hbi : L 1 = true := hBh _ rfl ⟨1, .data⟩ (by simp) rfl
      obtain ⟨g, u, W2, hge, hrun, hT⟩ := hJ.put (C1 := []) (C2 := [(6, 13, T), (7, 0, [])]) hB1 (by rw [hS.size]; exact (by decide : (9 : Nat) < 28)) (by simp) hl hbi (by simp [n6, n7]) (by decide) (k := 1) rfl (by decide) (vc := v) (by simp [cur, hl]) (by refine Nat.le_trans (Nat.add_le_add_right (Nat.le_of_eq (congrArg List.length hx)) _) ?_; first | omega | (simp; omega)) 38
      refine wpOp_run rfl rfl (v := u) (w' := W2) ?_ (hK _ _ (hS.put hon (i := 2) rfl rfl (fun u hu => by cases hu)) hT)
      simp [execOp, resolve, invoke, builtin, e7, hge, hrun, Result.andThen]
    · have e5 := (eval_tmp a1 5).symm.trans ((hS.kept 5 (by kernel_rfl)).trans rfl)
      refine wpOp_step rfl (fun K' hK' => ?_)
      go_simp
      exact hK' _ _ (hK _ _ (hS.put hon (i := 3) rfl rfl (fun u hu => by cases hu; rfl)) (hJ.pure (by simp) (by decide)))
    · have e10 := (eval_tmp a1 10).symm.trans (hS.get hBh (i := 4) rfl 3 (by simp) rfl rfl rfl)
      have hbx : W.heap[gb]? = _ := HR.out.block hJ.gr HBX.out (by decide)
      have hcl : W.cell? ⟨gb, 3, none⟩ = some (.slice pa parts.length pc) := by simp [World.cell?, hbx]
      refine wpOp_step rfl (fun K' hK' => ?_)
      go_simp
      exact hK' _ _ (hK _ _ (hS.put hon (i := 4) rfl rfl (fun u hu => by cases hu; rfl)) (hJ.pure (by simp) (by decide)))
    · have e11 := (eval_tmp a1 11).symm.trans (hS.get hBh (i := 5) rfl 4 (by simp) rfl rfl rfl)
      have hbel := HR.out.bel hJ.gr hB1
      refine wpOp_call (f := 56) (args := #[.slice pa parts.length pc, .int .i64 0]) (R := fun u W2 => u = x ∧ Below W.heap.size W W2) rfl rfl (by simp [execOp, resolve, invoke, e11, go_sem]) ((HX.out.part _ ((HBW.out.mono hB).trans hbel)).mono fun e W2 ⟨h1, h2⟩ => ⟨_, h1, rfl, h2⟩) ?_
      rintro u W2 ⟨rfl, r2⟩
      exact hK _ _ (hS.put hon (i := 5) rfl rfl (fun u hu => by cases hu; rfl)) (hJ.pureB (by simp) (by decide) r2)
    · have d2 : L 2 = true := hBh _ rfl ⟨2, .data⟩ (by simp) rfl
      have n7 : L 7 = false := closed_not hC hl (i := 7) (j := 6) rfl (g := .data) (by simp) rfl
      obtain ⟨vc, hvc⟩ : ∃ x, a1.eval (.tmp 9) = x := ⟨_, rfl⟩
      have hx : curX L l [(2, 9, [40]), (6, 13, T), (7, 0, [])] = l ++ ([40]) := by simp [curX, d2, hl]
      have e12 := (eval_tmp a1 12).symm.trans (hS.get hBh (i := 6) rfl 5 (by simp) rfl rfl rfl)
      have hvc2 := (eval_tmp a1 9).symm.trans hvc
      have hrow := hJ.row
      rw [hx] at hrow
      have hcu : cur L a1 v [(2, 9, [40]), (6, 13, T), (7, 0, [])] = vc := (by rw [← hvc]; simp [cur, d2, hl])
      rw [hcu] at hrow
      have hgr := hJ.gr
      rw [hcu] at hgr
      have hB2 : B ≤ W.heap.size := Nat.le_trans hB1 hgr.size
      have hbel := HR.out.bel hgr hB1
      refine wpOp_call (f := 23) (args := #[vc, x]) (R := fun u W2 => Bt B W2 u (l ++ ([40]) ++ (T)) ∧ Gr W W2 vc u) rfl rfl (by simp [execOp, resolve, invoke, e12, hvc2, go_sem]) ((HX.out.add W vc _ hrow hB2 ((HBW.out.mono hB).trans hbel) (by first | omega | (simp; omega))).mono fun e W2 ⟨u, h1, h2, h3⟩ => ⟨u, h1, h2, h3⟩) ?_
      rintro u W2 ⟨r1, r2⟩
      exact hK _ _ (hS.put hon (i := 6) rfl rfl (fun u hu => by cases hu)) (hJ.step (C1 := [(2, 9, [40])]) (C2 := [(7, 0, [])]) (by rw [hS.size]; exact (by decide : (13 : Nat) < 28)) (by simp [d2]) hl (by simp [n7]) (by decide) (by show Bt B W2 u (curX L l [(2, 9, [40]), (6, 13, T), (7, 0, [])] ++ (T)); rw [hx]; exact r1) (by show Gr W W2 (cur L a1 v [(2, 9, [40]), (6, 13, T), (7, 0, [])]) u; rw [hcu]; exact r2))
    · have d6 : L 6 = true := hBh _ rfl ⟨6, .data⟩ (by simp) rfl
      have d2 : L 2 = true := hBh _ rfl ⟨2, .phase⟩ (by simp) rfl
      obtain ⟨vc, hvc⟩ : ∃ x, a1.eval (.tmp 13) = x := ⟨_, rfl⟩
      have hx : curX L l [(2, 9, [40]), (6, 13, T), (7, 0, [])] = l ++ ([40]) ++ (T) := by simp [curX, d2, d6, hl, List.append_assoc]
      have e9 := (eval_tmp a1 13).symm.trans hvc
      refine wpOp_step rfl (fun K' hK' => ?_)
      go_simp
      exact hK' _ _ (hK _ _ (hS.put hon (i := 7) rfl rfl (fun u hu => by cases hu)) (hJ.hand (C1 := [(2, 9, [40]), (6, 13, T)]) (C2 := []) (by rw [hS.size]; exact (by decide : (0 : Nat) < 28)) (by simp [d2, d6]) hl (by simp) (by decide) (by rw [← hvc]; simp [cur, d2, d6, hl])))
  · intro L a1 w2 hl hS hJ
    have d2 : L 2 = true := hl 2 (by decide)
    have d6 : L 6 = true := hl 6 (by decide)
    have d7 : L 7 = true := hl 7 (by decide)
    have hcu : cur L a1 v [(2, 9, [40]), (6, 13, T), (7, 0, [])] = a1.eval (.tmp 0) := by simp [cur, d2, d6, d7]
    have hx : curX L l [(2, 9, [40]), (6, 13, T), (7, 0, [])] = l ++ ([40]) ++ (T) := by simp [curX, d2, d6, d7, List.append_assoc]
    have hrow := hJ.row
    have hgr := hJ.gr
    rw [hcu] at hgr
    rw [hcu, hx] at hrow
    have hfr := hS.frame [7, 8, 9, 10, 11, 12, 13, 0] rfl
    refine (‹∀ (a : Act) (w : World), Code.wp Tryz.prog _ _ a w → _› a1 w2 ?_)
    obtain ⟨z, hz⟩ : ∃ z : Nat → Value, z = fun k => a1.eval (.tmp k) := ⟨_, rfl⟩
    rw [← hz] at hfr
    have ze : a1.eval (.tmp 0) = z 0 := by rw [hz]
    rw [ze] at hrow hgr
    rw [hfr]
    clear hfr ze hz hS hJ hcu hx hl d2 d6 d7
    simp only [over, List.setIfInBounds_toArray, List.set_cons_zero, List.set_cons_succ]
    obtain ⟨v2, hv⟩ : ∃ u, z 0 = u := ⟨_, rfl⟩
    rw [hv] at hrow hgr ⊢
    clear hv
    have r2 := hrow
    have g2 := hgr
    clear hrow hgr
    have HR2 : Hid (Bt B w2 v2 (l ++ [40] ++ T)) := by show Bt _ _ _ _; simpa using r2
    have HG2 : Hid (Gr w1 w2 v v2) := by show Gr _ _ _ _; exact (Gr.refl _ _).trans g2
    have hB2 : B ≤ w2.heap.size := Nat.le_trans hB1 HG2.out.size
    clear r2 g2
    go_wp2_with (at_builtin; refine wpList_app_row rfl (.tmp 14) (.tmp 15) rfl rfl HR2.out hB2 [32] rfl (by rfl) rfl (by simp) (by first | omega | (simp; omega)) ?_)
    intro v3 w3 r3 g3
    have HR3 : Hid (Bt B w3 v3 (l ++ [40] ++ T ++ [32])) := by show Bt _ _ _ _; simpa using r3
    have HG3 : Hid (Gr w1 w3 v v3) := by show Gr _ _ _ _; exact (HG2.out).trans g3
    have hB3 : B ≤ w3.heap.size := Nat.le_trans hB1 HG3.out.size
    clear r3 g3
    go_wp2_with (at_builtin; refine wpList_app_str rfl (.tmp 16) (.tmp 17) rfl rfl HR3.out hB3 sg rfl (by show _ + sg.size ≤ _; first | omega | (simp; omega)) ?_)
    intro v4 w4 r4 g4
    have HR4 : Hid (Bt B w4 v4 (l ++ [40] ++ T ++ [32] ++ sg.data.toList)) := by show Bt _ _ _ _; simpa using r4
    have HG4 : Hid (Gr w1 w4 v v4) := by show Gr _ _ _ _; exact (HG3.out).trans g4
    have hB4 : B ≤ w4.heap.size := Nat.le_trans hB1 HG4.out.size
    clear r4 g4
    go_wp2_with (at_builtin; refine wpList_app_row rfl (.tmp 18) (.tmp 19) rfl rfl HR4.out hB4 [32] rfl (by rfl) rfl (by simp) (by first | omega | (simp; omega)) ?_)
    intro v5 w5 r5 g5
    have HR5 : Hid (Bt B w5 v5 (l ++ [40] ++ T ++ [32] ++ sg.data.toList ++ [32])) := by show Bt _ _ _ _; simpa using r5
    have HG5 : Hid (Gr w1 w5 v v5) := by show Gr _ _ _ _; exact (HG4.out).trans g5
    have hB5 : B ≤ w5.heap.size := Nat.le_trans hB1 HG5.out.size
    clear r5 g5
    have hbx5 : w5.heap[gb]? = _ := HR.out.block (HG5.out) HBX.out (by decide)
    have hc5_3 : w5.cell? ⟨gb, 3, none⟩ = some (.slice pa parts.length pc) := by simp [World.cell?, hbx5]
    clear hbx5
    go_wp2_with fail
    refine (HY.out.part _ ((HBW.out.mono hB).trans (HR.out.bel (HG5.out) hB1))).mono ?_
    rintro e w6 ⟨rfl, b6⟩
    have HR6 : Hid (Bt B w6 v5 (l ++ [40] ++ T ++ [32] ++ sg.data.toList ++ [32])) := by show Bt _ _ _ _; exact HR5.out.below b6
    have HG6 : Hid (Gr w1 w6 v v5) := by show Gr _ _ _ _; exact (HG5.out).below b6
    have hB6 : B ≤ w6.heap.size := Nat.le_trans hB1 HG6.out.size
    clear b6
    go_wp2_with fail
    refine (HY.out.add _ _ _ HR6.out hB6 ((HBW.out.mono hB).trans (HR.out.bel (HG6.out) hB1)) (by first | omega | (simp; omega))).mono ?_
    rintro e w7 ⟨v7, rfl, r7, g7⟩
    have HR7 : Hid (Bt B w7 v7 (l ++ [40] ++ T ++ [32] ++ sg.data.toList ++ [32] ++ U)) := by show Bt _ _ _ _; simpa using r7
    have HG7 : Hid (Gr w1 w7 v v7) := by show Gr _ _ _ _; exact (HG6.out).trans g7
    have hB7 : B ≤ w7.heap.size := Nat.le_trans hB1 HG7.out.size
    clear r7 g7
    go_wp2_with (at_builtin; refine wpList_app_row rfl (.tmp 25) (.tmp 26) rfl rfl HR7.out hB7 [41] rfl (by rfl) rfl (by simp) (by first | omega | (simp; omega)) ?_)
    intro v8 w8 r8 g8
    have HR8 : Hid (Bt B w8 v8 (l ++ [40] ++ T ++ [32] ++ sg.data.toList ++ [32] ++ U ++ [41])) := by show Bt _ _ _ _; simpa using r8
    have HG8 : Hid (Gr w1 w8 v v8) := by show Gr _ _ _ _; exact (HG7.out).trans g8
    have hB8 : B ≤ w8.heap.size := Nat.le_trans hB1 HG8.out.size
    clear r8 g8
    have HRz : Hid (Bt B w8 v8 (l ++ ([40] ++ T ++ [32] ++ sg.data.toList ++ [32] ++ U ++ [41]))) := by show Bt _ _ _ _; simpa using HR8.out
    have HGz : Hid (Gr w w8 v v8) := by show Gr _ _ _ _; exact (HG8.out).pre HBW.out (fun k hk => (HR0.out.lt k hk).2)
    go_wp2
    go_ret
    exact ⟨v8, rfl, HRz.out, HGz.out⟩
end Go.Proofs.YtpgbfkdknggceaaGreatDoor

/-
  addBinary, addField: of the trees that Awake wants.
  Conditions: as each theorem says.
-/
import Derived.Test.YtenfphbhofibjaaGreatDoorZTrCm
set_option maxRecDepth 100000
set_option maxHeartbeats 4000000
set_option linter.unusedVariables false
namespace Go.Proofs.YtenfphbhofibjaaGreatDoor
open Go.RowKit TM
def valB (v : Value) (gb : Nat) (vp x : Value) : Nat → Option Value
  | 0 => some v
  | 3 => some (.pointer (some ⟨gb, 3, none⟩))
  | 4 => some vp
  | 5 => some x
  | _ => none
theorem addBinary_any {n : Nat} (hA : Small n) {op : Nat} {num : Int} {text : ByteArray} {parts : List TE} {params : List ByteArray} {body : List TS} (hpl : PlL parts) (hsz : szE (.mk op num text parts params body) ≤ n) (sg : ByteArray)
    {B : Nat} {w : World} {v : Value} {l : Bs} {vp vn vb : Value} (hR : Bt B w v l) (hB : B ≤ w.heap.size) (hG : Lg B w) (hE : EIn (· < B) w (.mk op num text parts params body) vp vn vb) (hl : l.length + (binT sg.data.toList (txEs parts)).length ≤ 1000000000) :
    Calls Tryz.prog 78 #[v, .string sg, exV (.mk op num text parts params body) vp vn vb] w fun en w' => ∃ v', en = .returned v' ∧ Bt B w' v' (l ++ binT sg.data.toList (txEs parts)) ∧ Gr w w' v v' := by
  have hszp : szEs parts < n := by unfold szE at hsz; omega
  have hszb : szSs body < n := by unfold szE at hsz; omega
  have hE2 := hE
  obtain ⟨_, ⟨pa, pc, rfl, hpc1, hpc2, hpg⟩, ⟨na, nc, rfl, hnc1, hnc2, hng⟩, ⟨ba, bc, rfl, hbc1, hbc2, hbg⟩⟩ := hE2
  obtain ⟨x, hx⟩ := pack hpl hA hE.2.1 hB hG 0 (by omega) hszp
  obtain ⟨y, hy⟩ := pack hpl hA hE.2.1 hB hG 1 (by omega) hszp
  have hT : binT sg.data.toList (txEs parts) = [40] ++ pt (txEs parts) 0 ++ [32] ++ sg.data.toList ++ [32] ++ pt (txEs parts) 1 ++ [41] := rfl
  rw [hT] at hl ⊢
  clear hT
  generalize pt (txEs parts) 0 = T at hl hx ⊢
  generalize pt (txEs parts) 1 = U at hl hy ⊢
  have hsg : sg.data.toList.length = sg.size := rfl
  have hlT : l.length + T.length + U.length + sg.size + 4 ≤ 1000000000 := by simp at hl; rw [← hsg]; simp; omega
  have HX : Hid (Pk B w (.slice pa parts.length pc) 0 T x) := hx
  have HY : Hid (Pk B w (.slice pa parts.length pc) 1 U y) := hy
  have HR0 : Hid (Bt B w v l) := hR
  have HSG : Hid (sg.data.toList.length = sg.size) := hsg
  clear hpl hE hl hx hy hA hsz hszp hszb hR hG hpc1 hpc2 hpg hnc1 hnc2 hng hbc1 hbc2 hbg hsg
  unfold exV
  go_enter Tryz.func78, Tryz.ntmps78
  go_wp2_with fail
  obtain ⟨w1, hw1⟩ : ∃ w1, w1 = w.alloc (.cells #[.int .i64 (op : Int), .int .i64 num, .string text, .slice pa parts.length pc, .slice na params.length nc, .slice ba body.length bc] 35) := ⟨_, rfl⟩
  obtain ⟨gb, hgb⟩ : ∃ gb, gb = w.heap.size := ⟨_, rfl⟩
  have HBW : Hid (Below w.heap.size w w1) := by rw [hw1]; exact (Below.refl _ _).alloc (Nat.le_refl _) _
  have HBX : Hid (w1.heap[gb]? = some (.cells #[.int .i64 (op : Int), .int .i64 num, .string text, .slice pa parts.length pc, .slice na params.length nc, .slice ba body.length bc] 35 (0, 0))) := by rw [hw1, hgb]; exact heap_alloc_new _ _
  have HR : Hid (Bt B w1 v l) := by rw [hw1]; exact HR0.out.alloc _
  have hB1 : B ≤ w1.heap.size := Nat.le_trans hB HBW.out.size
  rw [← hw1, ← hgb]
  clear hw1 hgb
  refine region_sh (valB v gb (.slice pa parts.length pc) x) (JC B w1 v l [(2, 9, [40]), (6, 13, T), (7, 0, [])] 1 8 2 [40] 7 0) (by kernel_rfl) (by kernel_rfl) (by kernel_rfl) (JC.start HR.out _ rfl) ?_ ?_
  · intro hon q hq L a1 W hC hl hBh hS hJ K hK
    have hqn : q < 8 := hq
    clear hq
    rcases (show q = 0 ∨ q = 1 ∨ q = 2 ∨ q = 3 ∨ q = 4 ∨ q = 5 ∨ q = 6 ∨ q = 7 from by omega) with rfl | rfl | rfl | rfl | rfl | rfl | rfl | rfl
    · have hz : L 7 = false := closed_not hC hl (i := 7) (j := 0) rfl (g := .phase) (by simp) rfl
      have e0 := (eval_tmp a1 0).symm.trans (hJ.s0 hz)
      refine wpOp_step rfl (fun K' hK' => ?_)
      go_simp
      exact hK' _ _ (hK _ _ (hS.put hon (i := 0) rfl rfl (fun u hu => by cases hu; rfl)) (hJ.pure (by simp) (by decide)))
    · refine wpOp_step rfl (fun K' hK' => ?_)
      go_simp
      exact hK' _ _ (hK _ _ (hS.put hon (i := 1) rfl rfl (fun u hu => by cases hu)) (hJ.build (by simp) (by decide) (by rw [hS.size]; exact (by decide : (8 : Nat) < 28)) rfl rfl))
    · have n6 : L 6 = false := closed_not hC hl (i := 6) (j := 2) rfl (g := .data) (by simp) rfl
      have n7 : L 7 = false := closed_not hC n6 (i := 7) (j := 6) rfl (g := .data) (by simp) rfl
      have hx : curX L l [(2, 9, [40]), (6, 13, T), (7, 0, [])] = l := by simp [curX, hl]
      have e7 := (hS.get hBh (i := 2) rfl 0 (by simp) rfl rfl rfl)
      have hbi : L 1 = true := hBh _ rfl ⟨1, .data⟩ (by simp) rfl
      obtain ⟨g, u, W2, hge, hrun, hT⟩ := hJ.put (C1 := []) (C2 := [(6, 13, T), (7, 0, [])]) hB1 (by rw [hS.size]; exact (by decide : (9 : Nat) < 28)) (by simp) hl hbi (by simp [n6, n7]) (by decide) (k := 1) rfl (by decide) (vc := v) (by simp [cur, hl]) (by refine Nat.le_trans (Nat.add_le_add_right (Nat.le_of_eq (congrArg List.length hx)) _) ?_; first | omega | (simp; omega)) 47
      refine wpOp_run rfl rfl (v := u) (w' := W2) ?_ (hK _ _ (hS.put hon (i := 2) rfl rfl (fun u hu => by cases hu)) hT)
      simp [execOp, resolve, invoke, builtin, e7, hge, hrun, Result.andThen]
    · have e5 := (eval_tmp a1 5).symm.trans ((hS.kept 5 (by kernel_rfl)).trans rfl)
      refine wpOp_step rfl (fun K' hK' => ?_)
      go_simp
      exact hK' _ _ (hK _ _ (hS.put hon (i := 3) rfl rfl (fun u hu => by cases hu; rfl)) (hJ.pure (by simp) (by decide)))
    · have e10 := (eval_tmp a1 10).symm.trans (hS.get hBh (i := 4) rfl 3 (by simp) rfl rfl rfl)
      have hbx : W.heap[gb]? = _ := HR.out.block hJ.gr HBX.out (by decide)
      have hcl : W.cell? ⟨gb, 3, none⟩ = some (.slice pa parts.length pc) := by simp [World.cell?, hbx]
      refine wpOp_step rfl (fun K' hK' => ?_)
      go_simp
      exact hK' _ _ (hK _ _ (hS.put hon (i := 4) rfl rfl (fun u hu => by cases hu; rfl)) (hJ.pure (by simp) (by decide)))
    · have e11 := (eval_tmp a1 11).symm.trans (hS.get hBh (i := 5) rfl 4 (by simp) rfl rfl rfl)
      have hbel := HR.out.bel hJ.gr hB1
      refine wpOp_call (f := 100) (args := #[.slice pa parts.length pc, .int .i64 0]) (R := fun u W2 => u = x ∧ Below W.heap.size W W2) rfl rfl (by simp [execOp, resolve, invoke, e11, go_sem]) ((HX.out.part _ ((HBW.out.mono hB).trans hbel)).mono fun e W2 ⟨h1, h2⟩ => ⟨_, h1, rfl, h2⟩) ?_
      rintro u W2 ⟨rfl, r2⟩
      exact hK _ _ (hS.put hon (i := 5) rfl rfl (fun u hu => by cases hu; rfl)) (hJ.pureB (by simp) (by decide) r2)
    · have d2 : L 2 = true := hBh _ rfl ⟨2, .data⟩ (by simp) rfl
      have n7 : L 7 = false := closed_not hC hl (i := 7) (j := 6) rfl (g := .data) (by simp) rfl
      obtain ⟨vc, hvc⟩ : ∃ x, a1.eval (.tmp 9) = x := ⟨_, rfl⟩
      have hx : curX L l [(2, 9, [40]), (6, 13, T), (7, 0, [])] = l ++ ([40]) := by simp [curX, d2, hl]
      have e12 := (eval_tmp a1 12).symm.trans (hS.get hBh (i := 6) rfl 5 (by simp) rfl rfl rfl)
      have hvc2 := (eval_tmp a1 9).symm.trans hvc
      have hrow := hJ.row
      rw [hx] at hrow
      have hcu : cur L a1 v [(2, 9, [40]), (6, 13, T), (7, 0, [])] = vc := (by rw [← hvc]; simp [cur, d2, hl])
      rw [hcu] at hrow
      have hgr := hJ.gr
      rw [hcu] at hgr
      have hB2 : B ≤ W.heap.size := Nat.le_trans hB1 hgr.size
      have hbel := HR.out.bel hgr hB1
      refine wpOp_call (f := 53) (args := #[vc, x]) (R := fun u W2 => Bt B W2 u (l ++ ([40]) ++ (T)) ∧ Gr W W2 vc u) rfl rfl (by simp [execOp, resolve, invoke, e12, hvc2, go_sem]) ((HX.out.add W vc _ hrow hB2 ((HBW.out.mono hB).trans hbel) (by first | omega | (simp; omega))).mono fun e W2 ⟨u, h1, h2, h3⟩ => ⟨u, h1, h2, h3⟩) ?_
      rintro u W2 ⟨r1, r2⟩
      exact hK _ _ (hS.put hon (i := 6) rfl rfl (fun u hu => by cases hu)) (hJ.step (C1 := [(2, 9, [40])]) (C2 := [(7, 0, [])]) (by rw [hS.size]; exact (by decide : (13 : Nat) < 28)) (by simp [d2]) hl (by simp [n7]) (by decide) (by show Bt B W2 u (curX L l [(2, 9, [40]), (6, 13, T), (7, 0, [])] ++ (T)); rw [hx]; exact r1) (by show Gr W W2 (cur L a1 v [(2, 9, [40]), (6, 13, T), (7, 0, [])]) u; rw [hcu]; exact r2))
    · have d6 : L 6 = true := hBh _ rfl ⟨6, .data⟩ (by simp) rfl
      have d2 : L 2 = true := hBh _ rfl ⟨2, .phase⟩ (by simp) rfl
      obtain ⟨vc, hvc⟩ : ∃ x, a1.eval (.tmp 13) = x := ⟨_, rfl⟩
      have hx : curX L l [(2, 9, [40]), (6, 13, T), (7, 0, [])] = l ++ ([40]) ++ (T) := by simp [curX, d2, d6, hl, List.append_assoc]
      have e9 := (eval_tmp a1 13).symm.trans hvc
      refine wpOp_step rfl (fun K' hK' => ?_)
      go_simp
      exact hK' _ _ (hK _ _ (hS.put hon (i := 7) rfl rfl (fun u hu => by cases hu)) (hJ.hand (C1 := [(2, 9, [40]), (6, 13, T)]) (C2 := []) (by rw [hS.size]; exact (by decide : (0 : Nat) < 28)) (by simp [d2, d6]) hl (by simp) (by decide) (by rw [← hvc]; simp [cur, d2, d6, hl])))
  · intro L a1 w2 hl hS hJ
    have d2 : L 2 = true := hl 2 (by decide)
    have d6 : L 6 = true := hl 6 (by decide)
    have d7 : L 7 = true := hl 7 (by decide)
    have hcu : cur L a1 v [(2, 9, [40]), (6, 13, T), (7, 0, [])] = a1.eval (.tmp 0) := by simp [cur, d2, d6, d7]
    have hx : curX L l [(2, 9, [40]), (6, 13, T), (7, 0, [])] = l ++ ([40]) ++ (T) := by simp [curX, d2, d6, d7, List.append_assoc]
    have hrow := hJ.row
    have hgr := hJ.gr
    rw [hcu] at hgr
    rw [hcu, hx] at hrow
    have hfr := hS.frame [7, 8, 9, 10, 11, 12, 13, 0] rfl
    refine (‹∀ (a : Act) (w : World), Code.wp Tryz.prog _ _ a w → _› a1 w2 ?_)
    obtain ⟨z, hz⟩ : ∃ z : Nat → Value, z = fun k => a1.eval (.tmp k) := ⟨_, rfl⟩
    rw [← hz] at hfr
    have ze : a1.eval (.tmp 0) = z 0 := by rw [hz]
    rw [ze] at hrow hgr
    rw [hfr]
    clear hfr ze hz hS hJ hcu hx hl d2 d6 d7
    simp only [over, List.setIfInBounds_toArray, List.set_cons_zero, List.set_cons_succ]
    obtain ⟨v2, hv⟩ : ∃ u, z 0 = u := ⟨_, rfl⟩
    rw [hv] at hrow hgr ⊢
    clear hv
    have r2 := hrow
    have g2 := hgr
    clear hrow hgr
    have HR2 : Hid (Bt B w2 v2 (l ++ [40] ++ T)) := by show Bt _ _ _ _; simpa using r2
    have HG2 : Hid (Gr w1 w2 v v2) := by show Gr _ _ _ _; exact (Gr.refl _ _).trans g2
    have hB2 : B ≤ w2.heap.size := Nat.le_trans hB1 HG2.out.size
    clear r2 g2
    go_wp2_with (at_builtin; refine wpList_app_row rfl (.tmp 14) (.tmp 15) rfl rfl HR2.out hB2 [32] rfl (by rfl) rfl (by simp) (by first | omega | (simp; omega)) ?_)
    intro v3 w3 r3 g3
    have HR3 : Hid (Bt B w3 v3 (l ++ [40] ++ T ++ [32])) := by show Bt _ _ _ _; simpa using r3
    have HG3 : Hid (Gr w1 w3 v v3) := by show Gr _ _ _ _; exact (HG2.out).trans g3
    have hB3 : B ≤ w3.heap.size := Nat.le_trans hB1 HG3.out.size
    clear r3 g3
    go_wp2_with (at_builtin; refine wpList_app_str rfl (.tmp 16) (.tmp 17) rfl rfl HR3.out hB3 sg rfl (by show _ + sg.size ≤ _; first | omega | (simp; omega)) ?_)
    intro v4 w4 r4 g4
    have HR4 : Hid (Bt B w4 v4 (l ++ [40] ++ T ++ [32] ++ sg.data.toList)) := by show Bt _ _ _ _; simpa using r4
    have HG4 : Hid (Gr w1 w4 v v4) := by show Gr _ _ _ _; exact (HG3.out).trans g4
    have hB4 : B ≤ w4.heap.size := Nat.le_trans hB1 HG4.out.size
    clear r4 g4
    go_wp2_with (at_builtin; refine wpList_app_row rfl (.tmp 18) (.tmp 19) rfl rfl HR4.out hB4 [32] rfl (by rfl) rfl (by simp) (by first | omega | (simp; omega)) ?_)
    intro v5 w5 r5 g5
    have HR5 : Hid (Bt B w5 v5 (l ++ [40] ++ T ++ [32] ++ sg.data.toList ++ [32])) := by show Bt _ _ _ _; simpa using r5
    have HG5 : Hid (Gr w1 w5 v v5) := by show Gr _ _ _ _; exact (HG4.out).trans g5
    have hB5 : B ≤ w5.heap.size := Nat.le_trans hB1 HG5.out.size
    clear r5 g5
    have hbx5 : w5.heap[gb]? = _ := HR.out.block (HG5.out) HBX.out (by decide)
    have hc5_3 : w5.cell? ⟨gb, 3, none⟩ = some (.slice pa parts.length pc) := by simp [World.cell?, hbx5]
    clear hbx5
    go_wp2_with fail
    refine (HY.out.part _ ((HBW.out.mono hB).trans (HR.out.bel (HG5.out) hB1))).mono ?_
    rintro e w6 ⟨rfl, b6⟩
    have HR6 : Hid (Bt B w6 v5 (l ++ [40] ++ T ++ [32] ++ sg.data.toList ++ [32])) := by show Bt _ _ _ _; exact HR5.out.below b6
    have HG6 : Hid (Gr w1 w6 v v5) := by show Gr _ _ _ _; exact (HG5.out).below b6
    have hB6 : B ≤ w6.heap.size := Nat.le_trans hB1 HG6.out.size
    clear b6
    go_wp2_with fail
    refine (HY.out.add _ _ _ HR6.out hB6 ((HBW.out.mono hB).trans (HR.out.bel (HG6.out) hB1)) (by first | omega | (simp; omega))).mono ?_
    rintro e w7 ⟨v7, rfl, r7, g7⟩
    have HR7 : Hid (Bt B w7 v7 (l ++ [40] ++ T ++ [32] ++ sg.data.toList ++ [32] ++ U)) := by show Bt _ _ _ _; simpa using r7
    have HG7 : Hid (Gr w1 w7 v v7) := by show Gr _ _ _ _; exact (HG6.out).trans g7
    have hB7 : B ≤ w7.heap.size := Nat.le_trans hB1 HG7.out.size
    clear r7 g7
    go_wp2_with (at_builtin; refine wpList_app_row rfl (.tmp 25) (.tmp 26) rfl rfl HR7.out hB7 [41] rfl (by rfl) rfl (by simp) (by first | omega | (simp; omega)) ?_)
    intro v8 w8 r8 g8
    have HR8 : Hid (Bt B w8 v8 (l ++ [40] ++ T ++ [32] ++ sg.data.toList ++ [32] ++ U ++ [41])) := by show Bt _ _ _ _; simpa using r8
    have HG8 : Hid (Gr w1 w8 v v8) := by show Gr _ _ _ _; exact (HG7.out).trans g8
    have hB8 : B ≤ w8.heap.size := Nat.le_trans hB1 HG8.out.size
    clear r8 g8
    have HRz : Hid (Bt B w8 v8 (l ++ ([40] ++ T ++ [32] ++ sg.data.toList ++ [32] ++ U ++ [41]))) := by show Bt _ _ _ _; simpa using HR8.out
    have HGz : Hid (Gr w w8 v v8) := by show Gr _ _ _ _; exact (HG8.out).pre HBW.out (fun k hk => (HR0.out.lt k hk).2)
    go_wp2
    go_ret
    exact ⟨v8, rfl, HRz.out, HGz.out⟩
end Go.Proofs.YtenfphbhofibjaaGreatDoor

namespace Go.Proofs.YtenfphbhofibjaaGreatDoor
open Go.RowKit TM
theorem addField_any {n : Nat} (hA : Small n) {parts : List TE} (hpl : PlL parts) (hszp : szEs parts < n)
    {B : Nat} {w : World} {v : Value} {l : Bs} {vp : Value} (hR : Bt B w v l) (hB1 : B ≤ w.heap.size) (hG : Lg B w) (hE : EsIn B w vp parts) (hl : l.length + (fieldT (txEs parts)).length ≤ 1000000000) :
    Calls Tryz.prog 79 #[v, vp] w fun en w' => ∃ v', en = .returned v' ∧ Bt B w' v' (l ++ fieldT (txEs parts)) ∧ Gr w w' v v' := by
  obtain ⟨x, hx⟩ := pack hpl hA hE hB1 hG 0 (by omega) hszp
  obtain ⟨y, hy⟩ := pack hpl hA hE hB1 hG 1 (by omega) hszp
  have hT : fieldT (txEs parts) = pt (txEs parts) 0 ++ [91] ++ pt (txEs parts) 1 ++ [93] := rfl
  rw [hT] at hl ⊢
  clear hT
  generalize pt (txEs parts) 0 = T at hl hx ⊢
  generalize pt (txEs parts) 1 = U at hl hy ⊢
  have hlT : l.length + T.length + U.length + 2 ≤ 1000000000 := by simp at hl; omega
  have HX : Hid (Pk B w vp 0 T x) := hx
  have HY : Hid (Pk B w vp 1 U y) := hy
  have HR : Hid (Bt B w v l) := hR
  clear hpl hE hl hx hy hA hszp hR hG
  go_enter Tryz.func79, Tryz.ntmps79
  go_wp2_with fail
  refine (HX.out.part _ (HR.out.bel (Gr.refl _ _) hB1)).mono ?_
  rintro e w2 ⟨rfl, b2⟩
  have HR2 : Hid (Bt B w2 v (l)) := by show Bt _ _ _ _; exact HR.out.below b2
  have HG2 : Hid (Gr w w2 v v) := by show Gr _ _ _ _; exact (Gr.refl _ _).below b2
  have hB2 : B ≤ w2.heap.size := Nat.le_trans hB1 HG2.out.size
  clear b2
  go_wp2_with fail
  refine (HX.out.add _ _ _ HR2.out hB2 (HR.out.bel (HG2.out) hB1) (by first | omega | (simp; omega))).mono ?_
  rintro e w3 ⟨v3, rfl, r3, g3⟩
  have HR3 : Hid (Bt B w3 v3 (l ++ T)) := by show Bt _ _ _ _; simpa using r3
  have HG3 : Hid (Gr w w3 v v3) := by show Gr _ _ _ _; exact (HG2.out).trans g3
  have hB3 : B ≤ w3.heap.size := Nat.le_trans hB1 HG3.out.size
  clear r3 g3
  go_wp2_with (at_builtin; refine wpList_app_row rfl (.tmp 8) (.tmp 9) rfl rfl HR3.out hB3 [91] rfl (by rfl) rfl (by simp) (by first | omega | (simp; omega)) ?_)
  intro v4 w4 r4 g4
  have HR4 : Hid (Bt B w4 v4 (l ++ T ++ [91])) := by show Bt _ _ _ _; simpa using r4
  have HG4 : Hid (Gr w w4 v v4) := by show Gr _ _ _ _; exact (HG3.out).trans g4
  have hB4 : B ≤ w4.heap.size := Nat.le_trans hB1 HG4.out.size
  clear r4 g4
  go_wp2_with fail
  refine (HY.out.part _ (HR.out.bel (HG4.out) hB1)).mono ?_
  rintro e w5 ⟨rfl, b5⟩
  have HR5 : Hid (Bt B w5 v4 (l ++ T ++ [91])) := by show Bt _ _ _ _; exact HR4.out.below b5
  have HG5 : Hid (Gr w w5 v v4) := by show Gr _ _ _ _; exact (HG4.out).below b5
  have hB5 : B ≤ w5.heap.size := Nat.le_trans hB1 HG5.out.size
  clear b5
  go_wp2_with fail
  refine (HY.out.add _ _ _ HR5.out hB5 (HR.out.bel (HG5.out) hB1) (by first | omega | (simp; omega))).mono ?_
  rintro e w6 ⟨v6, rfl, r6, g6⟩
  have HR6 : Hid (Bt B w6 v6 (l ++ T ++ [91] ++ U)) := by show Bt _ _ _ _; simpa using r6
  have HG6 : Hid (Gr w w6 v v6) := by show Gr _ _ _ _; exact (HG5.out).trans g6
  have hB6 : B ≤ w6.heap.size := Nat.le_trans hB1 HG6.out.size
  clear r6 g6
  go_wp2_with (at_builtin; refine wpList_app_row rfl (.tmp 14) (.tmp 15) rfl rfl HR6.out hB6 [93] rfl (by rfl) rfl (by simp) (by first | omega | (simp; omega)) ?_)
  intro v7 w7 r7 g7
  have HR7 : Hid (Bt B w7 v7 (l ++ T ++ [91] ++ U ++ [93])) := by show Bt _ _ _ _; simpa using r7
  have HG7 : Hid (Gr w w7 v v7) := by show Gr _ _ _ _; exact (HG6.out).trans g7
  have hB7 : B ≤ w7.heap.size := Nat.le_trans hB1 HG7.out.size
  clear r7 g7
  have HRz : Hid (Bt B w7 v7 (l ++ (T ++ [91] ++ U ++ [93]))) := by show Bt _ _ _ _; simpa using HR7.out
  have HGz : Hid (Gr w w7 v v7) := by show Gr _ _ _ _; exact HG7.out
  go_wp2
  go_ret
  exact ⟨v7, rfl, HRz.out, HGz.out⟩
end Go.Proofs.YtenfphbhofibjaaGreatDoor

namespace Go.Proofs.YtenfphbhofibjaaGreatDoor
open Go.RowKit TM
section
variable {B : Nat} {w w' : World} {v v' : Value} {l : Bs}
theorem Gr.set (h : Gr w w' v v') {p : Addr} (hp : w.heap.size ≤ p.block) (x : Value) : Gr w (w'.setCell p x) v v' :=
  ⟨⟨h.g.os, h.g.tape, h.g.output, by simp [World.setCell]; exact h.size, fun j hj hn => (Below.heap_setCell _ _ _ _ (by omega)).trans (h.g.block j hj hn)⟩, h.o⟩
theorem Bt.set (h : Bt B w v l) {p : Addr} (hp : v.ownBlock ≠ some p.block) (x : Value) : Bt B (w.setCell p x) v l := by
  refine ⟨h.1, ?_⟩
  rcases h.2 with h0 | ⟨g, cap, cur, rfl, hg, hh, r⟩
  · exact .inl h0
  · exact .inr ⟨g, cap, cur, rfl, hg, (Below.heap_setCell _ _ _ _ (fun e => hp (by simp [Value.ownBlock, e]))).trans hh, r⟩
end
def valL (v : Value) (gb : Nat) (x : Value) : Nat → Option Value
  | 0 => some v
  | 2 => some (.pointer (some ⟨gb, 1, none⟩))
  | 3 => some x
  | _ => none
theorem bel_sets {B : Nat} {w w3 w' : World} {v v' : Value} {l : Bs} {g : Nat} {x0 x1 x2 x3 x4 x5 : Value} (h0 : Below B w w3) (hR : Bt B w3 v l) (hg : Gr w3 w' v v') (hB : B ≤ w3.heap.size) (hb : B ≤ g) : Below B w ((((((w'.setCell ⟨g, 0, none⟩ x0).setCell ⟨g, 1, none⟩ x1).setCell ⟨g, 2, none⟩ x2).setCell ⟨g, 3, none⟩ x3).setCell ⟨g, 4, none⟩ x4).setCell ⟨g, 5, none⟩ x5) :=
  (((((((h0.trans (hR.bel hg hB)).setCell hb _).setCell hb _).setCell hb _).setCell hb _).setCell hb _).setCell hb _)
theorem addSimplePut {n : Nat} (hA : Small n) {name : ByteArray} {exprs : List TE} (hpl : PlL exprs) {body els : List TS} {pos : Int} (hsz : szS (.mk 2 name exprs body els pos) ≤ n)
    {B : Nat} {w : World} {v : Value} {l : Bs} {vx vb ve : Value} (hR : Bt B w v l) (hB : B ≤ w.heap.size) (hG : Lg B w) (hE : SIn (· < B) w (.mk 2 name exprs body els pos) vx vb ve) (hl : l.length + (simpleT 2 name (txEs exprs)).length ≤ 1000000000) :
    Calls Tryz.prog 74 #[v, stV (.mk 2 name exprs body els pos) vx vb ve] w fun en w' => ∃ v', en = .returned v' ∧ Bt B w' v' (l ++ simpleT 2 name (txEs exprs)) ∧ Gr w w' v v' := by
  have hszx : szEs exprs < n := by unfold szS at hsz; omega
  have hszb : szSs body < n := by unfold szS at hsz; omega
  have hsze : szSs els < n := by unfold szS at hsz; omega
  have hE2 := hE
  obtain ⟨hk8, ⟨pa, pc, rfl, hpc1, hpc2, hpg⟩, ⟨na, nc, rfl, hnc1, hnc2, hng⟩, ⟨ba, bc, rfl, hbc1, hbc2, hbg⟩⟩ := hE2
  unfold maxLen at hpc2 hnc2 hbc2
  obtain ⟨x, hx⟩ := pack hpl hA (show EsIn B w _ exprs from hE.2.1) hB hG 0 (by omega) hszx
  obtain ⟨y, hy⟩ := pack hpl hA (show EsIn B w _ exprs from hE.2.1) hB hG 2 (by omega) hszx
  have HF : Hid (∀ W u X, Bt B W u X → B ≤ W.heap.size → Below B w W → X.length + (fieldT (txEs exprs)).length ≤ 1000000000 → Calls Tryz.prog 79 #[u, .slice pa exprs.length pc] W fun en W2 => ∃ u2, en = .returned u2 ∧ Bt B W2 u2 (X ++ fieldT (txEs exprs)) ∧ Gr W W2 u u2) := fun W u X h1 h2 h3 h4 => addField_any hA hpl hszx h1 h2 (hG.on h3) (EsIn.on (show EsIn B w _ exprs from hE.2.1) h3) h4
  have hT : simpleT 2 name (txEs exprs) = fieldT (txEs exprs) ++ [32, 61, 32] ++ pt (txEs exprs) 2 := rfl
  rw [hT] at hl ⊢
  clear hT
  generalize fieldT (txEs exprs) = F at hl HF ⊢
  generalize pt (txEs exprs) 2 = U at hl hy ⊢
  have hlT : l.length + F.length + U.length + 3 ≤ 1000000000 := by simp at hl; omega
  obtain ⟨op2, num2, text2, a2, b2, c2, n1, m1, n2, m2, n3, m3, rfl⟩ := hx.six
  obtain ⟨op4, num4, text4, a4, b4, c4, n41, m41, n42, m42, n43, m43, rfl⟩ := hy.six
  have HX : Hid (Pk B w (.slice pa exprs.length pc) 0 (pt (txEs exprs) 0) (.agg #[.int .i64 op2, .int .i64 num2, .string text2, .slice a2 n1 m1, .slice b2 n2 m2, .slice c2 n3 m3])) := hx
  have HR0 : Hid (Bt B w v l) := hR
  have HY : Hid (Pk B w (.slice pa exprs.length pc) 2 U (.agg #[.int .i64 op4, .int .i64 num4, .string text4, .slice a4 n41 m41, .slice b4 n42 m42, .slice c4 n43 m43])) := hy
  clear hpl hE hl hA hsz hszx hszb hsze hR hG hpc1 hpc2 hpg hnc1 hnc2 hng hbc1 hbg hx hbc2 hy
  unfold stV
  go_enter Tryz.func74, Tryz.ntmps74
  go_wp2_with fail
  obtain ⟨w1, hw1⟩ : ∃ w1, w1 = w.alloc (.cells #[.int .i64 2, .string name, .slice pa exprs.length pc, .slice na body.length nc, .slice ba els.length bc, .int .i64 pos] 30) := ⟨_, rfl⟩
  obtain ⟨gb, hgb⟩ : ∃ gb, gb = w.heap.size := ⟨_, rfl⟩
  have HBW1 : Hid (Below w.heap.size w w1) := by rw [hw1]; exact (Below.refl _ _).alloc (Nat.le_refl _) _
  have HBX1 : Hid (w1.heap[gb]? = some (.cells #[.int .i64 2, .string name, .slice pa exprs.length pc, .slice na body.length nc, .slice ba els.length bc, .int .i64 pos] 30 (0, 0))) := by rw [hw1, hgb]; exact heap_alloc_new _ _
  rw [← hw1, ← hgb]
  clear hw1 hgb
  refine (HX.out.part _ (HBW1.out.mono hB)).mono ?_
  rintro e w2 ⟨rfl, b2w⟩
  have HBW2 : Hid (Below w.heap.size w w2) := HBW1.out.trans (b2w.mono HBW1.out.size)
  have HBX2 : Hid (w2.heap[gb]? = some (.cells #[.int .i64 2, .string name, .slice pa exprs.length pc, .slice na body.length nc, .slice ba els.length bc, .int .i64 pos] 30 (0, 0))) := by show _ = _; rw [b2w.block gb (Array.getElem?_eq_some_iff.1 HBX1.out).1]; exact HBX1.out
  clear b2w HBX1 HBW1
  have hbx2 := HBX2.out
  have hcx : w2.cell? ⟨gb, 0, none⟩ = some (.int .i64 2) := by simp [World.cell?, hbx2]
  have hgb2 : gb < w2.heap.size := (Array.getElem?_eq_some_iff.1 hbx2).1
  have hcy : w2.cell? ⟨gb, 2, none⟩ = some (.slice pa exprs.length pc) := by simp [World.cell?, hbx2]
  clear hbx2
  go_wp2_with fail
  obtain ⟨w3, hw3⟩ : ∃ w3, w3 = w2.alloc (.cells #[.int .i64 op2, .int .i64 num2, .string text2, .slice a2 n1 m1, .slice b2 n2 m2, .slice c2 n3 m3] 35) := ⟨_, rfl⟩
  obtain ⟨gv, hgv⟩ : ∃ gv, gv = w2.heap.size := ⟨_, rfl⟩
  have HBW : Hid (Below w.heap.size w w3) := by rw [hw3]; exact HBW2.out.alloc HBW2.out.size _
  have HBX : Hid (w3.heap[gb]? = some (.cells #[.int .i64 2, .string name, .slice pa exprs.length pc, .slice na body.length nc, .slice ba els.length bc, .int .i64 pos] 30 (0, 0))) := by show _ = _; rw [hw3, Below.heap_alloc _ _ _ hgb2]; exact HBX2.out
  have HBV : Hid (w3.heap[gv]? = some (.cells #[.int .i64 op2, .int .i64 num2, .string text2, .slice a2 n1 m1, .slice b2 n2 m2, .slice c2 n3 m3] 35 (0, 0))) := by rw [hw3, hgv]; exact heap_alloc_new _ _
  have hwv : w.heap.size ≤ gv := by rw [hgv]; exact HBW2.out.size
  have HR : Hid (Bt B w3 v l) := by rw [hw3]; exact (HR0.out.below HBW2.out).alloc _
  have hB1 : B ≤ w3.heap.size := Nat.le_trans hB HBW.out.size
  rw [← hw3, ← hgv]
  clear hw3 hgv HBX2 hcx hgb2 hcy
  refine (HF.out _ _ _ HR.out hB1 ((HBW.out.mono hB).trans (HR.out.bel (Gr.refl _ _) hB1)) (by first | omega | (simp; omega))).mono ?_
  rintro e w4 ⟨v4, rfl, r4, g4⟩
  have HR4 : Hid (Bt B w4 v4 (l ++ F)) := by show Bt _ _ _ _; simpa using r4
  have HG4 : Hid (Gr w3 w4 v v4) := by show Gr _ _ _ _; exact (Gr.refl _ _).trans g4
  have hB4 : B ≤ w4.heap.size := Nat.le_trans hB1 HG4.out.size
  clear r4 g4
  go_wp2_with (at_builtin; refine wpList_app_str rfl (.tmp 31) _ rfl rfl HR4.out hB4 ⟨#[32, 61, 32]⟩ rfl (by show _ + 3 ≤ _; first | omega | (simp; omega)) ?_)
  intro v5 w5 r5 g5
  have HR5 : Hid (Bt B w5 v5 (l ++ F ++ [32, 61, 32])) := by show Bt _ _ _ _; simpa using r5
  have HG5 : Hid (Gr w3 w5 v v5) := by show Gr _ _ _ _; exact (HG4.out).trans g5
  have hB5 : B ≤ w5.heap.size := Nat.le_trans hB1 HG5.out.size
  clear r5 g5
  have hbx5 : w5.heap[gb]? = _ := HR.out.block (HG5.out) HBX.out (by decide)
  have hc5_2 : w5.cell? ⟨gb, 2, none⟩ = some (.slice pa exprs.length pc) := by simp [World.cell?, hbx5]
  clear hbx5
  go_wp2_with fail
  refine (HY.out.part _ ((HBW.out.mono hB).trans (HR.out.bel (HG5.out) hB1))).mono ?_
  rintro e w6 ⟨rfl, b6⟩
  have HR6 : Hid (Bt B w6 v5 (l ++ F ++ [32, 61, 32])) := by show Bt _ _ _ _; exact HR5.out.below b6
  have HG6 : Hid (Gr w3 w6 v v5) := by show Gr _ _ _ _; exact (HG5.out).below b6
  have hB6 : B ≤ w6.heap.size := Nat.le_trans hB1 HG6.out.size
  clear b6
  have hbv : w6.heap[gv]? = _ := HR.out.block (HG6.out) HBV.out (by decide)
  have hv0 : w6.cell? ⟨gv, 0, none⟩ = some (.int .i64 op2) := by simp [World.cell?, hbv]
  have hv1 : w6.cell? ⟨gv, 1, none⟩ = some (.int .i64 num2) := by simp [World.cell?, hbv]
  have hv2 : w6.cell? ⟨gv, 2, none⟩ = some (.string text2) := by simp [World.cell?, hbv]
  have hv3 : w6.cell? ⟨gv, 3, none⟩ = some (.slice a2 n1 m1) := by simp [World.cell?, hbv]
  have hv4 : w6.cell? ⟨gv, 4, none⟩ = some (.slice b2 n2 m2) := by simp [World.cell?, hbv]
  have hv5 : w6.cell? ⟨gv, 5, none⟩ = some (.slice c2 n3 m3) := by simp [World.cell?, hbv]
  clear hbv
  have hgvl : gv < w6.heap.size := Nat.lt_of_lt_of_le (Array.getElem?_eq_some_iff.1 HBV.out).1 HG6.out.size
  have hbv2 : w6.heap[gv]? = _ := HR.out.block (HG6.out) HBV.out (by decide)
  have hfz : ∀ i, w6.frozen? ⟨gv, i, none⟩ = false := fun i => by simp [World.frozen?, hbv2]
  have hne : v5.ownBlock ≠ some gv := fun e => by obtain ⟨c, f, h⟩ := HR6.out.kind gv e; rw [hbv2] at h; cases h
  have HBV2 := Lib.hid hbv2
  clear hbv2
  have HNE := Lib.hid hne
  clear hne
  go_wp2_with fail
  refine (HY.out.add _ _ _ ((((((HR6.out.set (p := ⟨gv, 0, none⟩) HNE.out _).set (p := ⟨gv, 1, none⟩) HNE.out _).set (p := ⟨gv, 2, none⟩) HNE.out _).set (p := ⟨gv, 3, none⟩) HNE.out _).set (p := ⟨gv, 4, none⟩) HNE.out _).set (p := ⟨gv, 5, none⟩) HNE.out _) ?_ ?_ (by first | omega | (simp; omega))).mono ?_
  · simp; omega
  · exact bel_sets (HBW.out.mono hB) HR.out (HG6.out) hB1 (Nat.le_trans hB hwv)
  rintro e w7 ⟨v7, rfl, r7, g7⟩
  have HRz : Hid (Bt B w7 v7 (l ++ (F ++ [32, 61, 32] ++ U))) := by show Bt _ _ _ _; simpa using r7
  have HGz : Hid (Gr w w7 v v7) := by show Gr _ _ _ _; exact (((((((HG6.out.pre HBW.out (fun k hk => (HR0.out.lt k hk).2)).set (p := ⟨gv, 0, none⟩) hwv _).set (p := ⟨gv, 1, none⟩) hwv _).set (p := ⟨gv, 2, none⟩) hwv _).set (p := ⟨gv, 3, none⟩) hwv _).set (p := ⟨gv, 4, none⟩) hwv _).set (p := ⟨gv, 5, none⟩) hwv _).trans g7
  clear r7 g7
  go_wp2
  go_ret
  exact ⟨v7, rfl, HRz.out, HGz.out⟩

theorem addStmt2 {name : ByteArray} {exprs : List TE} {body els : List TS} {pos : Int} {pa na ba : Option Addr} {pc nc bc : Nat} {B : Nat} {w : World} {v : Value} {l M : Bs} (hR : Bt B w v l) (hB : B ≤ w.heap.size) (hlM : l.length + M.length + 1 ≤ 1000000000)
    (HM : Hid (∀ W u X, Bt B W u X → B ≤ W.heap.size → Below B w W → X.length + M.length ≤ 1000000000 → Calls Tryz.prog 74 #[u, .agg #[.int .i64 2, .string name, .slice pa exprs.length pc, .slice na body.length nc, .slice ba els.length bc, .int .i64 pos]] W fun en W2 => ∃ u2, en = .returned u2 ∧ Bt B W2 u2 (X ++ M) ∧ Gr W W2 u u2)) :
    Calls Tryz.prog 52 #[v, .agg #[.int .i64 2, .string name, .slice pa exprs.length pc, .slice na body.length nc, .slice ba els.length bc, .int .i64 pos]] w fun en w' => ∃ v', en = .returned v' ∧ Bt B w' v' (l ++ (M ++ [59] ++ [10])) ∧ Gr w w' v v' := by
  have HR0 : Hid (Bt B w v l) := hR
  clear hR
  go_enter Tryz.func52, Tryz.ntmps52
  go_wp2_with fail
  obtain ⟨w1, hw1⟩ : ∃ w1, w1 = w.alloc (.cells #[.int .i64 2, .string name, .slice pa exprs.length pc, .slice na body.length nc, .slice ba els.length bc, .int .i64 pos] 30) := ⟨_, rfl⟩
  obtain ⟨gb, hgb⟩ : ∃ gb, gb = w.heap.size := ⟨_, rfl⟩
  have HBW : Hid (Below w.heap.size w w1) := by rw [hw1]; exact (Below.refl _ _).alloc (Nat.le_refl _) _
  have HBX : Hid (w1.heap[gb]? = some (.cells #[.int .i64 2, .string name, .slice pa exprs.length pc, .slice na body.length nc, .slice ba els.length bc, .int .i64 pos] 30 (0, 0))) := by rw [hw1, hgb]; exact heap_alloc_new _ _
  have HR : Hid (Bt B w1 v l) := by rw [hw1]; exact HR0.out.alloc _
  have hB1 : B ≤ w1.heap.size := Nat.le_trans hB HBW.out.size
  rw [← hw1, ← hgb]
  clear hw1 hgb
  refine (HM.out _ _ _ HR.out hB1 (HBW.out.mono hB) (by first | omega | (simp; omega))).mono ?_
  rintro e w2 ⟨v2, rfl, r2, g2⟩
  have HR2 : Hid (Bt B w2 v2 (l ++ M)) := by show Bt _ _ _ _; simpa using r2
  have HG2 : Hid (Gr w1 w2 v v2) := by show Gr _ _ _ _; exact (Gr.refl _ _).trans g2
  have hB2 : B ≤ w2.heap.size := Nat.le_trans hB1 HG2.out.size
  clear r2 g2
  go_wp2_with (at_builtin; refine wpList_app_row rfl (.tmp 9) (.tmp 10) rfl rfl HR2.out hB2 [59] rfl (by rfl) rfl (by simp) (by first | omega | (simp; omega)) ?_)
  intro v3 w3 r3 g3
  have HR3 : Hid (Bt B w3 v3 (l ++ M ++ [59])) := by show Bt _ _ _ _; simpa using r3
  have HG3 : Hid (Gr w1 w3 v v3) := by show Gr _ _ _ _; exact (HG2.out).trans g3
  have hB3 : B ≤ w3.heap.size := Nat.le_trans hB1 HG3.out.size
  clear r3 g3
  go_wp2_with (at_builtin; refine wpList_app_row rfl (.tmp 19) (.tmp 20) rfl rfl HR3.out hB3 [10] rfl (by rfl) rfl (by simp) (by first | omega | (simp; omega)) ?_)
  intro v4 w4 r4 g4
  have HR4 : Hid (Bt B w4 v4 (l ++ M ++ [59] ++ [10])) := by show Bt _ _ _ _; simpa using r4
  have HG4 : Hid (Gr w1 w4 v v4) := by show Gr _ _ _ _; exact (HG3.out).trans g4
  have hB4 : B ≤ w4.heap.size := Nat.le_trans hB1 HG4.out.size
  clear r4 g4
  have HRz : Hid (Bt B w4 v4 (l ++ (M ++ [59] ++ [10]))) := by show Bt _ _ _ _; simpa using HR4.out
  have HGz : Hid (Gr w w4 v v4) := by show Gr _ _ _ _; exact (HG4.out).pre HBW.out (fun k hk => (HR0.out.lt k hk).2)
  go_wp2
  go_ret
  exact ⟨v4, rfl, HRz.out, HGz.out⟩
def valX (v : Value) (gb k : Nat) (s x : Value) : Nat → Option Value
  | 0 => some v
  | 1 => some (.pointer (some ⟨gb, 0, none⟩))
  | 2 => some (.int .i64 (k : Int))
  | 3 => some (.pointer (some ⟨3, k, none⟩))
  | 4 => some s
  | 5 => some x
  | _ => none
theorem addExpr0 {num : Int} {text : ByteArray} {parts : List TE} {params : List ByteArray} {body : List TS} {pa na ba : Option Addr} {pc nc bc : Nat} {B : Nat} {w : World} {v : Value} {l M : Bs} (hR : Bt B w v l) (hB : B ≤ w.heap.size) (hlM : l.length + M.length ≤ 1000000000) (hM : M = [110, 105, 108]) :
    Calls Tryz.prog 53 #[v, .agg #[.int .i64 0, .int .i64 num, .string text, .slice pa parts.length pc, .slice na params.length nc, .slice ba body.length bc]] w fun en w' => ∃ v', en = .returned v' ∧ Bt B w' v' (l ++ M) ∧ Gr w w' v v' := by
  subst hM
  have hlT : l.length + 3 ≤ 1000000000 := by simp at hlM; omega
  clear hlM
  have HR0 : Hid (Bt B w v l) := hR
  clear hR
  go_enter Tryz.func53, Tryz.ntmps53
  go_wp2_with (at_builtin; refine Hid.out ?_)
  refine Lib.hid ?_
  obtain ⟨w1, hw1⟩ : ∃ w1, w1 = w.alloc (.cells #[.int .i64 0, .int .i64 num, .string text, .slice pa parts.length pc, .slice na params.length nc, .slice ba body.length bc] 35) := ⟨_, rfl⟩
  obtain ⟨gb, hgb⟩ : ∃ gb, gb = w.heap.size := ⟨_, rfl⟩
  have HBW : Hid (Below w.heap.size w w1) := by rw [hw1]; exact (Below.refl _ _).alloc (Nat.le_refl _) _
  have HBX : Hid (w1.heap[gb]? = some (.cells #[.int .i64 0, .int .i64 num, .string text, .slice pa parts.length pc, .slice na params.length nc, .slice ba body.length bc] 35 (0, 0))) := by rw [hw1, hgb]; exact heap_alloc_new _ _
  have HR : Hid (Bt B w1 v l) := by rw [hw1]; exact HR0.out.alloc _
  have hB1 : B ≤ w1.heap.size := Nat.le_trans hB HBW.out.size
  rw [← hw1, ← hgb]
  clear hw1 hgb
  refine wpList_app_str rfl (.tmp 9) _ rfl rfl HR.out hB1 ⟨#[110, 105, 108]⟩ rfl (by show _ + 3 ≤ _; first | omega | (simp; omega)) ?_
  intro v2 w2 r2 g2
  have HR2 : Hid (Bt B w2 v2 (l ++ [110, 105, 108])) := by show Bt _ _ _ _; simpa using r2
  have HG2 : Hid (Gr w1 w2 v v2) := by show Gr _ _ _ _; exact (Gr.refl _ _).trans g2
  have hB2 : B ≤ w2.heap.size := Nat.le_trans hB1 HG2.out.size
  clear r2 g2
  have HRz : Hid (Bt B w2 v2 (l ++ [110, 105, 108])) := by show Bt _ _ _ _; simpa using HR2.out
  have HGz : Hid (Gr w w2 v v2) := by show Gr _ _ _ _; exact (HG2.out).pre HBW.out (fun k hk => (HR0.out.lt k hk).2)
  go_wp2
  go_ret
  exact ⟨v2, rfl, HRz.out, HGz.out⟩
theorem addExpr3 {num : Int} {text : ByteArray} {parts : List TE} {params : List ByteArray} {body : List TS} {pa na ba : Option Addr} {pc nc bc : Nat} {B : Nat} {w : World} {v : Value} {l M : Bs} (hR : Bt B w v l) (hB : B ≤ w.heap.size) (hlM : l.length + M.length ≤ 1000000000)
    (HM : Hid (∀ W u X, Bt B W u X → B ≤ W.heap.size → Below B w W → X.length + M.length ≤ 1000000000 → Calls Tryz.prog 75 #[u, .int .i64 num, .int .i64 10] W fun en W2 => ∃ u2, en = .returned u2 ∧ Bt B W2 u2 (X ++ M) ∧ Gr W W2 u u2)) :
    Calls Tryz.prog 53 #[v, .agg #[.int .i64 3, .int .i64 num, .string text, .slice pa parts.length pc, .slice na params.length nc, .slice ba body.length bc]] w fun en w' => ∃ v', en = .returned v' ∧ Bt B w' v' (l ++ M) ∧ Gr w w' v v' := by
  have HR0 : Hid (Bt B w v l) := hR
  clear hR
  go_enter Tryz.func53, Tryz.ntmps53
  go_wp2_with fail
  obtain ⟨w1, hw1⟩ : ∃ w1, w1 = w.alloc (.cells #[.int .i64 3, .int .i64 num, .string text, .slice pa parts.length pc, .slice na params.length nc, .slice ba body.length bc] 35) := ⟨_, rfl⟩
  obtain ⟨gb, hgb⟩ : ∃ gb, gb = w.heap.size := ⟨_, rfl⟩
  have HBW : Hid (Below w.heap.size w w1) := by rw [hw1]; exact (Below.refl _ _).alloc (Nat.le_refl _) _
  have HBX : Hid (w1.heap[gb]? = some (.cells #[.int .i64 3, .int .i64 num, .string text, .slice pa parts.length pc, .slice na params.length nc, .slice ba body.length bc] 35 (0, 0))) := by rw [hw1, hgb]; exact heap_alloc_new _ _
  have HR : Hid (Bt B w1 v l) := by rw [hw1]; exact HR0.out.alloc _
  have hB1 : B ≤ w1.heap.size := Nat.le_trans hB HBW.out.size
  rw [← hw1, ← hgb]
  clear hw1 hgb
  refine (HM.out _ _ _ HR.out hB1 (HBW.out.mono hB) hlM).mono ?_
  rintro e w2 ⟨v2, rfl, r2, g2⟩
  have HR2 : Hid (Bt B w2 v2 (l ++ M)) := by show Bt _ _ _ _; simpa using r2
  have HG2 : Hid (Gr w1 w2 v v2) := by show Gr _ _ _ _; exact (Gr.refl _ _).trans g2
  have hB2 : B ≤ w2.heap.size := Nat.le_trans hB1 HG2.out.size
  clear r2 g2
  have HRz : Hid (Bt B w2 v2 (l ++ M)) := by show Bt _ _ _ _; simpa using HR2.out
  have HGz : Hid (Gr w w2 v v2) := by show Gr _ _ _ _; exact (HG2.out).pre HBW.out (fun k hk => (HR0.out.lt k hk).2)
  go_wp2
  go_ret
  exact ⟨v2, rfl, HRz.out, HGz.out⟩
theorem addExpr4 {num : Int} {text : ByteArray} {parts : List TE} {params : List ByteArray} {body : List TS} {pa na ba : Option Addr} {pc nc bc : Nat} {B : Nat} {w : World} {v : Value} {l M : Bs} (hR : Bt B w v l) (hB : B ≤ w.heap.size) (hlM : l.length + M.length ≤ 1000000000)
    (HM : Hid (∀ W u X, Bt B W u X → B ≤ W.heap.size → Below B w W → X.length + M.length ≤ 1000000000 → Calls Tryz.prog 76 #[u, .string text] W fun en W2 => ∃ u2, en = .returned u2 ∧ Bt B W2 u2 (X ++ M) ∧ Gr W W2 u u2)) :
    Calls Tryz.prog 53 #[v, .agg #[.int .i64 4, .int .i64 num, .string text, .slice pa parts.length pc, .slice na params.length nc, .slice ba body.length bc]] w fun en w' => ∃ v', en = .returned v' ∧ Bt B w' v' (l ++ M) ∧ Gr w w' v v' := by
  have HR0 : Hid (Bt B w v l) := hR
  clear hR
  go_enter Tryz.func53, Tryz.ntmps53
  go_wp2_with fail
  obtain ⟨w1, hw1⟩ : ∃ w1, w1 = w.alloc (.cells #[.int .i64 4, .int .i64 num, .string text, .slice pa parts.length pc, .slice na params.length nc, .slice ba body.length bc] 35) := ⟨_, rfl⟩
  obtain ⟨gb, hgb⟩ : ∃ gb, gb = w.heap.size := ⟨_, rfl⟩
  have HBW : Hid (Below w.heap.size w w1) := by rw [hw1]; exact (Below.refl _ _).alloc (Nat.le_refl _) _
  have HBX : Hid (w1.heap[gb]? = some (.cells #[.int .i64 4, .int .i64 num, .string text, .slice pa parts.length pc, .slice na params.length nc, .slice ba body.length bc] 35 (0, 0))) := by rw [hw1, hgb]; exact heap_alloc_new _ _
  have HR : Hid (Bt B w1 v l) := by rw [hw1]; exact HR0.out.alloc _
  have hB1 : B ≤ w1.heap.size := Nat.le_trans hB HBW.out.size
  rw [← hw1, ← hgb]
  clear hw1 hgb
  refine (HM.out _ _ _ HR.out hB1 (HBW.out.mono hB) hlM).mono ?_
  rintro e w2 ⟨v2, rfl, r2, g2⟩
  have HR2 : Hid (Bt B w2 v2 (l ++ M)) := by show Bt _ _ _ _; simpa using r2
  have HG2 : Hid (Gr w1 w2 v v2) := by show Gr _ _ _ _; exact (Gr.refl _ _).trans g2
  have hB2 : B ≤ w2.heap.size := Nat.le_trans hB1 HG2.out.size
  clear r2 g2
  have HRz : Hid (Bt B w2 v2 (l ++ M)) := by show Bt _ _ _ _; simpa using HR2.out
  have HGz : Hid (Gr w w2 v v2) := by show Gr _ _ _ _; exact (HG2.out).pre HBW.out (fun k hk => (HR0.out.lt k hk).2)
  go_wp2
  go_ret
  exact ⟨v2, rfl, HRz.out, HGz.out⟩
theorem addExpr5 {num : Int} {text : ByteArray} {parts : List TE} {params : List ByteArray} {body : List TS} {pa na ba : Option Addr} {pc nc bc : Nat} {B : Nat} {w : World} {v : Value} {l M : Bs} (hR : Bt B w v l) (hB : B ≤ w.heap.size) (hlM : l.length + M.length ≤ 1000000000) (hM : M = text.data.toList) :
    Calls Tryz.prog 53 #[v, .agg #[.int .i64 5, .int .i64 num, .string text, .slice pa parts.length pc, .slice na params.length nc, .slice ba body.length bc]] w fun en w' => ∃ v', en = .returned v' ∧ Bt B w' v' (l ++ M) ∧ Gr w w' v v' := by
  have hlT : l.length + text.size ≤ 1000000000 := by rw [hM] at hlM; exact hlM
  subst hM
  clear hlM
  have HR0 : Hid (Bt B w v l) := hR
  clear hR
  go_enter Tryz.func53, Tryz.ntmps53
  go_wp2_with (at_builtin; refine Hid.out ?_)
  refine Lib.hid ?_
  obtain ⟨w1, hw1⟩ : ∃ w1, w1 = w.alloc (.cells #[.int .i64 5, .int .i64 num, .string text, .slice pa parts.length pc, .slice na params.length nc, .slice ba body.length bc] 35) := ⟨_, rfl⟩
  obtain ⟨gb, hgb⟩ : ∃ gb, gb = w.heap.size := ⟨_, rfl⟩
  have HBW : Hid (Below w.heap.size w w1) := by rw [hw1]; exact (Below.refl _ _).alloc (Nat.le_refl _) _
  have HBX : Hid (w1.heap[gb]? = some (.cells #[.int .i64 5, .int .i64 num, .string text, .slice pa parts.length pc, .slice na params.length nc, .slice ba body.length bc] 35 (0, 0))) := by rw [hw1, hgb]; exact heap_alloc_new _ _
  have HR : Hid (Bt B w1 v l) := by rw [hw1]; exact HR0.out.alloc _
  have hB1 : B ≤ w1.heap.size := Nat.le_trans hB HBW.out.size
  rw [← hw1, ← hgb]
  clear hw1 hgb
  refine wpList_app_str rfl (.tmp 33) (.tmp 35) rfl rfl HR.out hB1 text rfl (by show _ + text.size ≤ _; first | omega | (simp; omega)) ?_
  intro v2 w2 r2 g2
  have HR2 : Hid (Bt B w2 v2 (l ++ text.data.toList)) := by show Bt _ _ _ _; simpa using r2
  have HG2 : Hid (Gr w1 w2 v v2) := by show Gr _ _ _ _; exact (Gr.refl _ _).trans g2
  have hB2 : B ≤ w2.heap.size := Nat.le_trans hB1 HG2.out.size
  clear r2 g2
  have HRz : Hid (Bt B w2 v2 (l ++ text.data.toList)) := by show Bt _ _ _ _; simpa using HR2.out
  have HGz : Hid (Gr w w2 v v2) := by show Gr _ _ _ _; exact (HG2.out).pre HBW.out (fun k hk => (HR0.out.lt k hk).2)
  go_wp2
  go_ret
  exact ⟨v2, rfl, HRz.out, HGz.out⟩
theorem addExpr8 {num : Int} {text : ByteArray} {parts : List TE} {params : List ByteArray} {body : List TS} {pa na ba : Option Addr} {pc nc bc : Nat} {B : Nat} {w : World} {v : Value} {l M : Bs} (hR : Bt B w v l) (hB : B ≤ w.heap.size) (hlM : l.length + M.length ≤ 1000000000) (hS : ∀ W, Below B w W → W.cell? ⟨3, 8, none⟩ = some (.string ⟨(sign 8).toArray⟩))
    (HM : Hid (∀ W u X, Bt B W u X → B ≤ W.heap.size → Below B w W → X.length + M.length ≤ 1000000000 → Calls Tryz.prog 78 #[u, .string ⟨(sign 8).toArray⟩, .agg #[.int .i64 8, .int .i64 num, .string text, .slice pa parts.length pc, .slice na params.length nc, .slice ba body.length bc]] W fun en W2 => ∃ u2, en = .returned u2 ∧ Bt B W2 u2 (X ++ M) ∧ Gr W W2 u u2)) :
    Calls Tryz.prog 53 #[v, .agg #[.int .i64 8, .int .i64 num, .string text, .slice pa parts.length pc, .slice na params.length nc, .slice ba body.length bc]] w fun en w' => ∃ v', en = .returned v' ∧ Bt B w' v' (l ++ M) ∧ Gr w w' v v' := by
  have HR0 : Hid (Bt B w v l) := hR
  clear hR
  have HS := Lib.hid hS
  clear hS
  go_enter Tryz.func53, Tryz.ntmps53
  go_wp2_with fail
  obtain ⟨w1, hw1⟩ : ∃ w1, w1 = w.alloc (.cells #[.int .i64 8, .int .i64 num, .string text, .slice pa parts.length pc, .slice na params.length nc, .slice ba body.length bc] 35) := ⟨_, rfl⟩
  obtain ⟨gb, hgb⟩ : ∃ gb, gb = w.heap.size := ⟨_, rfl⟩
  have HBW : Hid (Below w.heap.size w w1) := by rw [hw1]; exact (Below.refl _ _).alloc (Nat.le_refl _) _
  have HBX : Hid (w1.heap[gb]? = some (.cells #[.int .i64 8, .int .i64 num, .string text, .slice pa parts.length pc, .slice na params.length nc, .slice ba body.length bc] 35 (0, 0))) := by rw [hw1, hgb]; exact heap_alloc_new _ _
  have HR : Hid (Bt B w1 v l) := by rw [hw1]; exact HR0.out.alloc _
  have hB1 : B ≤ w1.heap.size := Nat.le_trans hB HBW.out.size
  rw [← hw1, ← hgb]
  clear hw1 hgb
  refine region_sh (valX v gb 8 (.string ⟨(sign 8).toArray⟩) (.agg #[.int .i64 8, .int .i64 num, .string text, .slice pa parts.length pc, .slice na params.length nc, .slice ba body.length bc])) (JC B w1 v l [(6, 60, M), (7, 4, [])] 1000 1000 1001 [] 1000 0) (by kernel_rfl) (by kernel_rfl) (by kernel_rfl) (JC.start HR.out _ rfl) ?_ ?_
  · intro hon q hq L a1 W hC hl hBh hS hJ K hK
    have hqn : q < 8 := hq
    clear hq
    rcases (show q = 0 ∨ q = 1 ∨ q = 2 ∨ q = 3 ∨ q = 4 ∨ q = 5 ∨ q = 6 ∨ q = 7 from by omega) with rfl | rfl | rfl | rfl | rfl | rfl | rfl | rfl
    · have e0 := (eval_tmp a1 0).symm.trans ((hS.kept 0 (by kernel_rfl)).trans rfl)
      refine wpOp_step rfl (fun K' hK' => ?_)
      go_simp
      exact hK' _ _ (hK _ _ (hS.put hon (i := 0) rfl rfl (fun u hu => by cases hu; rfl)) (hJ.pure (by simp) (by decide)))
    · have e3 := (eval_tmp a1 3).symm.trans ((hS.kept 3 (by kernel_rfl)).trans rfl)
      refine wpOp_step rfl (fun K' hK' => ?_)
      go_simp
      exact hK' _ _ (hK _ _ (hS.put hon (i := 1) rfl rfl (fun u hu => by cases hu; rfl)) (hJ.pure (by simp) (by decide)))
    · have e55 := (eval_tmp a1 55).symm.trans (hS.get hBh (i := 2) rfl 1 (by simp) rfl rfl rfl)
      have hbx : W.heap[gb]? = _ := HR.out.block hJ.gr HBX.out (by decide)
      have hcl2 : W.cell? ⟨gb, 0, none⟩ = some (.int .i64 8) := by simp [World.cell?, hbx]
      refine wpOp_step rfl (fun K' hK' => ?_)
      go_simp
      exact hK' _ _ (hK _ _ (hS.put hon (i := 2) rfl rfl (fun u hu => by cases hu; rfl)) (hJ.pure (by simp) (by decide)))
    · have e56 := (eval_tmp a1 56).symm.trans (hS.get hBh (i := 3) rfl 2 (by simp) rfl rfl rfl)
      refine wpOp_step rfl (fun K' hK' => ?_)
      go_simp
      exact hK' _ _ (hK _ _ (hS.put hon (i := 3) rfl rfl (fun u hu => by cases hu; rfl)) (hJ.pure (by simp) (by decide)))
    · have e57 := (eval_tmp a1 57).symm.trans (hS.get hBh (i := 4) rfl 3 (by simp) rfl rfl rfl)
      have hsg := HS.out W ((HBW.out.mono hB).trans (HR.out.bel hJ.gr hB1))
      refine wpOp_step rfl (fun K' hK' => ?_)
      go_simp
      exact hK' _ _ (hK _ _ (hS.put hon (i := 4) rfl rfl (fun u hu => by cases hu; rfl)) (hJ.pure (by simp) (by decide)))
    · have e3 := (eval_tmp a1 3).symm.trans ((hS.kept 3 (by kernel_rfl)).trans rfl)
      have hbx : W.heap[gb]? = _ := HR.out.block hJ.gr HBX.out (by decide)
      have hq0 : W.cell? ⟨gb, 0, none⟩ = some (.int .i64 8) := by simp [World.cell?, hbx]
      have hq1 : W.cell? ⟨gb, 1, none⟩ = some (.int .i64 num) := by simp [World.cell?, hbx]
      have hq2 : W.cell? ⟨gb, 2, none⟩ = some (.string text) := by simp [World.cell?, hbx]
      have hq3 : W.cell? ⟨gb, 3, none⟩ = some (.slice pa parts.length pc) := by simp [World.cell?, hbx]
      have hq4 : W.cell? ⟨gb, 4, none⟩ = some (.slice na params.length nc) := by simp [World.cell?, hbx]
      have hq5 : W.cell? ⟨gb, 5, none⟩ = some (.slice ba body.length bc) := by simp [World.cell?, hbx]
      refine wpOp_step rfl (fun K' hK' => ?_)
      go_simp
      exact hK' _ _ (hK _ _ (hS.put hon (i := 5) rfl rfl (fun u hu => by cases hu; rfl)) (hJ.pure (by simp) (by decide)))
    · have n7 : L 7 = false := closed_not hC hl (i := 7) (j := 6) rfl (g := .data) (by simp) rfl
      have hx : curX L l [(6, 60, M), (7, 4, [])] = l := by simp [curX, hl]
      have e54 := (eval_tmp a1 54).symm.trans (hS.get hBh (i := 6) rfl 0 (by simp) rfl rfl rfl)
      have e58 := (eval_tmp a1 58).symm.trans (hS.get hBh (i := 6) rfl 4 (by simp) rfl rfl rfl)
      have e59 := (eval_tmp a1 59).symm.trans (hS.get hBh (i := 6) rfl 5 (by simp) rfl rfl rfl)
      have hrow := hJ.row
      rw [hx] at hrow
      have hcu : cur L a1 v [(6, 60, M), (7, 4, [])] = v := (by simp [cur, hl])
      rw [hcu] at hrow
      have hgr := hJ.gr
      rw [hcu] at hgr
      have hB2 : B ≤ W.heap.size := Nat.le_trans hB1 hgr.size
      have hbel := HR.out.bel hgr hB1
      refine wpOp_call (f := 78) (args := #[v, .string ⟨(sign 8).toArray⟩, .agg #[.int .i64 8, .int .i64 num, .string text, .slice pa parts.length pc, .slice na params.length nc, .slice ba body.length bc]]) (R := fun u W2 => Bt B W2 u (l ++ (M)) ∧ Gr W W2 v u) rfl rfl (by simp [execOp, resolve, invoke, e54, e58, e59, go_sem]) ((HM.out W v _ hrow hB2 ((HBW.out.mono hB).trans hbel) (by first | omega | (simp; omega))).mono fun e W2 ⟨u, h1, h2, h3⟩ => ⟨u, h1, h2, h3⟩) ?_
      rintro u W2 ⟨r1, r2⟩
      exact hK _ _ (hS.put hon (i := 6) rfl rfl (fun u hu => by cases hu)) (hJ.step (C1 := []) (C2 := [(7, 4, [])]) (by rw [hS.size]; exact (by decide : (60 : Nat) < 83)) (by simp) hl (by simp [n7]) (by decide) (by show Bt B W2 u (curX L l [(6, 60, M), (7, 4, [])] ++ (M)); rw [hx]; exact r1) (by show Gr W W2 (cur L a1 v [(6, 60, M), (7, 4, [])]) u; rw [hcu]; exact r2))
    · have d6 : L 6 = true := hBh _ rfl ⟨6, .data⟩ (by simp) rfl
      obtain ⟨vc, hvc⟩ : ∃ x, a1.eval (.tmp 60) = x := ⟨_, rfl⟩
      have hx : curX L l [(6, 60, M), (7, 4, [])] = l ++ (M) := by simp [curX, d6, hl]
      have e9 := (eval_tmp a1 60).symm.trans hvc
      refine wpOp_step rfl (fun K' hK' => ?_)
      go_simp
      exact hK' _ _ (hK _ _ (hS.put hon (i := 7) rfl rfl (fun u hu => by cases hu)) (hJ.hand (C1 := [(6, 60, M)]) (C2 := []) (by rw [hS.size]; exact (by decide : (4 : Nat) < 83)) (by simp [d6]) hl (by simp) (by decide) (by rw [← hvc]; simp [cur, d6, hl])))
  · intro L a1 w2 hl hS hJ
    have d6 : L 6 = true := hl 6 (by decide)
    have d7 : L 7 = true := hl 7 (by decide)
    have hcu : cur L a1 v [(6, 60, M), (7, 4, [])] = a1.eval (.tmp 4) := by simp [cur, d6, d7]
    have hx : curX L l [(6, 60, M), (7, 4, [])] = l ++ (M) := by simp [curX, d6, d7]
    have hrow := hJ.row
    have hgr := hJ.gr
    rw [hcu] at hgr
    rw [hcu, hx] at hrow
    have hfr := hS.frame [54, 55, 56, 57, 58, 59, 60, 4] rfl
    refine (‹∀ (a : Act) (w : World), Code.wp Tryz.prog _ _ a w → _› a1 w2 ?_)
    obtain ⟨z, hz⟩ : ∃ z : Nat → Value, z = fun k => a1.eval (.tmp k) := ⟨_, rfl⟩
    rw [← hz] at hfr
    have ze : a1.eval (.tmp 4) = z 4 := by rw [hz]
    rw [ze] at hrow hgr
    rw [hfr]
    clear hfr ze hz hS hJ hcu hx hl d6 d7
    simp only [over, List.setIfInBounds_toArray, List.set_cons_zero, List.set_cons_succ]
    obtain ⟨v2, hv⟩ : ∃ u, z 4 = u := ⟨_, rfl⟩
    rw [hv] at hrow hgr ⊢
    clear hv
    have r2 := hrow
    have g2 := hgr
    clear hrow hgr
    have HR2 : Hid (Bt B w2 v2 (l ++ M)) := by show Bt _ _ _ _; simpa using r2
    have HG2 : Hid (Gr w1 w2 v v2) := by show Gr _ _ _ _; exact (Gr.refl _ _).trans g2
    have hB2 : B ≤ w2.heap.size := Nat.le_trans hB1 HG2.out.size
    clear r2 g2
    have HRz : Hid (Bt B w2 v2 (l ++ M)) := by show Bt _ _ _ _; simpa using HR2.out
    have HGz : Hid (Gr w w2 v v2) := by show Gr _ _ _ _; exact (HG2.out).pre HBW.out (fun k hk => (HR0.out.lt k hk).2)
    go_wp2
    go_ret
    exact ⟨v2, rfl, HRz.out, HGz.out⟩
theorem addNil : AddE noE := by
  intro hpl B w v l vp vn vb hR hB hG hE hl
  obtain ⟨_, ⟨pa, pc, rfl, _⟩, ⟨na, nc, rfl, _⟩, ⟨ba, bc, rfl, _⟩⟩ := hE
  exact addExpr0 (M := txE noE) hR hB hl rfl
theorem addExpr_any {n : Nat} (hA : Small n) (e : TE) (hsz : szE e ≤ n) : AddE e := by
  intro hpl B w v l vp vn vb hR hB hG hE hl
  cases e with
  | mk op num text parts params body =>
    have hE2 := hE
    obtain ⟨⟨h17, hn0, hn1⟩, ⟨pa, pc, rfl, _⟩, ⟨na, nc, rfl, _⟩, ⟨ba, bc, rfl, _⟩⟩ := hE2
    have hT : txE (.mk op num text parts params body) = exT op num text (txEs parts) params (txSs body) := by rw [txE]
    have hszp : szEs parts < n := by unfold szE at hsz; omega
    rw [hT] at hl ⊢
    rcases hpl.1 with rfl | rfl | rfl | rfl | rfl
    · exact addExpr0 hR hB hl rfl
    · exact addExpr3 hR hB hl (fun W u X h1 h2 h3 h4 => by
        have h5 : X.length ≤ 1000000000 := by omega
        exact appI_any h1 h2 num hn0 hn1 h5 (hG.on h3).tab.here)
    · exact addExpr4 hR hB hl (fun W u X h1 h2 h3 h4 => addQuote_any h1 h2 text (by
        have h5 : (exT 4 num text (txEs parts) params (txSs body)).length = (quoteT text.data.toList).length := rfl
        have h6 := (quoF_len text.data.toList).1
        have h7 : text.data.toList.length = text.size := rfl
        have h8 : (quoteT text.data.toList).length = (text.data.toList.flatMap quo).length + 2 := by simp [quoteT]
        rw [h5, h8] at h4
        omega))
    · exact addExpr5 hR hB hl rfl
    · exact addExpr8 hR hB hl (fun W h3 => (hG.on h3).signs 8 (by decide)) (fun W u X h1 h2 h3 h4 => addBinary_any hA hpl.2 hsz ⟨(sign 8).toArray⟩ h1 h2 (hG.on h3) (EIn.on hE h3) h4)
theorem small_all : ∀ n, Small n
  | 0 => ⟨fun e h => by rcases h with h | rfl; · omega
                        · exact addNil⟩
  | n + 1 => ⟨fun e h => by rcases h with h | rfl; · exact addExpr_any (small_all n) e (by omega)
                            · exact addNil⟩
theorem stmtString_put {name : ByteArray} {exprs : List TE} (hpl : PlL exprs) {body els : List TS} {pos : Int} {w : World} {vx vb ve : Value} (hG : Lg w.heap.size w) (hE : SIn (· < w.heap.size) w (.mk 2 name exprs body els pos) vx vb ve) (hl : (txS (.mk 2 name exprs body els pos)).length ≤ 1000000000) :
    Calls Tryz.prog 19 #[stV (.mk 2 name exprs body els pos) vx vb ve] w fun e w' => e = .returned (.string ⟨(txS (.mk 2 name exprs body els pos)).toArray⟩) ∧ Below w.heap.size w w' := by
  have HA : Hid (∀ W, Below w.heap.size w W → Calls Tryz.prog 52 #[.slice none 0 0, stV (.mk 2 name exprs body els pos) vx vb ve] W fun en w' => ∃ v', en = .returned v' ∧ Bt w.heap.size w' v' ([] ++ txS (.mk 2 name exprs body els pos)) ∧ Gr W w' (.slice none 0 0) v') := fun W hb => by
    have hE2 := hE
    obtain ⟨hk8, ⟨pa, pc, rfl, _⟩, ⟨na, nc, rfl, _⟩, ⟨ba, bc, rfl, _⟩⟩ := hE2
    have hM : txS (.mk 2 name exprs body els pos) = simpleT 2 name (txEs exprs) ++ [59] ++ [10] := by rw [txS]; rfl
    rw [hM] at hl ⊢
    exact addStmt2 (Bt.nil _ W) hb.size (by simp at hl ⊢; omega) (fun W2 u X h1 h2 h3 h4 => addSimplePut (small_all (szS (.mk 2 name exprs body els pos))) hpl (Nat.le_refl _) h1 h2 (hG.on (hb.trans h3)) (SIn.on hE (hb.trans h3)) h4)
  obtain ⟨hk8, ⟨pa, pc, rfl, _⟩, ⟨na, nc, rfl, _⟩, ⟨ba, bc, rfl, _⟩⟩ := hE
  unfold stV at HA ⊢
  generalize txS (.mk 2 name exprs body els pos) = T at HA hl ⊢
  clear hG hl
  go_enter Tryz.func19, Tryz.ntmps19
  go_wp2_with fail
  obtain ⟨w1, hw1⟩ : ∃ w1, w1 = w.alloc (.cells #[.int .i64 2, .string name, .slice pa exprs.length pc, .slice na body.length nc, .slice ba els.length bc, .int .i64 pos] 30) := ⟨_, rfl⟩
  have HBW : Hid (Below w.heap.size w w1) := by rw [hw1]; exact (Below.refl _ _).alloc (Nat.le_refl _) _
  rw [← hw1]
  clear hw1
  refine (HA.out w1 HBW.out).mono ?_
  rintro e w2 ⟨v1, rfl, h1, k1⟩
  have hc := run_text h1
  rw [List.nil_append] at hc
  have HK : Hid (Below w.heap.size w w2) := HBW.out.trans ((Bt.nil _ w1).bel k1 HBW.out.size)
  clear h1 k1 HA
  go_wp2
  go_ret
  exact ⟨rfl, HK.out⟩
end Go.Proofs.YtenfphbhofibjaaGreatDoor

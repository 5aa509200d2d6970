/-
  Package tree's addFn: parameters and a body, behind a row.
  Conditions: as each theorem says.
-/
import Derived.Test.YtpgbfkdknggceaaGreatDoorTrField
import Derived.Test.YtpgbfkdknggceaaGreatDoorTrLists
namespace Go.Proofs.YtpgbfkdknggceaaGreatDoor
open Go.RowKit TM
set_option linter.unusedVariables false
def valF (v : Value) (gb : Nat) (vb : Value) : Nat → Option Value
  | 0 => some v
  | 2 => some (.pointer (some ⟨gb, 5, none⟩))
  | 3 => some vb
  | _ => none
set_option maxRecDepth 100000 in
set_option maxHeartbeats 4000000 in
theorem addFn_any {n : Nat} (hA : Small n) {op : Nat} {num : Int} {text : ByteArray} {parts : List TE} {params : List ByteArray} {body : List TS} (hsz : szE (.mk op num text parts params body) ≤ n)
    {B : Nat} {w : World} {v : Value} {l : Bs} {vp vn vb : Value} (hR : Bt B w v l) (hB : B ≤ w.heap.size) (hG : Lg B w) (hE : EIn (· < B) w (.mk op num text parts params body) vp vn vb) (hl : l.length + (fnT params (txSs body)).length ≤ 1000000000) :
    Calls Tryz.prog 43 #[v, exV (.mk op num text parts params body) vp vn vb] w fun en w' => ∃ v', en = .returned v' ∧ Bt B w' v' (l ++ fnT params (txSs body)) ∧ Gr w w' v v' := by
  have hszp : szEs parts < n := by unfold szE at hsz; omega
  have hszb : szSs body < n := by unfold szE at hsz; omega
  have hE2 := hE
  obtain ⟨_, ⟨pa, pc, rfl, hpc1, hpc2, hpg⟩, ⟨na, nc, rfl, hnc1, hnc2, hng⟩, ⟨ba, bc, rfl, hbc1, hbc2, hbg⟩⟩ := hE2
  have HBL : Hid (∀ W u X, Bt B W u X → B ≤ W.heap.size → Below B w W → X.length + (blockT (txSs body)).length ≤ 1000000000 → Calls Tryz.prog 57 #[u, .slice ba body.length bc] W fun en W2 => ∃ u2, en = .returned u2 ∧ Bt B W2 u2 (X ++ blockT (txSs body)) ∧ Gr W W2 u u2) := fun W u X h1 h2 h3 h4 => addBlock_any hA hszb h1 h2 (hG.on h3) (SsIn.on (show SsIn B w _ body from hE.2.2.2) h3) h4
  have HPG : Hid (0 < params.length → ∃ g o, na = some ⟨g, o, none⟩ ∧ g < B ∧ StrAt w g o params) := hng
  have hT : fnT params (txSs body) = [102, 110, 40] ++ commas (params.map fun p => p.data.toList) ++ [41, 32] ++ blockT (txSs body) := rfl
  rw [hT] at hl ⊢
  clear hT
  obtain ⟨C, hC0, hC1, hC2, hC3⟩ := front (params.map fun p => p.data.toList)
  have HC0 : Hid (C 0 = []) := hC0
  have HC1 : Hid (∀ j (e : ByteArray), params[j]? = some e → C (j + 1) = C j ++ com j ++ e.data.toList) := fun j e he => hC1 j _ (by rw [List.getElem?_map, he]; rfl)
  have HC3 : Hid (∀ j, params.length ≤ j → C j = commas (params.map fun p => p.data.toList)) := fun j hj => hC3 j (by rw [List.length_map]; exact hj)
  generalize commas (params.map fun p => p.data.toList) = M at hl hC2 HC3 ⊢
  generalize blockT (txSs body) = V at hl HBL ⊢
  have hlT : l.length + M.length + V.length + 5 ≤ 1000000000 := by simp at hl; omega
  have hlC : ∀ j, (C j).length ≤ M.length := hC2
  have HR0 : Hid (Bt B w v l) := hR
  unfold maxLen at hnc2
  clear hE hl hA hsz hszp hszb hR hG hpg hpc1 hpc2 hng hbc1 hbc2 hbg hC0 hC1 hC2 hC3
  unfold exV
  go_enter Tryz.func43, Tryz.ntmps43
  go_wp2_with (at_builtin; refine Hid.out ?_)
  refine Lib.hid ?_
  obtain ⟨w1, hw1⟩ : ∃ w1, w1 = w.alloc (.cells #[.int .i64 (op : Int), .int .i64 num, .string text, .slice pa parts.length pc, .slice na params.length nc, .slice ba body.length bc] 35) := ⟨_, rfl⟩
  obtain ⟨gb, hgb⟩ : ∃ gb, gb = w.heap.size := ⟨_, rfl⟩
  have HBW : Hid (Below w.heap.size w w1) := by rw [hw1]; exact (Below.refl _ _).alloc (Nat.le_refl _) _
  have HBX : Hid (w1.heap[gb]? = some (.cells #[.int .i64 (op : Int), .int .i64 num, .string text, .slice pa parts.length pc, .slice na params.length nc, .slice ba body.length bc] 35 (0, 0))) := by rw [hw1, hgb]; exact heap_alloc_new _ _
  have HR : Hid (Bt B w1 v l) := by rw [hw1]; exact HR0.out.alloc _
  have hB1 : B ≤ w1.heap.size := Nat.le_trans hB HBW.out.size
  rw [← hw1, ← hgb]
  clear hw1 hgb
  refine wpList_app_str rfl (.tmp 7) _ rfl rfl HR.out hB1 ⟨#[102, 110, 40]⟩ rfl (by show _ + 3 ≤ _; first | omega | (simp; omega)) ?_
  intro v2 w2 r2 g2
  have HR2 : Hid (Bt B w2 v2 (l ++ [102, 110, 40])) := by show Bt _ _ _ _; simpa using r2
  have HG2 : Hid (Gr w1 w2 v v2) := by show Gr _ _ _ _; exact (Gr.refl _ _).trans g2
  have hB2 : B ≤ w2.heap.size := Nat.le_trans hB1 HG2.out.size
  clear r2 g2
  have hbx2 : w2.heap[gb]? = _ := HR.out.block (HG2.out) HBX.out (by decide)
  have hc2_4 : w2.cell? ⟨gb, 4, none⟩ = some (.slice na params.length nc) := by simp [World.cell?, hbx2]
  clear hbx2
  go_wp2_with fail
  go_loopw [12, 0] (fun i u wr => ∃ j : Nat, i = .int .i64 (j : Int) ∧ j ≤ params.length ∧ Hid (Bt B wr u (l ++ [102, 110, 40] ++ C j)) ∧ Hid (Gr w1 wr v u))
    (fun i _ _ => params.length - (intOf i).toNat)
  case atStart => exact ⟨0, rfl, Nat.zero_le _, by rw [HC0.out, List.append_nil]; exact HR2, HG2⟩
  case round =>
    obtain ⟨j, rfl, hjp, HRj, HGj⟩ := hrel
    have hBj : B ≤ wr.heap.size := Nat.le_trans hB1 HGj.out.size
    have hjm := hlC j
    obtain ⟨A, hA⟩ : ∃ A, l ++ [102, 110, 40] ++ C j = A := ⟨_, rfl⟩
    have hAl : A.length ≤ l.length + M.length + 3 := by rw [← hA]; simp; omega
    rw [hA] at HRj
    have HA : Hid (l ++ [102, 110, 40] ++ C j = A) := hA
    clear hA
    have HBEL : Hid (Below B w wr) := (HBW.out.mono hB).trans (HR.out.bel HGj.out hB1)
    by_cases hlt : j < params.length
    · obtain ⟨e, he⟩ : ∃ e, params[j]? = some e := ⟨_, List.getElem?_eq_getElem hlt⟩
      obtain ⟨ga, oa, rfl, hgB, hEs⟩ := HPG.out (by omega)
      have HCE : Hid (∀ W, Below B w W → W.cell? ⟨ga, oa + j, none⟩ = some (.string e)) := fun W hb => (hb.cell (p := ⟨ga, oa + j, none⟩) hgB).trans (hEs.get he)
      have hes : e.data.toList.length = e.size := rfl
      have HN : Hid (l ++ [102, 110, 40] ++ C (j + 1) = A ++ com j ++ e.data.toList) := by show _ = _; rw [← HA.out, HC1.out j e he]; simp
      have hjm2 := hlC (j + 1)
      have hNl : A.length + (com j).length + e.size ≤ l.length + M.length + 3 := by have := congrArg List.length HN.out; rw [← hes]; simp at this ⊢; omega
      have hidx : 0 ≤ (j : Int) ∧ (j : Int) < (params.length : Int) := ⟨by omega, by omega⟩
      have hgl : ga < wr.heap.size := Nat.lt_of_lt_of_le hgB hBj
      have hce := HCE.out wr HBEL.out
      clear he hEs hes HC1
      by_cases h0 : j = 0
      · subst h0
        have HN2 : Hid (l ++ [102, 110, 40] ++ C (0 + 1) = A ++ e.data.toList) := by show _ = _; rw [HN.out]; simp [com]
        clear HN
        simp only [Nat.add_zero] at hce
        go_wp2_with (at_builtin; refine wpList_app_str rfl (.tmp 21) (.tmp 22) rfl rfl HRj.out hBj e rfl (by show _ + e.size ≤ _; first | omega | (simp; omega)) ?_)
        intro v3 w3 r3 g3
        have HR3 : Hid (Bt B w3 v3 (A ++ e.data.toList)) := by show Bt _ _ _ _; simpa using r3
        have HG3 : Hid (Gr w1 w3 v v3) := by show Gr _ _ _ _; exact (HGj.out).trans g3
        have hB3 : B ≤ w3.heap.size := Nat.le_trans hB1 HG3.out.size
        clear r3 g3
        have HRz : Hid (Bt B w3 v3 (l ++ [102, 110, 40] ++ C (0 + 1))) := by show Bt _ _ _ _; rw [HN2.out]; simpa using HR3.out
        go_wp2_with fail
        go_roundw
        case rel => exact ⟨0 + 1, by go_num, by omega, HRz, HG3⟩
        case measure => simp [intOf]; omega
      · have hc0 : decide ((0 : Int) < (j : Int)) = true := by simp; omega
        have HN2 : Hid (l ++ [102, 110, 40] ++ C (j + 1) = A ++ [44, 32] ++ e.data.toList) := by show _ = _; rw [HN.out]; simp [com, h0]
        have hcm : (com j).length = 2 := by simp [com, h0]
        clear HN
        go_wp2_with (at_builtin; refine wpList_app_str rfl (.tmp 19) _ rfl rfl HRj.out hBj ⟨#[44, 32]⟩ rfl (by show _ + 2 ≤ _; first | omega | (simp; omega)) ?_)
        intro v4 w4 r4 g4
        have HR4 : Hid (Bt B w4 v4 (A ++ [44, 32])) := by show Bt _ _ _ _; simpa using r4
        have HG4 : Hid (Gr w1 w4 v v4) := by show Gr _ _ _ _; exact (HGj.out).trans g4
        have hB4 : B ≤ w4.heap.size := Nat.le_trans hB1 HG4.out.size
        clear r4 g4
        go_wp2_with (at_builtin; refine wpList_app_str rfl (.tmp 21) (.tmp 22) rfl rfl HR4.out hB4 e rfl (by show _ + e.size ≤ _; first | omega | (simp; omega)) ?_)
        intro v5 w5 r5 g5
        have HR5 : Hid (Bt B w5 v5 (A ++ [44, 32] ++ e.data.toList)) := by show Bt _ _ _ _; simpa using r5
        have HG5 : Hid (Gr w1 w5 v v5) := by show Gr _ _ _ _; exact (HG4.out).trans g5
        have hB5 : B ≤ w5.heap.size := Nat.le_trans hB1 HG5.out.size
        clear r5 g5
        have HRz : Hid (Bt B w5 v5 (l ++ [102, 110, 40] ++ C (j + 1))) := by show Bt _ _ _ _; rw [HN2.out]; simpa using HR5.out
        go_wp2_with fail
        go_roundw
        case rel => exact ⟨j + 1, by go_num, by omega, HRz, HG5⟩
        case measure => simp [intOf]; omega
    · obtain rfl : j = params.length := by omega
      have HM : Hid (l ++ [102, 110, 40] ++ M = A) := by show _ = _; rw [← HA.out, HC3.out _ (Nat.le_refl _)]
      clear HC1 HC3 HC0 HPG
      go_wp2_with fail
      refine region_sh (valF u0 gb (.slice ba body.length bc)) (JC B wr u0 A [(1, 26, (⟨#[41, 32]⟩ : ByteArray).data.toList), (4, 29, V), (5, 4, [])] 1000 1000 1001 [] 1000 0) (by kernel_rfl) (by kernel_rfl) (by kernel_rfl) (JC.start HRj.out _ rfl) ?_ ?_
      · intro hon q hq L a1 W hC hl hBh hS hJ K hK
        have hqn : q < 6 := hq
        clear hq
        rcases (show q = 0 ∨ q = 1 ∨ q = 2 ∨ q = 3 ∨ q = 4 ∨ q = 5 from by omega) with rfl | rfl | rfl | rfl | rfl | rfl
        · have e0 := (eval_tmp a1 0).symm.trans ((hS.kept 0 (by kernel_rfl)).trans rfl)
          refine wpOp_step rfl (fun K' hK' => ?_)
          go_simp
          exact hK' _ _ (hK _ _ (hS.put hon (i := 0) rfl rfl (fun u hu => by cases hu; rfl)) (hJ.pure (by simp) (by decide)))
        · have n4 : L 4 = false := closed_not hC hl (i := 4) (j := 1) rfl (g := .data) (by simp) rfl
          have n5 : L 5 = false := closed_not hC n4 (i := 5) (j := 4) rfl (g := .data) (by simp) rfl
          have hx : curX L A [(1, 26, (⟨#[41, 32]⟩ : ByteArray).data.toList), (4, 29, V), (5, 4, [])] = A := by simp [curX, hl]
          have e25 := (hS.get hBh (i := 1) rfl 0 (by simp) rfl rfl rfl)
          have ek : ∀ c, a1.eval (Operand.const c) = c := fun c => rfl
          obtain ⟨u, W2, hrun, hT⟩ := hJ.str (C1 := []) (C2 := [(4, 29, V), (5, 4, [])]) (s := (⟨#[41, 32]⟩ : ByteArray)) hBj (by rw [hS.size]; exact (by decide : (26 : Nat) < 30)) (by simp) hl (by simp [n4, n5]) (by decide) (vc := u0) (by simp [cur, hl]) (by refine Nat.le_trans (Nat.add_le_add_right (Nat.le_of_eq (congrArg List.length hx)) _) ?_; show _ + 2 ≤ _; first | omega | (simp; omega)) 38
          refine wpOp_run rfl rfl (v := u) (w' := W2) ?_ (hK _ _ (hS.put hon (i := 1) rfl rfl (fun u hu => by cases hu)) hT)
          simp [execOp, resolve, invoke, builtin, e25, ek, hrun, Result.andThen]
        · have e3 := (eval_tmp a1 3).symm.trans ((hS.kept 3 (by kernel_rfl)).trans rfl)
          refine wpOp_step rfl (fun K' hK' => ?_)
          go_simp
          exact hK' _ _ (hK _ _ (hS.put hon (i := 2) rfl rfl (fun u hu => by cases hu; rfl)) (hJ.pure (by simp) (by decide)))
        · have e27 := (eval_tmp a1 27).symm.trans (hS.get hBh (i := 3) rfl 2 (by simp) rfl rfl rfl)
          have hbx : W.heap[gb]? = _ := HR.out.block (HGj.out.trans hJ.gr) HBX.out (by decide)
          have hcl2 : W.cell? ⟨gb, 5, none⟩ = some (.slice ba body.length bc) := by simp [World.cell?, hbx]
          refine wpOp_step rfl (fun K' hK' => ?_)
          go_simp
          exact hK' _ _ (hK _ _ (hS.put hon (i := 3) rfl rfl (fun u hu => by cases hu; rfl)) (hJ.pure (by simp) (by decide)))
        · have d1 : L 1 = true := hBh _ rfl ⟨1, .data⟩ (by simp) rfl
          have n5 : L 5 = false := closed_not hC hl (i := 5) (j := 4) rfl (g := .data) (by simp) rfl
          obtain ⟨vc, hvc⟩ : ∃ x, a1.eval (.tmp 26) = x := ⟨_, rfl⟩
          have hx : curX L A [(1, 26, (⟨#[41, 32]⟩ : ByteArray).data.toList), (4, 29, V), (5, 4, [])] = A ++ ((⟨#[41, 32]⟩ : ByteArray).data.toList) := by simp [curX, d1, hl]
          have e28 := (eval_tmp a1 28).symm.trans (hS.get hBh (i := 4) rfl 3 (by simp) rfl rfl rfl)
          have hvc2 := (eval_tmp a1 26).symm.trans hvc
          have hrow := hJ.row
          rw [hx] at hrow
          have hcu : cur L a1 u0 [(1, 26, (⟨#[41, 32]⟩ : ByteArray).data.toList), (4, 29, V), (5, 4, [])] = vc := (by rw [← hvc]; simp [cur, d1, hl])
          rw [hcu] at hrow
          have hgr := hJ.gr
          rw [hcu] at hgr
          have hB2 : B ≤ W.heap.size := Nat.le_trans hBj hgr.size
          have hbel := HRj.out.bel hgr hBj
          refine wpOp_call (f := 57) (args := #[vc, .slice ba body.length bc]) (R := fun u W2 => Bt B W2 u (A ++ ((⟨#[41, 32]⟩ : ByteArray).data.toList) ++ (V)) ∧ Gr W W2 vc u) rfl rfl (by simp [execOp, resolve, invoke, e28, hvc2, go_sem]) ((HBL.out W vc _ hrow hB2 (HBEL.out.trans hbel) (by first | omega | (simp; omega))).mono fun e W2 ⟨u, h1, h2, h3⟩ => ⟨u, h1, h2, h3⟩) ?_
          rintro u W2 ⟨r1, r2⟩
          exact hK _ _ (hS.put hon (i := 4) rfl rfl (fun u hu => by cases hu)) (hJ.step (C1 := [(1, 26, (⟨#[41, 32]⟩ : ByteArray).data.toList)]) (C2 := [(5, 4, [])]) (by rw [hS.size]; exact (by decide : (29 : Nat) < 30)) (by simp [d1]) hl (by simp [n5]) (by decide) (by show Bt B W2 u (curX L A [(1, 26, (⟨#[41, 32]⟩ : ByteArray).data.toList), (4, 29, V), (5, 4, [])] ++ (V)); rw [hx]; exact r1) (by show Gr W W2 (cur L a1 u0 [(1, 26, (⟨#[41, 32]⟩ : ByteArray).data.toList), (4, 29, V), (5, 4, [])]) u; rw [hcu]; exact r2))
        · have d4 : L 4 = true := hBh _ rfl ⟨4, .data⟩ (by simp) rfl
          have d1 : L 1 = true := hBh _ rfl ⟨1, .phase⟩ (by simp) rfl
          obtain ⟨vc, hvc⟩ : ∃ x, a1.eval (.tmp 29) = x := ⟨_, rfl⟩
          have hx : curX L A [(1, 26, (⟨#[41, 32]⟩ : ByteArray).data.toList), (4, 29, V), (5, 4, [])] = A ++ ((⟨#[41, 32]⟩ : ByteArray).data.toList) ++ (V) := by simp [curX, d1, d4, hl, List.append_assoc]
          have e9 := (eval_tmp a1 29).symm.trans hvc
          refine wpOp_step rfl (fun K' hK' => ?_)
          go_simp
          exact hK' _ _ (hK _ _ (hS.put hon (i := 5) rfl rfl (fun u hu => by cases hu)) (hJ.hand (C1 := [(1, 26, (⟨#[41, 32]⟩ : ByteArray).data.toList), (4, 29, V)]) (C2 := []) (by rw [hS.size]; exact (by decide : (4 : Nat) < 30)) (by simp [d1, d4]) hl (by simp) (by decide) (by rw [← hvc]; simp [cur, d1, d4, hl])))
      · intro L a1 w6 hl hS hJ
        have d1 : L 1 = true := hl 1 (by decide)
        have d4 : L 4 = true := hl 4 (by decide)
        have d5 : L 5 = true := hl 5 (by decide)
        have hcu : cur L a1 u0 [(1, 26, (⟨#[41, 32]⟩ : ByteArray).data.toList), (4, 29, V), (5, 4, [])] = a1.eval (.tmp 4) := by simp [cur, d1, d4, d5]
        have hx : curX L A [(1, 26, (⟨#[41, 32]⟩ : ByteArray).data.toList), (4, 29, V), (5, 4, [])] = A ++ ((⟨#[41, 32]⟩ : ByteArray).data.toList) ++ (V) := by simp [curX, d1, d4, d5, List.append_assoc]
        have hrow := hJ.row
        have hgr := hJ.gr
        rw [hcu] at hgr
        rw [hcu, hx] at hrow
        have hfr := hS.frame [25, 26, 27, 28, 29, 4] rfl
        refine (‹∀ (a : Act) (w : World), Code.wp Tryz.prog _ _ a w → _› a1 w6 ?_)
        obtain ⟨z, hz⟩ : ∃ z : Nat → Value, z = fun k => a1.eval (.tmp k) := ⟨_, rfl⟩
        rw [← hz] at hfr
        have ze : a1.eval (.tmp 4) = z 4 := by rw [hz]
        rw [ze] at hrow hgr
        rw [hfr]
        clear hfr ze hz hS hJ hcu hx hl d1 d4 d5
        simp only [over, List.setIfInBounds_toArray, List.set_cons_zero, List.set_cons_succ]
        obtain ⟨v6, hv⟩ : ∃ u, z 4 = u := ⟨_, rfl⟩
        rw [hv] at hrow hgr ⊢
        clear hv
        have r6 := hrow
        have g6 := hgr
        clear hrow hgr
        have HR6 : Hid (Bt B w6 v6 (A ++ [41, 32] ++ V)) := by show Bt _ _ _ _; simpa using r6
        have HG6 : Hid (Gr w1 w6 v v6) := by show Gr _ _ _ _; exact (HGj.out).trans g6
        have hB6 : B ≤ w6.heap.size := Nat.le_trans hB1 HG6.out.size
        clear r6 g6
        have HRy : Hid (Bt B w6 v6 (l ++ ([102, 110, 40] ++ M ++ [41, 32] ++ V))) := by show Bt _ _ _ _; have h := HR6.out; rw [← HM.out] at h; simpa using h
        have HGy : Hid (Gr w w6 v v6) := HG6.out.pre HBW.out (fun k hk => (HR0.out.lt k hk).2)
        go_wp2
        go_ret
        exact ⟨v6, rfl, HRy.out, HGy.out⟩
end Go.Proofs.YtpgbfkdknggceaaGreatDoor

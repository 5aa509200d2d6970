/-
  Package tree's addUnary: a sign and a part, in brackets, behind a row.
  Conditions: as the theorem says.
-/
import Derived.Test.YtpgbfkdknggceaaGreatDoorTrAdd0
namespace Go.Proofs.YtpgbfkdknggceaaGreatDoor
open Go.RowKit TM
set_option linter.unusedVariables false
def valU (v : Value) (c : UInt8) (gb : Nat) (vp x : Value) : Nat → Option Value
  | 0 => some v
  | 1 => some (.int .u8 (c.toNat : Int))
  | 4 => some (.pointer (some ⟨gb, 3, none⟩))
  | 5 => some vp
  | 6 => some x
  | _ => none
set_option maxRecDepth 100000 in
set_option maxHeartbeats 2000000 in
theorem addUnary_any {n : Nat} (hA : Small n) {op : Nat} {num : Int} {text : ByteArray} {parts : List TE} {params : List ByteArray} {body : List TS} (hsz : szE (.mk op num text parts params body) ≤ n) (c : UInt8)
    {B : Nat} {w : World} {v : Value} {l : Bs} {vp vn vb : Value} (hR : Bt B w v l) (hB : B ≤ w.heap.size) (hG : Lg B w) (hE : EIn (· < B) w (.mk op num text parts params body) vp vn vb) (hl : l.length + (unT c (txEs parts)).length ≤ 1000000000) :
    Calls Tryz.prog 38 #[v, .int .u8 (c.toNat : Int), exV (.mk op num text parts params body) vp vn vb] w fun en w' => ∃ v', en = .returned v' ∧ Bt B w' v' (l ++ unT c (txEs parts)) ∧ Gr w w' v v' := by
  have hsz2 : szEs parts < n := by unfold szE at hsz; omega
  have hE2 := hE
  obtain ⟨_, ⟨pa, pc, rfl, _⟩, ⟨na, nc, rfl, _⟩, ⟨ba, bc, rfl, _⟩⟩ := hE2
  obtain ⟨x, hx⟩ := pack hA hE.2.1 hB hG 0 (by omega) hsz2
  have hT : unT c (txEs parts) = [40, c] ++ pt (txEs parts) 0 ++ [41] := rfl
  rw [hT] at hl ⊢
  clear hT
  generalize pt (txEs parts) 0 = T at hl hx ⊢
  have hlT : l.length + T.length + 3 ≤ 1000000000 := by simp at hl; omega
  have HX : Hid (Pk B w (.slice pa parts.length pc) 0 T x) := hx
  have HR0 : Hid (Bt B w v l) := hR
  clear hE hl hx hA hsz hsz2 hR hG
  unfold exV
  go_enter Tryz.func38, Tryz.ntmps38
  go_wp2_with fail
  obtain ⟨w1, hw1⟩ : ∃ w1, w1 = w.alloc (.cells #[.int .i64 (op : Int), .int .i64 num, .string text, .slice pa parts.length pc, .slice na params.length nc, .slice ba body.length bc] 35) := ⟨_, rfl⟩
  obtain ⟨gb, hgb⟩ : ∃ gb, gb = w.heap.size := ⟨_, rfl⟩
  have HBW : Hid (Below w.heap.size w w1) := by rw [hw1]; exact (Below.refl _ _).alloc (Nat.le_refl _) _
  have HBX : Hid (w1.heap[gb]? = some (.cells #[.int .i64 (op : Int), .int .i64 num, .string text, .slice pa parts.length pc, .slice na params.length nc, .slice ba body.length bc] 35 (0, 0))) := by rw [hw1, hgb]; exact heap_alloc_new _ _
  have HR : Hid (Bt B w1 v l) := by rw [hw1]; exact HR0.out.alloc _
  have hB1 : B ≤ w1.heap.size := Nat.le_trans hB HBW.out.size
  rw [← hw1, ← hgb]
  clear hw1 hgb
  refine region_sh (valU v c gb (.slice pa parts.length pc) x) (JC B w1 v l [(3, 10, [40, c]), (7, 14, T), (8, 0, [])] 2 9 3 [40, c] 8 0) (by kernel_rfl) (by kernel_rfl) (by kernel_rfl) (JC.start HR.out _ rfl) ?_ ?_
  · intro hon q hq L a1 W hC hl hBh hS hJ K hK
    have hqn : q < 9 := hq
    clear hq
    rcases (show q = 0 ∨ q = 1 ∨ q = 2 ∨ q = 3 ∨ q = 4 ∨ q = 5 ∨ q = 6 ∨ q = 7 ∨ q = 8 from by omega) with rfl | rfl | rfl | rfl | rfl | rfl | rfl | rfl | rfl
    · have hz : L 8 = false := closed_not hC hl (i := 8) (j := 0) rfl (g := .phase) (by simp) rfl
      have e0 := (eval_tmp a1 0).symm.trans (hJ.s0 hz)
      refine wpOp_step rfl (fun K' hK' => ?_)
      go_simp
      exact hK' _ _ (hK _ _ (hS.put hon (i := 0) rfl rfl (fun u hu => by cases hu; rfl)) (hJ.pure (by simp) (by decide)))
    · have e1 := (eval_tmp a1 1).symm.trans ((hS.kept 1 (by kernel_rfl)).trans rfl)
      refine wpOp_step rfl (fun K' hK' => ?_)
      go_simp
      exact hK' _ _ (hK _ _ (hS.put hon (i := 1) rfl rfl (fun u hu => by cases hu; rfl)) (hJ.pure (by simp) (by decide)))
    · have e8 := (eval_tmp a1 8).symm.trans (hS.get hBh (i := 2) rfl 1 (by simp) rfl rfl rfl)
      refine wpOp_step rfl (fun K' hK' => ?_)
      go_simp
      exact hK' _ _ (hK _ _ (hS.put hon (i := 2) rfl rfl (fun u hu => by cases hu)) (hJ.build (by simp) (by decide) (by rw [hS.size]; exact (by decide : (9 : Nat) < 18)) rfl rfl))
    · have n7 : L 7 = false := closed_not hC hl (i := 7) (j := 3) rfl (g := .data) (by simp) rfl
      have n8 : L 8 = false := closed_not hC n7 (i := 8) (j := 7) rfl (g := .data) (by simp) rfl
      have hx : curX L l [(3, 10, [40, c]), (7, 14, T), (8, 0, [])] = l := by simp [curX, hl]
      have e7 := (hS.get hBh (i := 3) rfl 0 (by simp) rfl rfl rfl)
      have hbi : L 2 = true := hBh _ rfl ⟨2, .data⟩ (by simp) rfl
      obtain ⟨g, u, W2, hge, hrun, hT⟩ := hJ.put (C1 := []) (C2 := [(7, 14, T), (8, 0, [])]) hB1 (by rw [hS.size]; exact (by decide : (10 : Nat) < 18)) (by simp) hl hbi (by simp [n7, n8]) (by decide) (k := 2) rfl (by decide) (vc := v) (by simp [cur, hl]) (by refine Nat.le_trans (Nat.add_le_add_right (Nat.le_of_eq (congrArg List.length hx)) _) ?_; simp; omega) 38
      refine wpOp_run rfl rfl (v := u) (w' := W2) ?_ (hK _ _ (hS.put hon (i := 3) rfl rfl (fun u hu => by cases hu)) hT)
      simp [execOp, resolve, invoke, builtin, e7, hge, hrun, Result.andThen]
    · have e5 := (eval_tmp a1 5).symm.trans ((hS.kept 5 (by kernel_rfl)).trans rfl)
      refine wpOp_step rfl (fun K' hK' => ?_)
      go_simp
      exact hK' _ _ (hK _ _ (hS.put hon (i := 4) rfl rfl (fun u hu => by cases hu; rfl)) (hJ.pure (by simp) (by decide)))
    · have e11 := (eval_tmp a1 11).symm.trans (hS.get hBh (i := 5) rfl 4 (by simp) rfl rfl rfl)
      have hbx : W.heap[gb]? = _ := HR.out.block hJ.gr HBX.out (by decide)
      have hcl : W.cell? ⟨gb, 3, none⟩ = some (.slice pa parts.length pc) := by simp [World.cell?, hbx]
      refine wpOp_step rfl (fun K' hK' => ?_)
      go_simp
      exact hK' _ _ (hK _ _ (hS.put hon (i := 5) rfl rfl (fun u hu => by cases hu; rfl)) (hJ.pure (by simp) (by decide)))
    · have e12 := (eval_tmp a1 12).symm.trans (hS.get hBh (i := 6) rfl 5 (by simp) rfl rfl rfl)
      have hbel := HR.out.bel hJ.gr hB1
      refine wpOp_call (f := 56) (args := #[.slice pa parts.length pc, .int .i64 0]) (R := fun u W2 => u = x ∧ Below W.heap.size W W2) rfl rfl (by simp [execOp, resolve, invoke, e12, go_sem]) ((HX.out.part _ ((HBW.out.mono hB).trans hbel)).mono fun e W2 ⟨h1, h2⟩ => ⟨_, h1, rfl, h2⟩) ?_
      rintro u W2 ⟨rfl, r2⟩
      exact hK _ _ (hS.put hon (i := 6) rfl rfl (fun u hu => by cases hu; rfl)) (hJ.pureB (by simp) (by decide) r2)
    · have d3 : L 3 = true := hBh _ rfl ⟨3, .data⟩ (by simp) rfl
      have n8 : L 8 = false := closed_not hC hl (i := 8) (j := 7) rfl (g := .data) (by simp) rfl
      obtain ⟨vc, hvc⟩ : ∃ x, a1.eval (.tmp 10) = x := ⟨_, rfl⟩
      have hx : curX L l [(3, 10, [40, c]), (7, 14, T), (8, 0, [])] = l ++ ([40, c]) := by simp [curX, d3, hl]
      have e13 := (eval_tmp a1 13).symm.trans (hS.get hBh (i := 7) rfl 6 (by simp) rfl rfl rfl)
      have hvc2 := (eval_tmp a1 10).symm.trans hvc
      have hrow := hJ.row
      rw [hx] at hrow
      have hcu : cur L a1 v [(3, 10, [40, c]), (7, 14, T), (8, 0, [])] = vc := (by rw [← hvc]; simp [cur, d3, hl])
      rw [hcu] at hrow
      have hgr := hJ.gr
      rw [hcu] at hgr
      have hB2 : B ≤ W.heap.size := Nat.le_trans hB1 hgr.size
      have hbel := HR.out.bel hgr hB1
      refine wpOp_call (f := 23) (args := #[vc, x]) (R := fun u W2 => Bt B W2 u (l ++ ([40, c]) ++ (T)) ∧ Gr W W2 vc u) rfl rfl (by simp [execOp, resolve, invoke, e13, hvc2, go_sem]) ((HX.out.add W vc _ hrow hB2 ((HBW.out.mono hB).trans hbel) (by simp; omega)).mono fun e W2 ⟨u, h1, h2, h3⟩ => ⟨u, h1, h2, h3⟩) ?_
      rintro u W2 ⟨r1, r2⟩
      exact hK _ _ (hS.put hon (i := 7) rfl rfl (fun u hu => by cases hu)) (hJ.step (C1 := [(3, 10, [40, c])]) (C2 := [(8, 0, [])]) (by rw [hS.size]; exact (by decide : (14 : Nat) < 18)) (by simp [d3]) hl (by simp [n8]) (by decide) (by show Bt B W2 u (curX L l [(3, 10, [40, c]), (7, 14, T), (8, 0, [])] ++ (T)); rw [hx]; exact r1) (by show Gr W W2 (cur L a1 v [(3, 10, [40, c]), (7, 14, T), (8, 0, [])]) u; rw [hcu]; exact r2))
    · have d7 : L 7 = true := hBh _ rfl ⟨7, .data⟩ (by simp) rfl
      have d3 : L 3 = true := hBh _ rfl ⟨3, .phase⟩ (by simp) rfl
      obtain ⟨vc, hvc⟩ : ∃ x, a1.eval (.tmp 14) = x := ⟨_, rfl⟩
      have hx : curX L l [(3, 10, [40, c]), (7, 14, T), (8, 0, [])] = l ++ ([40, c]) ++ (T) := by simp [curX, d3, d7, hl, List.append_assoc]
      have e9 := (eval_tmp a1 14).symm.trans hvc
      refine wpOp_step rfl (fun K' hK' => ?_)
      go_simp
      exact hK' _ _ (hK _ _ (hS.put hon (i := 8) rfl rfl (fun u hu => by cases hu)) (hJ.hand (C1 := [(3, 10, [40, c]), (7, 14, T)]) (C2 := []) (by rw [hS.size]; exact (by decide : (0 : Nat) < 18)) (by simp [d3, d7]) hl (by simp) (by decide) (by rw [← hvc]; simp [cur, d3, d7, hl])))
  · intro L a1 w2 hl hS hJ
    have d3 : L 3 = true := hl 3 (by decide)
    have d7 : L 7 = true := hl 7 (by decide)
    have d8 : L 8 = true := hl 8 (by decide)
    have hcu : cur L a1 v [(3, 10, [40, c]), (7, 14, T), (8, 0, [])] = a1.eval (.tmp 0) := by simp [cur, d3, d7, d8]
    have hx : curX L l [(3, 10, [40, c]), (7, 14, T), (8, 0, [])] = l ++ ([40, c]) ++ (T) := by simp [curX, d3, d7, d8, List.append_assoc]
    have hrow := hJ.row
    have hgr := hJ.gr
    rw [hcu] at hgr
    rw [hcu, hx] at hrow
    have hfr := hS.frame [7, 8, 9, 10, 11, 12, 13, 14, 0] rfl
    refine (‹∀ (a : Act) (w : World), Code.wp Tryz.prog _ _ a w → _› a1 w2 ?_)
    obtain ⟨z, hz⟩ : ∃ z : Nat → Value, z = fun k => a1.eval (.tmp k) := ⟨_, rfl⟩
    rw [← hz] at hfr
    have ze : a1.eval (.tmp 0) = z 0 := by rw [hz]
    rw [ze] at hrow hgr
    rw [hfr]
    clear hfr ze hz hS hJ hcu hx hl d3 d7 d8
    simp only [over, List.setIfInBounds_toArray, List.set_cons_zero, List.set_cons_succ]
    obtain ⟨v2, hv⟩ : ∃ u, z 0 = u := ⟨_, rfl⟩
    rw [hv] at hrow hgr ⊢
    clear hv
    have HR2 : Hid (Bt B w2 v2 (l ++ [40, c] ++ T)) := by show Bt _ _ _ _; simpa using hrow
    have HG2 : Hid (Gr w1 w2 v v2) := hgr
    have hB2 : B ≤ w2.heap.size := Nat.le_trans hB1 hgr.size
    clear hrow hgr
    go_wp2_with (at_builtin; refine wpList_app_row rfl (.tmp 15) (.tmp 16) rfl rfl HR2.out hB2 [41] rfl rfl rfl (by decide) (by simp; omega) ?_)
    intro v3 w3 r3 g3
    have HR3 : Hid (Bt B w3 v3 (l ++ ([40, c] ++ T ++ [41]))) := by show Bt _ _ _ _; simpa using r3
    have HG3 : Hid (Gr w w3 v v3) := (HG2.out.trans g3).pre HBW.out (fun k hk => (HR0.out.lt k hk).2)
    clear r3 g3
    go_wp2
    go_ret
    exact ⟨v3, rfl, HR3.out, HG3.out⟩
end Go.Proofs.YtpgbfkdknggceaaGreatDoor

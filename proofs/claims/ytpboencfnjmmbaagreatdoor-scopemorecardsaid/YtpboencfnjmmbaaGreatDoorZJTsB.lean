/-
 TkStC7, TkStD, joined.
 Conditions: as each theorem says.
-/
import Derived.Test.YtpboencfnjmmbaaGreatDoorZTkBlk
import Derived.Deep.CutBlock
import Derived.Deep.DeepCutAuto
set_option maxRecDepth 100000
set_option maxHeartbeats 8000000
set_option linter.unusedVariables false
set_option linter.unusedSimpArgs false
namespace Go.Proofs.YtpboencfnjmmbaaGreatDoor
open Go.RowKit TM
theorem stmt_C7 {xs : List XX} {left D : Int} (hok : ∀ x ∈ xs, x.ok) (hl0 : -500000000 ≤ left) (hl1 : left ≤ 1000) (hD0 : 1 ≤ D) (hD1 : D ≤ 10) {kind : Nat} (hk9 : (hd xs).d % 9 = kind) (hkd : kind = 7)
 {w : World} {mb : Nat} (hm : MkAt w mb xs left) {name : ByteArray} {many : Nat} (hpn : name = nameS kind (hd xs)) (hpm : many = manyS kind)
 (XS : Nat → List XX) (LF : Nat → Int) (ES : Nat → TE) (h0X : XS 0 = xs.tail) (h0L : LF 0 = left - 1)
 (hstep : ∀ j, j < many → ∀ W, MkAt W mb (XS j) (LF j) → Calls Tryz.prog 74 #[.pointer (some ⟨mb, 0, none⟩), .int .i64 (D - 1)] W fun en w' => ∃ a b c, en = .returned (exV (ES j) a b c) ∧ MkAt w' mb (XS (j + 1)) (LF (j + 1)) ∧ W.grownBy w' (some mb) ∧ EIn (Fresh W.heap.size w'.heap.size) w' (ES j) a b c)
 {B E : List TS} {X2 X3 : List XX} {L2 L3 : Int} (hb : ∀ W, MkAt W mb (XS many) (LF many) → Calls Tryz.prog 75 #[.pointer (some ⟨mb, 0, none⟩), .int .i64 (D - 1), .int .i64 (((hd xs).a % 3 : Nat) : Int)] W fun en w' => ∃ v, en = .returned v ∧ MkAt w' mb X2 L2 ∧ W.grownBy w' (some mb) ∧ SlS W.heap.size w' v B)
 (he : ∀ W, MkAt W mb X2 L2 → Calls Tryz.prog 75 #[.pointer (some ⟨mb, 0, none⟩), .int .i64 (D - 1), .int .i64 (((hd xs).n % 3 : Nat) : Int)] W fun en w' => ∃ v, en = .returned v ∧ MkAt w' mb X3 L3 ∧ W.grownBy w' (some mb) ∧ SlS W.heap.size w' v E) :
 Calls Tryz.prog 46 #[.pointer (some ⟨mb, 0, none⟩), .int .i64 D] w fun en w' => ∃ a b c, en = .returned (stV (.mk kind name ((List.range many).map ES) B E 0) a b c) ∧ MkAt w' mb (X3) (L3) ∧ w.grownBy w' (some mb) ∧ SIn (Fresh w.heap.size w'.heap.size) w' (.mk kind name ((List.range many).map ES) B E 0) a b c := by
 have hx := hd_ok hok
 have HNX : Hid (∀ W, MkAt W mb xs left → Calls Tryz.prog 73 #[.pointer (some ⟨mb, 0, none⟩)] W fun e w' => e = .returned (xV (hd xs)) ∧ MkAt w' mb xs.tail (left - 1) ∧ W.grownBy w' (some mb)) := fun W h => next_any h (by omega) (by omega)
 have HBD := Lib.hid hb
 have HEL := Lib.hid he
 clear hb he
 generalize hd xs = x at hx HNX hk9 hpn HBD HEL
 obtain ⟨xd, xa, xn, xs4⟩ := x
 obtain ⟨hxd, hxa, hxn, hxs⟩ := hx
 simp only at hxd hxa hxn hxs hk9 HBD HEL
 unfold xV at HNX
 simp only at HNX
 subst hkd
 have htm : ((xd : Int)).tmod 9 = 7 := by rw [Int.tmod_eq_emod_of_nonneg (by omega)]; omega
 have hmm : (xd : Int) % 9 = 7 := by omega
 have hk8 : 7 ≤ 8 := by omega
 have HM : Hid (MkAt w mb xs left) := hm
 have hmw : mb < w.heap.size := hm.lt
 have HSTEP := Lib.hid hstep
 have H0X := Lib.hid h0X
 have H0L := Lib.hid h0L
 have HPN := Lib.hid hpn
 have HPM := Lib.hid hpm
 skip
 clear hok hstep h0X h0L hpn hpm hm hk9
 have hd0 : decide (D ≤ 0) = false := by simp; omega
 go_enter Tryz.func46, Tryz.ntmps46
 go_wp2_with fail
 refine (HNX.out _ (HM.out.below ((Below.refl _ _).alloc (Nat.le_refl _) _))).mono ?_
 rintro e w1 ⟨rfl, m1, g1⟩
 have HM1 := Lib.hid m1
 have HG1 := Lib.hid g1
 have hres1 := (g1.block w.heap.size (by simp) (by simp; omega)).trans (heap_alloc_new w _)
 have HRES1 := Lib.hid hres1
 have hmbl : mb < w1.heap.size := m1.lt
 have hsz1 : w.heap.size + 1 ≤ w1.heap.size := by have := g1.size; simpa using this
 clear g1 hres1 m1
 go_upto_block 0 with fail
 obtain ⟨W0, hW0⟩ : ∃ W0, W0 = ((w1.alloc (.cells #[.int .u8 (xd : Int), .int .u8 (xa : Int), .int .u16 (xn : Int), .int .u8 (xs4 : Int)] 69)).alloc (.cells #[.int .i64 7, .string ⟨#[]⟩, .slice none 0 0, .slice none 0 0, .slice none 0 0, .int .i64 0] 60)) := ⟨_, rfl⟩
 obtain ⟨gx, hgx0⟩ : ∃ gx, gx = w1.heap.size := ⟨_, rfl⟩
 obtain ⟨gs, hgs0⟩ : ∃ gs, gs = w1.heap.size + 1 := ⟨_, rfl⟩
 obtain ⟨g4, hg40⟩ : ∃ g4, g4 = w.heap.size := ⟨_, rfl⟩
 have HW0 := Lib.hid hW0
 have HGX := Lib.hid hgx0
 have HGS := Lib.hid hgs0
 have HG4 := Lib.hid hg40
 have hg1 : g4 < gx := by omega
 have hg2 : gx < gs := by omega
 have hg3 : mb < g4 := by omega
 rw [← hW0, ← hgs0, ← hgx0, ← hg40]
 clear hW0 hgx0 hgs0 hg40
 have HMI0 : Hid (MidS w W0 mb g4 gx gs 7 ⟨#[]⟩ xd xa xn xs4 xs.tail (left - 1)) := by
  have hb0 : Below w1.heap.size w1 ((w1.alloc (.cells #[.int .u8 (xd : Int), .int .u8 (xa : Int), .int .u16 (xn : Int), .int .u8 (xs4 : Int)] 69)).alloc (.cells #[.int .i64 7, .string ⟨#[]⟩, .slice none 0 0, .slice none 0 0, .slice none 0 0, .int .i64 0] 60)) := ((Below.refl _ _).alloc (Nat.le_refl _) _).alloc (by simp) _
  have hb1 : MidS w ((w1.alloc (.cells #[.int .u8 (xd : Int), .int .u8 (xa : Int), .int .u16 (xn : Int), .int .u8 (xs4 : Int)] 69)).alloc (.cells #[.int .i64 7, .string ⟨#[]⟩, .slice none 0 0, .slice none 0 0, .slice none 0 0, .int .i64 0] 60)) mb g4 gx gs 7 ⟨#[]⟩ xd xa xn xs4 xs.tail (left - 1) := by
   refine ⟨?_, ?_, HM1.out.below hb0, ?_, grown_below ⟨HG1.out.os, HG1.out.tape, HG1.out.output, by have := HG1.out.size; simp at this; omega, fun k hk hn => ?_⟩ hb0⟩
   ·rw [HGS.out]
    have := heap_alloc_new (w1.alloc (.cells #[.int .u8 (xd : Int), .int .u8 (xa : Int), .int .u16 (xn : Int), .int .u8 (xs4 : Int)] 69)) (.cells #[.int .i64 7, .string ⟨#[]⟩, .slice none 0 0, .slice none 0 0, .slice none 0 0, .int .i64 0] 60)
    rwa [show (w1.alloc (.cells #[.int .u8 (xd : Int), .int .u8 (xa : Int), .int .u16 (xn : Int), .int .u8 (xs4 : Int)] 69)).heap.size = w1.heap.size + 1 from by simp] at this
   ·rw [HGX.out]; exact block_alloc (heap_alloc_new w1 _) _
   ·rw [hb0.block g4 (by have := HG4.out; omega), HG4.out]; exact HRES1.out
   ·rw [HG1.out.block k (by simp; omega) hn, Below.heap_alloc _ _ _ hk]
  show MidS _ _ _ _ _ _ _ _ _ _ _ _ _ _
  rw [HW0.out]
  exact hb1
 go_cut [7] (fun s7 wc => s7 = .int .i64 (many : Int) ∧ Hid (MidS w wc mb g4 gx gs 7 name xd xa xn xs4 xs.tail (left - 1)))
 case first =>
  have x3 : W0.cell? ⟨gx, 3, none⟩ = some (.int .u8 (xs4 : Int)) := by simp [World.cell?, HMI0.out.xb]
  have e0 : W0.cell? ⟨gs, 0, none⟩ = some (.int .i64 (7 : Int)) := by simp [World.cell?, HMI0.out.box]
  have e1 : W0.cell? ⟨gs, 1, none⟩ = some (.string ⟨#[]⟩) := by simp [World.cell?, HMI0.out.box]
  have hgl0 : gs < W0.heap.size := lt_of_block HMI0.out.box
  have hxl0 : gx < W0.heap.size := lt_of_block HMI0.out.xb
  clear htm hmm
  go_wp2_with fail
  refine (name_any xs4 hxs _).mono ?_
  rintro e w2 ⟨rfl, b2⟩
  have HMI2 := Lib.hid (HMI0.out.later b2)
  have f1 : w2.cell? ⟨gs, 1, none⟩ = some (.string ⟨#[]⟩) := by simp [World.cell?, HMI2.out.box]
  have hfz : w2.frozen? ⟨gs, 1, none⟩ = false := by simp [World.frozen?, HMI2.out.box]
  have hgl2 : gs < w2.heap.size := lt_of_block HMI2.out.box
  clear b2
  go_wp2_with fail
  go_meet
  case rel =>
   have q1 : many = 0 := HPM.out
   have q2 : name = nm xs4 := HPN.out
   subst q1
   subst q2
   exact ⟨rfl, HMI2.out.name hg3 hg1 hg2 (Nat.le_of_eq HG4.out.symm) _⟩
 case rest =>
  obtain ⟨rfl, HMID⟩ := hcut
  have hm4 : many ≤ 3 := by have h := HPM.out; unfold manyS at h; split at h <;> (try split at h) <;> omega
  go_wp2_with fail
  go_loopw [51] (fun i wr => ∃ (j : Nat) (vp : Value) (cs : List Value), i = .int .i64 (j : Int) ∧ j ≤ many ∧ Hid (wr.heap[gs]? = some (.cells #[.int .i64 (7 : Int), .string name, vp, .slice none 0 0, .slice none 0 0, .int .i64 0] 60 (0, 0))) ∧ Hid (wr.ownsRow wc.heap.size 65 6 vp j cs) ∧ Hid (EsC (fun k => wc.heap.size ≤ k ∧ k < wr.heap.size ∧ vp.ownBlock ≠ some k) wr ((List.range j).map ES) cs) ∧ Hid (MkAt wr mb (XS j) (LF j)) ∧ Hid (Kb mb gs wc wr))
   (fun i _ => many - (intOf i).toNat)
  case atStart => exact ⟨0, .slice none 0 0, [], rfl, Nat.zero_le _, HMID.out.box, World.ownsRow_nil _ _ _ _, rfl, by show MkAt _ _ _ _; rw [H0X.out, H0L.out]; exact HMID.out.mkr, Kb.refl _ _ _⟩
  case round =>
   obtain ⟨j, vp, cs, rfl, hjm, HBX, HROW, HES, HMJ, HKB⟩ := hrel
   by_cases hlt : j < many
   ·have hidx : decide ((j : Int) < (many : Int)) = true := by simp; omega
    have HVP : Hid (∀ k, vp.ownBlock = some k → wc.heap.size ≤ k) := fun k hk => (HROW.out.lt k hk).1
    have hmg : mb < gs := by omega
    have hgx : gs < wc.heap.size := lt_of_block HMID.out.box
    have hmbs : mb < wc.heap.size := by omega
    have hbsw : wc.heap.size ≤ wr.heap.size := HKB.out.size
    have hj6 : j ≤ 1000000 := by omega
    obtain ⟨ao, capr, hvs, _⟩ := row_shape HROW.out
    subst hvs
    obtain ⟨vp, hvp⟩ : ∃ vp, vp = Value.slice ao j capr := ⟨_, rfl⟩
    rw [← hvp] at HBX HROW HES HVP
    clear hvp
    go_wp2_with fail
    refine region_sh (valG vp mb gs (D)) (JX wr mb wc.heap.size gs 60 (fun v => #[.int .i64 (7 : Int), .string name, v, .slice none 0 0, .slice none 0 0, .int .i64 0]) (XS (j + 1)) (LF (j + 1)) (ES j) vp j cs 5 6 7 9 58 59 60) (by kernel_rfl) (by kernel_rfl) (by kernel_rfl) (JX.start _) ?_ ?_
    ·intro hon q hq L a1 W hC hl hBh hS hJ K hK
     have hqn : q < 10 := hq
     clear hq
     rcases (show q = 0 ∨ q = 1 ∨ q = 2 ∨ q = 3 ∨ q = 4 ∨ q = 5 ∨ q = 6 ∨ q = 7 ∨ q = 8 ∨ q = 9 from by omega) with rfl | rfl | rfl | rfl | rfl | rfl | rfl | rfl | rfl | rfl
     ·have e6 := (eval_tmp a1 6).symm.trans ((hS.kept 6 (by kernel_rfl)).trans rfl)
      refine wpOp_step rfl (fun K' hK' => ?_)
      go_simp
      exact hK' _ _ (hK _ _ (hS.put hon (i := 0) rfl rfl (fun u hu => by cases hu; rfl)) (hJ.pure (by decide) (by decide)))
     ·have e53 := (eval_tmp a1 53).symm.trans (hS.get hBh (i := 1) rfl 0 (by simp) rfl rfl rfl)
      have hls : L 9 = false := closed_not hC (closed_not hC hl (i := 7) (j := 1) rfl (g := .data) (by simp) rfl) (i := 9) (j := 7) rfl (g := .data) (by simp) rfl
      have hbxW := hJ.box hls HVP.out HBX.out hmg hgx
      have hcl2 : W.cell? ⟨gs, 2, none⟩ = some vp := by simp [World.cell?, hbxW]
      refine wpOp_step rfl (fun K' hK' => ?_)
      go_simp
      exact hK' _ _ (hK _ _ (hS.put hon (i := 1) rfl rfl (fun u hu => by cases hu; rfl)) (hJ.pure (by decide) (by decide)))
     ·have e0 := (eval_tmp a1 0).symm.trans ((hS.kept 0 (by kernel_rfl)).trans rfl)
      refine wpOp_step rfl (fun K' hK' => ?_)
      go_simp
      exact hK' _ _ (hK _ _ (hS.put hon (i := 2) rfl rfl (fun u hu => by cases hu; rfl)) (hJ.pure (by decide) (by decide)))
     ·have e1 := (eval_tmp a1 1).symm.trans ((hS.kept 1 (by kernel_rfl)).trans rfl)
      refine wpOp_step rfl (fun K' hK' => ?_)
      go_simp
      exact hK' _ _ (hK _ _ (hS.put hon (i := 3) rfl rfl (fun u hu => by cases hu; rfl)) (hJ.pure (by decide) (by decide)))
     ·have e56 := (eval_tmp a1 56).symm.trans (hS.get hBh (i := 4) rfl 3 (by simp) rfl rfl rfl)
      have hwr : IntKind.i64.wrap (D - 1) = D - 1 := by simp [IntKind.wrap, IntKind.bits, IntKind.signed]; omega
      refine wpOp_step rfl (fun K' hK' => ?_)
      go_simp
      exact hK' _ _ (hK _ _ (hS.put hon (i := 4) rfl rfl (fun u hu => by cases hu; rfl)) (hJ.pure (by decide) (by decide)))
     ·have n6 : L 6 = false := closed_not hC hl (i := 6) (j := 5) rfl (g := .data) (by simp) rfl
      have n7 : L 7 = false := closed_not hC n6 (i := 7) (j := 6) rfl (g := .data) (by simp) rfl
      have n9 : L 9 = false := closed_not hC n7 (i := 9) (j := 7) rfl (g := .data) (by simp) rfl
      have e55 := (eval_tmp a1 55).symm.trans (hS.get hBh (i := 5) rfl 2 (by simp) rfl rfl rfl)
      have e57 := (eval_tmp a1 57).symm.trans (hS.get hBh (i := 5) rfl 4 (by simp) rfl rfl rfl)
      obtain rfl := hJ.n0 hl
      refine wpOp_call (f := 74) (args := #[.pointer (some ⟨mb, 0, none⟩), .int .i64 (D - 1)]) (R := fun u W2 => ∃ x y z, u = exV (ES j) x y z ∧ Sa wr W2 mb (XS (j + 1)) (LF (j + 1)) (ES j) x y z) rfl rfl (by simp [execOp, resolve, invoke, e55, e57, go_sem]) ((HSTEP.out j (by omega) _ (HMJ.out.below (Below.refl _ _).drew)).mono fun en W2 ⟨x, y, z, h1, h2, h3, h4⟩ => ⟨_, h1, x, y, z, rfl, h2, ⟨h3.os, h3.tape, h3.output, h3.size, h3.block⟩, h4⟩) ?_
      rintro u W2 ⟨x, y, z, rfl, hSa⟩
      exact hK _ _ (hS.put hon (i := 5) rfl rfl (fun u hu => by cases hu)) (hJ.call n6 n7 n9 (by decide) (by rw [hS.size]; exact (by decide : (58 : Nat) < 98)) hSa)
     ·have d5 : L 5 = true := hBh _ rfl ⟨5, .data⟩ (by simp) rfl
      have n7 : L 7 = false := closed_not hC hl (i := 7) (j := 6) rfl (g := .data) (by simp) rfl
      have n9 : L 9 = false := closed_not hC n7 (i := 9) (j := 7) rfl (g := .data) (by simp) rfl
      obtain ⟨x, y, z, hev, hSa⟩ := hJ.n1 d5 hl
      have e58 := (eval_tmp a1 58).symm.trans hev
      obtain ⟨op2, num2, text2, ps2, pm2, bd2, hEj⟩ : ∃ op num text ps pm bd, ES j = .mk op num text ps pm bd := by cases h : ES j; exact ⟨_, _, _, _, _, _, rfl⟩
      have hsix := hSa.inn
      rw [hEj] at hsix
      obtain ⟨_, ⟨pa2, pc2, rfl, _⟩, ⟨na2, nc2, rfl, _⟩, ⟨ba2, bc2, rfl, _⟩⟩ := hsix
      rw [hEj] at e58
      unfold exV at e58
      simp only at e58
      refine wpOp_step rfl (fun K' hK' => ?_)
      go_simp
      exact hK' _ _ (hK _ _ (hS.put hon (i := 6) rfl rfl (fun u hu => by cases hu)) (hJ.lay d5 n7 n9 (by decide) (by rw [hS.size]; exact (by decide : (59 : Nat) < 98)) (hSa.lay (by rw [hEj]; rfl))))
     ·have d6 : L 6 = true := hBh _ rfl ⟨6, .data⟩ (by simp) rfl
      have d5 : L 5 = true := hBh _ rfl ⟨5, .chain⟩ (by simp) rfl
      have n9 : L 9 = false := closed_not hC hl (i := 9) (j := 7) rfl (g := .data) (by simp) rfl
      have e54 := (hS.get hBh (i := 7) rfl 1 (by simp) rfl rfl rfl)
      obtain ⟨g, x, y, z, hge, hSb⟩ := hJ.n2 d6 hl
      obtain ⟨v2, W2, hrun, hSc⟩ := hSb.app HROW.out hmbs hbsw hj6 58
      refine wpOp_run rfl rfl (v := v2) (w' := W2) ?_ (hK _ _ (hS.put hon (i := 7) rfl rfl (fun u hu => by cases hu)) (hJ.app d5 d6 n9 (by decide) (by rw [hS.size]; exact (by decide : (60 : Nat) < 98)) hSc))
      simp [execOp, resolve, invoke, builtin, e54, hge, hrun, Result.andThen]
     ·have e6 := (eval_tmp a1 6).symm.trans ((hS.kept 6 (by kernel_rfl)).trans rfl)
      refine wpOp_step rfl (fun K' hK' => ?_)
      go_simp
      exact hK' _ _ (hK _ _ (hS.put hon (i := 8) rfl rfl (fun u hu => by cases hu; rfl)) (hJ.pure (by decide) (by decide)))
     ·have d7 : L 7 = true := hBh _ rfl ⟨7, .data⟩ (by simp) rfl
      have d6 : L 6 = true := hBh _ rfl ⟨6, .phase⟩ (by simp) rfl
      have d5 : L 5 = true := hBh _ rfl ⟨5, .phase⟩ (by simp) rfl
      have e61 := (eval_tmp a1 61).symm.trans (hS.get hBh (i := 9) rfl 8 (by simp) rfl rfl rfl)
      obtain ⟨x, y, z, hSc⟩ := hJ.n3 d7 hl
      obtain ⟨v2, hv2⟩ : ∃ u, a1.eval (.tmp 60) = u := ⟨_, rfl⟩
      rw [hv2] at hSc
      have e60 := (eval_tmp a1 60).symm.trans hv2
      have hbxW := hJ.box hl HVP.out HBX.out hmg hgx
      obtain ⟨ao2, cap2, rfl, _⟩ := row_shape hSc.row
      have hfz : W.frozen? ⟨gs, 2, none⟩ = false := by simp [World.frozen?, hbxW]
      have hcc : ∃ u, W.cell? ⟨gs, 2, none⟩ = some u := ⟨_, by simp [World.cell?, hbxW]; rfl⟩
      obtain ⟨u0c, hcc⟩ := hcc
      have hgl : gs < W.heap.size := lt_of_block hbxW
      refine wpOp_step rfl (fun K' hK' => ?_)
      go_simp
      exact hK' _ _ (hK _ _ (hS.none (i := 9) rfl rfl) (JX.put d5 d6 d7 (by decide) (hSc.store HVP.out HBX.out hmg hgx hbsw rfl)))
    ·intro L a1 wz hl hS hJ
     obtain ⟨x, y, z, v, hSd⟩ := hJ.n4 (hl 9 (by decide))
     have hfr := hS.frame [53, 54, 55, 56, 57, 58, 59, 60, 61] rfl
     refine (‹∀ (a : Act) (w : World), Code.wp Tryz.prog _ _ a w → _› a1 wz ?_)
     obtain ⟨zz, hz⟩ : ∃ z : Nat → Value, z = fun k => a1.eval (.tmp k) := ⟨_, rfl⟩
     rw [← hz] at hfr
     have HSD := Lib.hid hSd
     rw [hfr]
     clear hfr hz hS hJ hl hSd
     simp only [over, List.setIfInBounds_toArray, List.set_cons_zero, List.set_cons_succ]
     have HES2 : Hid (EsC (fun k => wc.heap.size ≤ k ∧ k < wz.heap.size ∧ v.ownBlock ≠ some k) wz ((List.range (j + 1)).map ES) (cs ++ sixE (ES j) x y z)) := by
      show EsC _ _ _ _
      rw [range_snoc]
      refine EsC.snoc ?_ (EsC.kept (fun k hk => ?_) HES.out)
      ·exact EIn.kept (fun k hk => ⟨⟨Nat.le_trans hbsw hk.1, hk.2.1, hk.2.2⟩, rfl⟩) _ HSD.out.inn
      ·have h1 := hk.1
       have h2 := hk.2.1
       have h3 := HSD.out.size
       refine ⟨⟨h1, by omega, fun e1 => ?_⟩, HSD.out.keep k h2 (by omega) (by omega) hk.2.2⟩
       rcases HSD.out.own k e1 with h5 | h5
       ·exact hk.2.2 h5
       ·omega
     have HKB2 : Hid (Kb mb gs wc wz) := ⟨HSD.out.os.trans HKB.out.os, HSD.out.tape.trans HKB.out.tape, HSD.out.output.trans HKB.out.output, Nat.le_trans HKB.out.size HSD.out.size, fun k h1 h2 h3 => (HSD.out.keep k (by omega) h2 h3 (fun e1 => by have := HVP.out k e1; omega)).trans (HKB.out.keep k h1 h2 h3)⟩
     go_wp2_with fail
     go_roundw
     case rel => exact ⟨j + 1, v, cs ++ sixE (ES j) x y z, by go_num, by omega, HSD.out.box, HSD.out.row, HES2, HSD.out.mkr, HKB2⟩
     case measure => simp [intOf]; omega
   ·have hje : j = many := by omega
    subst hje
    have hmg : mb < gs := by omega
    have hgx : gs < wc.heap.size := lt_of_block HMID.out.box
    have hbsw : wc.heap.size ≤ wr.heap.size := HKB.out.size
    obtain ⟨ao, capr, hvs, hcr1, hcr2⟩ := row_shape HROW.out
    subst hvs
    have hbx0 := HBX.out
    have e0 : wr.cell? ⟨gs, 0, none⟩ = some (.int .i64 7) := by simp [World.cell?, hbx0]
    have hxb : wr.heap[gx]? = _ := (HKB.out.keep gx (lt_of_block HMID.out.xb) (by omega) (by omega)).trans HMID.out.xb
    have HXB := Lib.hid hxb
    have hgel0 : gs < wr.heap.size := lt_of_block hbx0
    have hxl : gx < wr.heap.size := lt_of_block hxb
    have htmxa : ((xa : Int)).tmod 3 = ((xa % 3 : Nat) : Int) := by rw [Int.tmod_eq_emod_of_nonneg (by omega)]; omega
    have hmmxa : (xa : Int) % 3 = ((xa % 3 : Nat) : Int) := by omega
    have hltxa : xa % 3 < 3 := Nat.mod_lt _ (by decide)
    have htmxn : ((xn : Int)).tmod 3 = ((xn % 3 : Nat) : Int) := by rw [Int.tmod_eq_emod_of_nonneg (by omega)]; omega
    have hmmxn : (xn : Int) % 3 = ((xn % 3 : Nat) : Int) := by omega
    have hltxn : xn % 3 < 3 := Nat.mod_lt _ (by decide)
    clear hxb hbx0
    generalize xa % 3 = qa at *
    generalize xn % 3 = qn at *
    go_upto_region 21 with fail
    have HJO : ∀ {l : Nat → Bool} {a : Act} {W : World}, JB wr mb gs X2 X3 L2 L3 B E 7 15 17 19 75 83 l a W → W.cell? ⟨gx, 1, none⟩ = some (.int .u8 (xa : Int)) ∧ W.cell? ⟨gx, 2, none⟩ = some (.int .u16 (xn : Int)) := fun h => by
     have hh := (h.old hxl (by omega) (by omega)).trans HXB.out
     exact ⟨by simp [World.cell?, hh], by simp [World.cell?, hh]⟩
    refine region_sh (fun | 0 => some (.pointer (some ⟨mb, 0, none⟩)) | 1 => some (.int .i64 D) | 2 => some (.int .i64 (D - 1)) | 3 => some (.pointer (some ⟨gx, 1, none⟩)) | 4 => some (.int .u8 (xa : Int)) | 5 => some (.int .u8 (qa : Int)) | 6 => some (.int .i64 (qa : Int)) | 8 => some (.pointer (some ⟨mb, 0, none⟩)) | 9 => some (.int .i64 D) | 10 => some (.int .i64 (D - 1)) | 11 => some (.pointer (some ⟨gx, 2, none⟩)) | 12 => some (.int .u16 (xn : Int)) | 13 => some (.int .u16 (qn : Int)) | 14 => some (.int .i64 (qn : Int)) | 16 => some (.pointer (some ⟨gs, 3, none⟩)) | 18 => some (.pointer (some ⟨gs, 4, none⟩)) | _ => none) (JB wr mb gs X2 X3 L2 L3 B E 7 15 17 19 75 83) (by kernel_rfl) (by kernel_rfl) (by kernel_rfl) (JB.start _) ?_ ?_
    ·intro hon q hq L a1 W hC hl hBh hS hJ K hK
     have hqn : q < 20 := hq
     clear hq
     rcases (show q = 0 ∨ q = 1 ∨ q = 2 ∨ q = 3 ∨ q = 4 ∨ q = 5 ∨ q = 6 ∨ q = 7 ∨ q = 8 ∨ q = 9 ∨ q = 10 ∨ q = 11 ∨ q = 12 ∨ q = 13 ∨ q = 14 ∨ q = 15 ∨ q = 16 ∨ q = 17 ∨ q = 18 ∨ q = 19 from by omega) with rfl | rfl | rfl | rfl | rfl | rfl | rfl | rfl | rfl | rfl | rfl | rfl | rfl | rfl | rfl | rfl | rfl | rfl | rfl | rfl
     ·have e0 := (eval_tmp a1 0).symm.trans ((hS.kept 0 (by kernel_rfl)).trans rfl)
      refine wpOp_step rfl (fun K' hK' => ?_)
      go_simp
      exact hK' _ _ (hK _ _ (hS.put hon (i := 0) rfl rfl (fun u hu => by cases hu; rfl)) (hJ.pure (by decide) (by decide)))
     ·have e1 := (eval_tmp a1 1).symm.trans ((hS.kept 1 (by kernel_rfl)).trans rfl)
      refine wpOp_step rfl (fun K' hK' => ?_)
      go_simp
      exact hK' _ _ (hK _ _ (hS.put hon (i := 1) rfl rfl (fun u hu => by cases hu; rfl)) (hJ.pure (by decide) (by decide)))
     ·have e69 := (eval_tmp a1 69).symm.trans (hS.get hBh (i := 2) rfl 1 (by simp) rfl rfl rfl)
      have hwr : IntKind.i64.wrap (D - 1) = D - 1 := by simp [IntKind.wrap, IntKind.bits, IntKind.signed]; omega
      refine wpOp_step rfl (fun K' hK' => ?_)
      go_simp
      exact hK' _ _ (hK _ _ (hS.put hon (i := 2) rfl rfl (fun u hu => by cases hu; rfl)) (hJ.pure (by decide) (by decide)))
     ·have e5 := (eval_tmp a1 5).symm.trans ((hS.kept 5 (by kernel_rfl)).trans rfl)
      refine wpOp_step rfl (fun K' hK' => ?_)
      go_simp
      exact hK' _ _ (hK _ _ (hS.put hon (i := 3) rfl rfl (fun u hu => by cases hu; rfl)) (hJ.pure (by decide) (by decide)))
     ·have e71 := (eval_tmp a1 71).symm.trans (hS.get hBh (i := 4) rfl 3 (by simp) rfl rfl rfl)
      obtain ⟨cx1, cx2⟩ := HJO hJ
      refine wpOp_step rfl (fun K' hK' => ?_)
      go_simp
      exact hK' _ _ (hK _ _ (hS.put hon (i := 4) rfl rfl (fun u hu => by cases hu; rfl)) (hJ.pure (by decide) (by decide)))
     ·have e72 := (eval_tmp a1 72).symm.trans (hS.get hBh (i := 5) rfl 4 (by simp) rfl rfl rfl)
      refine wpOp_step rfl (fun K' hK' => ?_)
      go_simp
      exact hK' _ _ (hK _ _ (hS.put hon (i := 5) rfl rfl (fun u hu => by cases hu; rfl)) (hJ.pure (by decide) (by decide)))
     ·have e73 := (eval_tmp a1 73).symm.trans (hS.get hBh (i := 6) rfl 5 (by simp) rfl rfl rfl)
      have hwq : IntKind.i64.wrap (qa : Int) = qa := by simp [IntKind.wrap, IntKind.bits, IntKind.signed]; omega
      refine wpOp_step rfl (fun K' hK' => ?_)
      go_simp
      exact hK' _ _ (hK _ _ (hS.put hon (i := 6) rfl rfl (fun u hu => by cases hu; rfl)) (hJ.pure (by decide) (by decide)))
     ·have e68 := (eval_tmp a1 68).symm.trans (hS.get hBh (i := 7) rfl 0 (by simp) rfl rfl rfl)
      have e70 := (eval_tmp a1 70).symm.trans (hS.get hBh (i := 7) rfl 2 (by simp) rfl rfl rfl)
      have e74 := (eval_tmp a1 74).symm.trans (hS.get hBh (i := 7) rfl 6 (by simp) rfl rfl rfl)
      have n15 : L 15 = false := closed_not hC hl (i := 15) (j := 7) rfl (g := .chain) (by simp) rfl
      have n17 : L 17 = false := closed_not hC n15 (i := 17) (j := 15) rfl (g := .chain) (by simp) rfl
      have n19 : L 19 = false := closed_not hC n17 (i := 19) (j := 17) rfl (g := .chain) (by simp) rfl
      obtain rfl := hJ.n0 hl
      refine wpOp_call (f := 75) (args := #[.pointer (some ⟨mb, 0, none⟩), .int .i64 (D - 1), .int .i64 (qa : Int)]) (R := fun u W2 => U1 wr mb X2 L2 B u W2) rfl rfl (by simp [execOp, resolve, invoke, e68, e70, e74, go_sem]) ((HBD.out _ (HMJ.out.below (Below.refl _ _).drew)).mono fun en W2 ⟨v, h1, h2, h3, h4⟩ => ⟨_, h1, h2, ⟨h3.os, h3.tape, h3.output, h3.size, h3.block⟩, h4⟩) ?_
      rintro u W2 hU
      exact hK _ _ (hS.put hon (i := 7) rfl rfl (fun u hu => by cases hu)) (hJ.call1 n15 n17 n19 (by decide) (by rw [hS.size]; exact (by decide : (75 : Nat) < 98)) hU)
     ·have e0 := (eval_tmp a1 0).symm.trans ((hS.kept 0 (by kernel_rfl)).trans rfl)
      refine wpOp_step rfl (fun K' hK' => ?_)
      go_simp
      exact hK' _ _ (hK _ _ (hS.put hon (i := 8) rfl rfl (fun u hu => by cases hu; rfl)) (hJ.pure (by decide) (by decide)))
     ·have e1 := (eval_tmp a1 1).symm.trans ((hS.kept 1 (by kernel_rfl)).trans rfl)
      refine wpOp_step rfl (fun K' hK' => ?_)
      go_simp
      exact hK' _ _ (hK _ _ (hS.put hon (i := 9) rfl rfl (fun u hu => by cases hu; rfl)) (hJ.pure (by decide) (by decide)))
     ·have e77 := (eval_tmp a1 77).symm.trans (hS.get hBh (i := 10) rfl 9 (by simp) rfl rfl rfl)
      have hwr : IntKind.i64.wrap (D - 1) = D - 1 := by simp [IntKind.wrap, IntKind.bits, IntKind.signed]; omega
      refine wpOp_step rfl (fun K' hK' => ?_)
      go_simp
      exact hK' _ _ (hK _ _ (hS.put hon (i := 10) rfl rfl (fun u hu => by cases hu; rfl)) (hJ.pure (by decide) (by decide)))
     ·have e5 := (eval_tmp a1 5).symm.trans ((hS.kept 5 (by kernel_rfl)).trans rfl)
      refine wpOp_step rfl (fun K' hK' => ?_)
      go_simp
      exact hK' _ _ (hK _ _ (hS.put hon (i := 11) rfl rfl (fun u hu => by cases hu; rfl)) (hJ.pure (by decide) (by decide)))
     ·have e79 := (eval_tmp a1 79).symm.trans (hS.get hBh (i := 12) rfl 11 (by simp) rfl rfl rfl)
      obtain ⟨cx1, cx2⟩ := HJO hJ
      refine wpOp_step rfl (fun K' hK' => ?_)
      go_simp
      exact hK' _ _ (hK _ _ (hS.put hon (i := 12) rfl rfl (fun u hu => by cases hu; rfl)) (hJ.pure (by decide) (by decide)))
     ·have e80 := (eval_tmp a1 80).symm.trans (hS.get hBh (i := 13) rfl 12 (by simp) rfl rfl rfl)
      refine wpOp_step rfl (fun K' hK' => ?_)
      go_simp
      exact hK' _ _ (hK _ _ (hS.put hon (i := 13) rfl rfl (fun u hu => by cases hu; rfl)) (hJ.pure (by decide) (by decide)))
     ·have e81 := (eval_tmp a1 81).symm.trans (hS.get hBh (i := 14) rfl 13 (by simp) rfl rfl rfl)
      have hwq : IntKind.i64.wrap (qn : Int) = qn := by simp [IntKind.wrap, IntKind.bits, IntKind.signed]; omega
      refine wpOp_step rfl (fun K' hK' => ?_)
      go_simp
      exact hK' _ _ (hK _ _ (hS.put hon (i := 14) rfl rfl (fun u hu => by cases hu; rfl)) (hJ.pure (by decide) (by decide)))
     ·have e76 := (eval_tmp a1 76).symm.trans (hS.get hBh (i := 15) rfl 8 (by simp) rfl rfl rfl)
      have e78 := (eval_tmp a1 78).symm.trans (hS.get hBh (i := 15) rfl 10 (by simp) rfl rfl rfl)
      have e82 := (eval_tmp a1 82).symm.trans (hS.get hBh (i := 15) rfl 14 (by simp) rfl rfl rfl)
      have d7 : L 7 = true := hBh _ rfl ⟨7, .chain⟩ (by simp) rfl
      have n17 : L 17 = false := closed_not hC hl (i := 17) (j := 15) rfl (g := .chain) (by simp) rfl
      have n19 : L 19 = false := closed_not hC n17 (i := 19) (j := 17) rfl (g := .chain) (by simp) rfl
      have hU1 := hJ.n1 d7 hl
      refine wpOp_call (f := 75) (args := #[.pointer (some ⟨mb, 0, none⟩), .int .i64 (D - 1), .int .i64 (qn : Int)]) (R := fun u W2 => U2 wr mb X3 L3 B E (a1.eval (.tmp 75)) u W2) rfl rfl (by simp [execOp, resolve, invoke, e76, e78, e82, go_sem]) ((HEL.out _ hU1.mkr).mono fun en W2 ⟨v, h1, h2, h3, h4⟩ => ⟨_, h1, h2, grown_trans hU1.gr h3, hU1.bod.up h3 (by omega), SlS.from h4 hU1.gr.size⟩) ?_
      rintro u W2 hU
      exact hK _ _ (hS.put hon (i := 15) rfl rfl (fun u hu => by cases hu)) (hJ.call2 d7 n17 n19 (by decide) (by decide) (by rw [hS.size]; exact (by decide : (83 : Nat) < 98)) hU)
     ·have e6 := (eval_tmp a1 6).symm.trans ((hS.kept 6 (by kernel_rfl)).trans rfl)
      refine wpOp_step rfl (fun K' hK' => ?_)
      go_simp
      exact hK' _ _ (hK _ _ (hS.put hon (i := 16) rfl rfl (fun u hu => by cases hu; rfl)) (hJ.pure (by decide) (by decide)))
     ·have e84 := (eval_tmp a1 84).symm.trans (hS.get hBh (i := 17) rfl 16 (by simp) rfl rfl rfl)
      have d15 : L 15 = true := hBh _ rfl ⟨15, .chain⟩ (by simp) rfl
      have d7 : L 7 = true := hBh _ rfl ⟨7, .data⟩ (by simp) rfl
      have n19 : L 19 = false := closed_not hC hl (i := 19) (j := 17) rfl (g := .chain) (by simp) rfl
      have hU2 := hJ.n2 d15 hl
      obtain ⟨ba, bcp, hv1, _⟩ := hU2.bod
      have e75 := (eval_tmp a1 75).symm.trans hv1
      have hbxW : W.heap[gs]? = _ := (hU2.gr.block gs hgel0 (by simp; omega)).trans HBX.out
      have hfz : W.frozen? ⟨gs, 3, none⟩ = false := by simp [World.frozen?, hbxW]
      have hcc : W.cell? ⟨gs, 3, none⟩ = some (.slice none 0 0) := by simp [World.cell?, hbxW]
      have hgl : gs < W.heap.size := lt_of_block hbxW
      rw [hv1] at hU2
      refine wpOp_step rfl (fun K' hK' => ?_)
      go_simp
      exact hK' _ _ (hK _ _ (hS.none (i := 17) rfl rfl) (JB.put1 d7 d15 n19 (by decide) hU2))
     ·have e6 := (eval_tmp a1 6).symm.trans ((hS.kept 6 (by kernel_rfl)).trans rfl)
      refine wpOp_step rfl (fun K' hK' => ?_)
      go_simp
      exact hK' _ _ (hK _ _ (hS.put hon (i := 18) rfl rfl (fun u hu => by cases hu; rfl)) (hJ.pure (by decide) (by decide)))
     ·have e85 := (eval_tmp a1 85).symm.trans (hS.get hBh (i := 19) rfl 18 (by simp) rfl rfl rfl)
      have d17 : L 17 = true := hBh _ rfl ⟨17, .chain⟩ (by simp) rfl
      have d15 : L 15 = true := hBh _ rfl ⟨15, .data⟩ (by simp) rfl
      have d7 : L 7 = true := hBh _ rfl ⟨7, .phase⟩ (by simp) rfl
      obtain ⟨u, W2, hU2, rfl⟩ := hJ.n3 d17 hl
      obtain ⟨ea, ecp, hv2, _⟩ := hU2.els
      have e83 := (eval_tmp a1 83).symm.trans hv2
      have hbxW : W2.heap[gs]? = _ := (hU2.gr.block gs hgel0 (by simp; omega)).trans HBX.out
      have hbxW2 := setF (f := 3) (v := u) hbxW
      have hfz : (W2.setCell ⟨gs, 3, none⟩ u).frozen? ⟨gs, 4, none⟩ = false := by simp [World.frozen?, hbxW2]
      have hcc : (W2.setCell ⟨gs, 3, none⟩ u).cell? ⟨gs, 4, none⟩ = some (.slice none 0 0) := by simp [World.cell?, hbxW2]
      have hgl : gs < (W2.setCell ⟨gs, 3, none⟩ u).heap.size := lt_of_block hbxW2
      rw [hv2] at hU2
      refine wpOp_step rfl (fun K' hK' => ?_)
      go_simp
      exact hK' _ _ (hK _ _ (hS.none (i := 19) rfl rfl) (JB.put2 d7 d15 d17 (by decide) hU2))
    ·intro L a1 W9 hl hS hJ
     obtain ⟨u, v, W2, hU2, rfl⟩ := hJ.n4 (hl 19 (by decide))
     have hfr := hS.frame [68, 69, 70, 71, 72, 73, 74, 75, 76, 77, 78, 79, 80, 81, 82, 83, 84, 85] rfl
     first | refine (‹∀ (a : Act) (w : World), Code.wp Tryz.prog _ _ a w → _› a1 _ ?_) | skip
     obtain ⟨zz, hz⟩ : ∃ z : Nat → Value, z = fun k => a1.eval (.tmp k) := ⟨_, rfl⟩
     rw [← hz] at hfr
     rw [hfr]
     clear hfr hz hS hJ hl
     simp only [over, List.setIfInBounds_toArray, List.set_cons_zero, List.set_cons_succ]
     obtain ⟨ba, bcp, rfl, hbq⟩ := hU2.bod
     obtain ⟨ea, ecp, rfl, heq⟩ := hU2.els
     have hbxW : W2.heap[gs]? = _ := (hU2.gr.block gs hgel0 (by simp; omega)).trans HBX.out
     have hoth : ∀ k, k ≠ gs → ((W2.setCell ⟨gs, 3, none⟩ (.slice ba B.length bcp)).setCell ⟨gs, 4, none⟩ (.slice ea E.length ecp)).heap[k]? = W2.heap[k]? := fun k hk => (Below.heap_setCell _ _ _ _ hk).trans (Below.heap_setCell _ _ _ _ hk)
     have hszz : ((W2.setCell ⟨gs, 3, none⟩ (.slice ba B.length bcp)).setCell ⟨gs, 4, none⟩ (.slice ea E.length ecp)).heap.size = W2.heap.size := by simp [World.setCell]
     have HSB : Hid (SlS wr.heap.size ((W2.setCell ⟨gs, 3, none⟩ (.slice ba B.length bcp)).setCell ⟨gs, 4, none⟩ (.slice ea E.length ecp)) (.slice ba B.length bcp) B) := hU2.bod.on hszz fun k hk => hoth k (by omega)
     have HSE : Hid (SlS wr.heap.size ((W2.setCell ⟨gs, 3, none⟩ (.slice ba B.length bcp)).setCell ⟨gs, 4, none⟩ (.slice ea E.length ecp)) (.slice ea E.length ecp) E) := hU2.els.on hszz fun k hk => hoth k (by omega)
     have HKZ : Hid (Kb mb gs wr ((W2.setCell ⟨gs, 3, none⟩ (.slice ba B.length bcp)).setCell ⟨gs, 4, none⟩ (.slice ea E.length ecp))) := (Kb.of hU2.gr).set.set
     have HMZ : Hid (MkAt ((W2.setCell ⟨gs, 3, none⟩ (.slice ba B.length bcp)).setCell ⟨gs, 4, none⟩ (.slice ea E.length ecp)) mb X3 L3) := hU2.mkr.kept fun k hk => hoth k (by omega)
     have HBZ : Hid (((W2.setCell ⟨gs, 3, none⟩ (.slice ba B.length bcp)).setCell ⟨gs, 4, none⟩ (.slice ea E.length ecp)).heap[gs]? = some (.cells #[.int .i64 7, .string name, .slice ao j capr, .slice ba B.length bcp, .slice ea E.length ecp, .int .i64 0] 60 (0, 0))) := setF (setF hbxW)
     obtain ⟨wz, hwz⟩ : ∃ wz, (W2.setCell ⟨gs, 3, none⟩ (.slice ba B.length bcp)).setCell ⟨gs, 4, none⟩ (.slice ea E.length ecp) = wz := ⟨_, rfl⟩
     rw [hwz] at HSB HSE HKZ HMZ HBZ ⊢
     clear hwz hU2 hbq heq hbxW hoth hszz
     have hr4 : wz.heap[g4]? = _ := (HKZ.out.keep g4 (by have := lt_of_block HMID.out.res; omega) (by omega) (by omega)).trans ((HKB.out.keep g4 (lt_of_block HMID.out.res) (by omega) (by omega)).trans HMID.out.res)
     have hbx := HBZ.out
     have q0 : wz.cell? ⟨gs, 0, none⟩ = some (.int .i64 (7 : Int)) := by simp [World.cell?, hbx]
     have q1 : wz.cell? ⟨gs, 1, none⟩ = some (.string name) := by simp [World.cell?, hbx]
     have q2 : wz.cell? ⟨gs, 2, none⟩ = some (.slice ao j capr) := by simp [World.cell?, hbx]
     have q3 : wz.cell? ⟨gs, 3, none⟩ = some (.slice ba B.length bcp) := by simp [World.cell?, hbx]
     have q4 : wz.cell? ⟨gs, 4, none⟩ = some (.slice ea E.length ecp) := by simp [World.cell?, hbx]
     have q5 : wz.cell? ⟨gs, 5, none⟩ = some (.int .i64 0) := by simp [World.cell?, hbx]
     have hfz : ∀ i, wz.frozen? ⟨g4, i, none⟩ = false := fun i => by simp [World.frozen?, hr4]
     have r0 : wz.cell? ⟨g4, 0, none⟩ = some (.int .i64 0) := by simp [World.cell?, hr4]
     have r1 : wz.cell? ⟨g4, 1, none⟩ = some (.string ⟨#[]⟩) := by simp [World.cell?, hr4]
     have r2 : wz.cell? ⟨g4, 2, none⟩ = some (.slice none 0 0) := by simp [World.cell?, hr4]
     have r3 : wz.cell? ⟨g4, 3, none⟩ = some (.slice none 0 0) := by simp [World.cell?, hr4]
     have r4 : wz.cell? ⟨g4, 4, none⟩ = some (.slice none 0 0) := by simp [World.cell?, hr4]
     have r5 : wz.cell? ⟨g4, 5, none⟩ = some (.int .i64 0) := by simp [World.cell?, hr4]
     have hg4l : g4 < wz.heap.size := lt_of_block hr4
     have hgel : gs < wz.heap.size := lt_of_block hbx
     have HR4 := Lib.hid hr4
     clear hbx hr4
     go_wp2
     have hfin := fin_stmt (W' := six6 wz g4 (.int .i64 (7 : Int)) (.string name) (.slice ao j capr) (.slice ba B.length bcp) (.slice ea E.length ecp) (.int .i64 0)) (wz := wz) (es := (List.range j).map ES) (B := B) (E := E) HMID.out HROW.out HES.out (by simp) HKB.out HKZ.out HMZ.out HSB.out HSE.out (fun k hk => six6_other hk) six6_size six6_os six6_tape six6_output hg3 (Nat.le_of_eq HG4.out.symm) (by omega) (by omega)
     obtain ⟨t0, t1, t2, t3, t4, t5⟩ := six6_cell (a := .int .i64 (7 : Int)) (b := .string name) (c := .slice ao j capr) (d := .slice ba B.length bcp) (e := .slice ea E.length ecp) (f := .int .i64 0) HR4.out
     obtain ⟨W', hW'⟩ : ∃ W', six6 wz g4 (.int .i64 (7 : Int)) (.string name) (.slice ao j capr) (.slice ba B.length bcp) (.slice ea E.length ecp) (.int .i64 0) = W' := ⟨_, rfl⟩
     rw [hW'] at hfin t0 t1 t2 t3 t4 t5
     unfold six6 at hW'
     rw [hW']
     clear hW' r0 r1 r2 r3 r4 r5 q0 q1 q2 q3 q4 q5
     obtain ⟨f1, f2, f3⟩ := hfin
     have HF3 := Lib.hid f3
     clear f3
     have hbl := HSB.out
     have hel := HSE.out
     refine bodyPost_ret (v := stV (.mk 7 name ((List.range j).map ES) B E 0) (.slice ao j capr) (.slice ba B.length bcp) (.slice ea E.length ecp)) (by simp [results, Tryz.results46, go_sem, stV, t0, t1, t2, t3, t4, t5]) rfl ⟨_, _, _, rfl, f1, f2, HF3.out⟩
end Go.Proofs.YtpboencfnjmmbaaGreatDoor
namespace Go.Proofs.YtpboencfnjmmbaaGreatDoor
open Go.RowKit TM
theorem stmt_D3 {xs : List XX} {left D : Int} (hok : ∀ x ∈ xs, x.ok) (hl0 : -500000000 ≤ left) (hl1 : left ≤ 1000) (hD0 : D = 0) {kind : Nat} (hk9 : (hd xs).d % 9 = 3) (hkd : kind = 8)
 {w : World} {mb : Nat} (hm : MkAt w mb xs left) {name : ByteArray} {many : Nat} (hpn : name = nameS kind (hd xs)) (hpm : many = manyS kind)
 (XS : Nat → List XX) (LF : Nat → Int) (ES : Nat → TE) (h0X : XS 0 = xs.tail) (h0L : LF 0 = left - 1)
 (hstep : ∀ j, j < many → ∀ W, MkAt W mb (XS j) (LF j) → Calls Tryz.prog 74 #[.pointer (some ⟨mb, 0, none⟩), .int .i64 (D - 1)] W fun en w' => ∃ a b c, en = .returned (exV (ES j) a b c) ∧ MkAt w' mb (XS (j + 1)) (LF (j + 1)) ∧ W.grownBy w' (some mb) ∧ EIn (Fresh W.heap.size w'.heap.size) w' (ES j) a b c) :
 Calls Tryz.prog 46 #[.pointer (some ⟨mb, 0, none⟩), .int .i64 D] w fun en w' => ∃ a b c, en = .returned (stV (.mk kind name ((List.range many).map ES) [] [] 0) a b c) ∧ MkAt w' mb (XS many) (LF many) ∧ w.grownBy w' (some mb) ∧ SIn (Fresh w.heap.size w'.heap.size) w' (.mk kind name ((List.range many).map ES) [] [] 0) a b c := by
 have hx := hd_ok hok
 have HNX : Hid (∀ W, MkAt W mb xs left → Calls Tryz.prog 73 #[.pointer (some ⟨mb, 0, none⟩)] W fun e w' => e = .returned (xV (hd xs)) ∧ MkAt w' mb xs.tail (left - 1) ∧ W.grownBy w' (some mb)) := fun W h => next_any h (by omega) (by omega)
 generalize hd xs = x at hx HNX hk9 hpn
 obtain ⟨xd, xa, xn, xs4⟩ := x
 obtain ⟨hxd, hxa, hxn, hxs⟩ := hx
 simp only at hxd hxa hxn hxs hk9
 unfold xV at HNX
 simp only at HNX
 subst hkd
 have htm : ((xd : Int)).tmod 9 = 3 := by rw [Int.tmod_eq_emod_of_nonneg (by omega)]; omega
 have hmm : (xd : Int) % 9 = 3 := by omega
 have hk8 : 8 ≤ 8 := by omega
 have HM : Hid (MkAt w mb xs left) := hm
 have hmw : mb < w.heap.size := hm.lt
 have HSTEP := Lib.hid hstep
 have H0X := Lib.hid h0X
 have H0L := Lib.hid h0L
 have HPN := Lib.hid hpn
 have HPM := Lib.hid hpm
 skip
 clear hok hstep h0X h0L hpn hpm hm hk9
 subst hD0
 go_enter Tryz.func46, Tryz.ntmps46
 go_wp2_with fail
 refine (HNX.out _ (HM.out.below ((Below.refl _ _).alloc (Nat.le_refl _) _))).mono ?_
 rintro e w1 ⟨rfl, m1, g1⟩
 have HM1 := Lib.hid m1
 have HG1 := Lib.hid g1
 have hres1 := (g1.block w.heap.size (by simp) (by simp; omega)).trans (heap_alloc_new w _)
 have HRES1 := Lib.hid hres1
 have hmbl : mb < w1.heap.size := m1.lt
 have hsz1 : w.heap.size + 1 ≤ w1.heap.size := by have := g1.size; simpa using this
 clear g1 hres1 m1
 go_upto_block 0 with fail
 obtain ⟨W0, hW0⟩ : ∃ W0, W0 = ((w1.alloc (.cells #[.int .u8 (xd : Int), .int .u8 (xa : Int), .int .u16 (xn : Int), .int .u8 (xs4 : Int)] 69)).alloc (.cells #[.int .i64 8, .string ⟨#[]⟩, .slice none 0 0, .slice none 0 0, .slice none 0 0, .int .i64 0] 60)) := ⟨_, rfl⟩
 obtain ⟨gx, hgx0⟩ : ∃ gx, gx = w1.heap.size := ⟨_, rfl⟩
 obtain ⟨gs, hgs0⟩ : ∃ gs, gs = w1.heap.size + 1 := ⟨_, rfl⟩
 obtain ⟨g4, hg40⟩ : ∃ g4, g4 = w.heap.size := ⟨_, rfl⟩
 have HW0 := Lib.hid hW0
 have HGX := Lib.hid hgx0
 have HGS := Lib.hid hgs0
 have HG4 := Lib.hid hg40
 have hg1 : g4 < gx := by omega
 have hg2 : gx < gs := by omega
 have hg3 : mb < g4 := by omega
 rw [← hW0, ← hgs0, ← hgx0, ← hg40]
 clear hW0 hgx0 hgs0 hg40
 have HMI0 : Hid (MidS w W0 mb g4 gx gs 8 ⟨#[]⟩ xd xa xn xs4 xs.tail (left - 1)) := by
  have hb0 : Below w1.heap.size w1 ((w1.alloc (.cells #[.int .u8 (xd : Int), .int .u8 (xa : Int), .int .u16 (xn : Int), .int .u8 (xs4 : Int)] 69)).alloc (.cells #[.int .i64 8, .string ⟨#[]⟩, .slice none 0 0, .slice none 0 0, .slice none 0 0, .int .i64 0] 60)) := ((Below.refl _ _).alloc (Nat.le_refl _) _).alloc (by simp) _
  have hb1 : MidS w ((w1.alloc (.cells #[.int .u8 (xd : Int), .int .u8 (xa : Int), .int .u16 (xn : Int), .int .u8 (xs4 : Int)] 69)).alloc (.cells #[.int .i64 8, .string ⟨#[]⟩, .slice none 0 0, .slice none 0 0, .slice none 0 0, .int .i64 0] 60)) mb g4 gx gs 8 ⟨#[]⟩ xd xa xn xs4 xs.tail (left - 1) := by
   refine ⟨?_, ?_, HM1.out.below hb0, ?_, grown_below ⟨HG1.out.os, HG1.out.tape, HG1.out.output, by have := HG1.out.size; simp at this; omega, fun k hk hn => ?_⟩ hb0⟩
   ·rw [HGS.out]
    have := heap_alloc_new (w1.alloc (.cells #[.int .u8 (xd : Int), .int .u8 (xa : Int), .int .u16 (xn : Int), .int .u8 (xs4 : Int)] 69)) (.cells #[.int .i64 8, .string ⟨#[]⟩, .slice none 0 0, .slice none 0 0, .slice none 0 0, .int .i64 0] 60)
    rwa [show (w1.alloc (.cells #[.int .u8 (xd : Int), .int .u8 (xa : Int), .int .u16 (xn : Int), .int .u8 (xs4 : Int)] 69)).heap.size = w1.heap.size + 1 from by simp] at this
   ·rw [HGX.out]; exact block_alloc (heap_alloc_new w1 _) _
   ·rw [hb0.block g4 (by have := HG4.out; omega), HG4.out]; exact HRES1.out
   ·rw [HG1.out.block k (by simp; omega) hn, Below.heap_alloc _ _ _ hk]
  show MidS _ _ _ _ _ _ _ _ _ _ _ _ _ _
  rw [HW0.out]
  exact hb1
 go_cut [7] (fun s7 wc => s7 = .int .i64 (many : Int) ∧ Hid (MidS w wc mb g4 gx gs 8 name xd xa xn xs4 xs.tail (left - 1)))
 case first =>
  have x3 : W0.cell? ⟨gx, 3, none⟩ = some (.int .u8 (xs4 : Int)) := by simp [World.cell?, HMI0.out.xb]
  have e0 : W0.cell? ⟨gs, 0, none⟩ = some (.int .i64 (8 : Int)) := by simp [World.cell?, HMI0.out.box]
  have e1 : W0.cell? ⟨gs, 1, none⟩ = some (.string ⟨#[]⟩) := by simp [World.cell?, HMI0.out.box]
  have hgl0 : gs < W0.heap.size := lt_of_block HMI0.out.box
  have hxl0 : gx < W0.heap.size := lt_of_block HMI0.out.xb
  clear htm hmm
  go_wp2_with fail
  go_meet
  case rel =>
   have q1 : many = 1 := HPM.out
   have q2 : name = ⟨#[]⟩ := HPN.out
   subst q1
   subst q2
   exact ⟨rfl, HMI0⟩
 case rest =>
  obtain ⟨rfl, HMID⟩ := hcut
  have hm4 : many ≤ 3 := by have h := HPM.out; unfold manyS at h; split at h <;> (try split at h) <;> omega
  go_wp2_with fail
  go_loopw [51] (fun i wr => ∃ (j : Nat) (vp : Value) (cs : List Value), i = .int .i64 (j : Int) ∧ j ≤ many ∧ Hid (wr.heap[gs]? = some (.cells #[.int .i64 (8 : Int), .string name, vp, .slice none 0 0, .slice none 0 0, .int .i64 0] 60 (0, 0))) ∧ Hid (wr.ownsRow wc.heap.size 65 6 vp j cs) ∧ Hid (EsC (fun k => wc.heap.size ≤ k ∧ k < wr.heap.size ∧ vp.ownBlock ≠ some k) wr ((List.range j).map ES) cs) ∧ Hid (MkAt wr mb (XS j) (LF j)) ∧ Hid (Kb mb gs wc wr))
   (fun i _ => many - (intOf i).toNat)
  case atStart => exact ⟨0, .slice none 0 0, [], rfl, Nat.zero_le _, HMID.out.box, World.ownsRow_nil _ _ _ _, rfl, by show MkAt _ _ _ _; rw [H0X.out, H0L.out]; exact HMID.out.mkr, Kb.refl _ _ _⟩
  case round =>
   obtain ⟨j, vp, cs, rfl, hjm, HBX, HROW, HES, HMJ, HKB⟩ := hrel
   by_cases hlt : j < many
   ·have hidx : decide ((j : Int) < (many : Int)) = true := by simp; omega
    have HVP : Hid (∀ k, vp.ownBlock = some k → wc.heap.size ≤ k) := fun k hk => (HROW.out.lt k hk).1
    have hmg : mb < gs := by omega
    have hgx : gs < wc.heap.size := lt_of_block HMID.out.box
    have hmbs : mb < wc.heap.size := by omega
    have hbsw : wc.heap.size ≤ wr.heap.size := HKB.out.size
    have hj6 : j ≤ 1000000 := by omega
    obtain ⟨ao, capr, hvs, _⟩ := row_shape HROW.out
    subst hvs
    obtain ⟨vp, hvp⟩ : ∃ vp, vp = Value.slice ao j capr := ⟨_, rfl⟩
    rw [← hvp] at HBX HROW HES HVP
    clear hvp
    go_wp2_with fail
    refine region_sh (valG vp mb gs (0)) (JX wr mb wc.heap.size gs 60 (fun v => #[.int .i64 (8 : Int), .string name, v, .slice none 0 0, .slice none 0 0, .int .i64 0]) (XS (j + 1)) (LF (j + 1)) (ES j) vp j cs 5 6 7 9 58 59 60) (by kernel_rfl) (by kernel_rfl) (by kernel_rfl) (JX.start _) ?_ ?_
    ·intro hon q hq L a1 W hC hl hBh hS hJ K hK
     have hqn : q < 10 := hq
     clear hq
     rcases (show q = 0 ∨ q = 1 ∨ q = 2 ∨ q = 3 ∨ q = 4 ∨ q = 5 ∨ q = 6 ∨ q = 7 ∨ q = 8 ∨ q = 9 from by omega) with rfl | rfl | rfl | rfl | rfl | rfl | rfl | rfl | rfl | rfl
     ·have e6 := (eval_tmp a1 6).symm.trans ((hS.kept 6 (by kernel_rfl)).trans rfl)
      refine wpOp_step rfl (fun K' hK' => ?_)
      go_simp
      exact hK' _ _ (hK _ _ (hS.put hon (i := 0) rfl rfl (fun u hu => by cases hu; rfl)) (hJ.pure (by decide) (by decide)))
     ·have e53 := (eval_tmp a1 53).symm.trans (hS.get hBh (i := 1) rfl 0 (by simp) rfl rfl rfl)
      have hls : L 9 = false := closed_not hC (closed_not hC hl (i := 7) (j := 1) rfl (g := .data) (by simp) rfl) (i := 9) (j := 7) rfl (g := .data) (by simp) rfl
      have hbxW := hJ.box hls HVP.out HBX.out hmg hgx
      have hcl2 : W.cell? ⟨gs, 2, none⟩ = some vp := by simp [World.cell?, hbxW]
      refine wpOp_step rfl (fun K' hK' => ?_)
      go_simp
      exact hK' _ _ (hK _ _ (hS.put hon (i := 1) rfl rfl (fun u hu => by cases hu; rfl)) (hJ.pure (by decide) (by decide)))
     ·have e0 := (eval_tmp a1 0).symm.trans ((hS.kept 0 (by kernel_rfl)).trans rfl)
      refine wpOp_step rfl (fun K' hK' => ?_)
      go_simp
      exact hK' _ _ (hK _ _ (hS.put hon (i := 2) rfl rfl (fun u hu => by cases hu; rfl)) (hJ.pure (by decide) (by decide)))
     ·have e1 := (eval_tmp a1 1).symm.trans ((hS.kept 1 (by kernel_rfl)).trans rfl)
      refine wpOp_step rfl (fun K' hK' => ?_)
      go_simp
      exact hK' _ _ (hK _ _ (hS.put hon (i := 3) rfl rfl (fun u hu => by cases hu; rfl)) (hJ.pure (by decide) (by decide)))
     ·have e56 := (eval_tmp a1 56).symm.trans (hS.get hBh (i := 4) rfl 3 (by simp) rfl rfl rfl)
      have hwr : IntKind.i64.wrap (0 - 1) = 0 - 1 := by rfl
      refine wpOp_step rfl (fun K' hK' => ?_)
      go_simp
      exact hK' _ _ (hK _ _ (hS.put hon (i := 4) rfl rfl (fun u hu => by cases hu; rfl)) (hJ.pure (by decide) (by decide)))
     ·have n6 : L 6 = false := closed_not hC hl (i := 6) (j := 5) rfl (g := .data) (by simp) rfl
      have n7 : L 7 = false := closed_not hC n6 (i := 7) (j := 6) rfl (g := .data) (by simp) rfl
      have n9 : L 9 = false := closed_not hC n7 (i := 9) (j := 7) rfl (g := .data) (by simp) rfl
      have e55 := (eval_tmp a1 55).symm.trans (hS.get hBh (i := 5) rfl 2 (by simp) rfl rfl rfl)
      have e57 := (eval_tmp a1 57).symm.trans (hS.get hBh (i := 5) rfl 4 (by simp) rfl rfl rfl)
      obtain rfl := hJ.n0 hl
      refine wpOp_call (f := 74) (args := #[.pointer (some ⟨mb, 0, none⟩), .int .i64 (0 - 1)]) (R := fun u W2 => ∃ x y z, u = exV (ES j) x y z ∧ Sa wr W2 mb (XS (j + 1)) (LF (j + 1)) (ES j) x y z) rfl rfl (by simp [execOp, resolve, invoke, e55, e57, go_sem]) ((HSTEP.out j (by omega) _ (HMJ.out.below (Below.refl _ _).drew)).mono fun en W2 ⟨x, y, z, h1, h2, h3, h4⟩ => ⟨_, h1, x, y, z, rfl, h2, ⟨h3.os, h3.tape, h3.output, h3.size, h3.block⟩, h4⟩) ?_
      rintro u W2 ⟨x, y, z, rfl, hSa⟩
      exact hK _ _ (hS.put hon (i := 5) rfl rfl (fun u hu => by cases hu)) (hJ.call n6 n7 n9 (by decide) (by rw [hS.size]; exact (by decide : (58 : Nat) < 98)) hSa)
     ·have d5 : L 5 = true := hBh _ rfl ⟨5, .data⟩ (by simp) rfl
      have n7 : L 7 = false := closed_not hC hl (i := 7) (j := 6) rfl (g := .data) (by simp) rfl
      have n9 : L 9 = false := closed_not hC n7 (i := 9) (j := 7) rfl (g := .data) (by simp) rfl
      obtain ⟨x, y, z, hev, hSa⟩ := hJ.n1 d5 hl
      have e58 := (eval_tmp a1 58).symm.trans hev
      obtain ⟨op2, num2, text2, ps2, pm2, bd2, hEj⟩ : ∃ op num text ps pm bd, ES j = .mk op num text ps pm bd := by cases h : ES j; exact ⟨_, _, _, _, _, _, rfl⟩
      have hsix := hSa.inn
      rw [hEj] at hsix
      obtain ⟨_, ⟨pa2, pc2, rfl, _⟩, ⟨na2, nc2, rfl, _⟩, ⟨ba2, bc2, rfl, _⟩⟩ := hsix
      rw [hEj] at e58
      unfold exV at e58
      simp only at e58
      refine wpOp_step rfl (fun K' hK' => ?_)
      go_simp
      exact hK' _ _ (hK _ _ (hS.put hon (i := 6) rfl rfl (fun u hu => by cases hu)) (hJ.lay d5 n7 n9 (by decide) (by rw [hS.size]; exact (by decide : (59 : Nat) < 98)) (hSa.lay (by rw [hEj]; rfl))))
     ·have d6 : L 6 = true := hBh _ rfl ⟨6, .data⟩ (by simp) rfl
      have d5 : L 5 = true := hBh _ rfl ⟨5, .chain⟩ (by simp) rfl
      have n9 : L 9 = false := closed_not hC hl (i := 9) (j := 7) rfl (g := .data) (by simp) rfl
      have e54 := (hS.get hBh (i := 7) rfl 1 (by simp) rfl rfl rfl)
      obtain ⟨g, x, y, z, hge, hSb⟩ := hJ.n2 d6 hl
      obtain ⟨v2, W2, hrun, hSc⟩ := hSb.app HROW.out hmbs hbsw hj6 58
      refine wpOp_run rfl rfl (v := v2) (w' := W2) ?_ (hK _ _ (hS.put hon (i := 7) rfl rfl (fun u hu => by cases hu)) (hJ.app d5 d6 n9 (by decide) (by rw [hS.size]; exact (by decide : (60 : Nat) < 98)) hSc))
      simp [execOp, resolve, invoke, builtin, e54, hge, hrun, Result.andThen]
     ·have e6 := (eval_tmp a1 6).symm.trans ((hS.kept 6 (by kernel_rfl)).trans rfl)
      refine wpOp_step rfl (fun K' hK' => ?_)
      go_simp
      exact hK' _ _ (hK _ _ (hS.put hon (i := 8) rfl rfl (fun u hu => by cases hu; rfl)) (hJ.pure (by decide) (by decide)))
     ·have d7 : L 7 = true := hBh _ rfl ⟨7, .data⟩ (by simp) rfl
      have d6 : L 6 = true := hBh _ rfl ⟨6, .phase⟩ (by simp) rfl
      have d5 : L 5 = true := hBh _ rfl ⟨5, .phase⟩ (by simp) rfl
      have e61 := (eval_tmp a1 61).symm.trans (hS.get hBh (i := 9) rfl 8 (by simp) rfl rfl rfl)
      obtain ⟨x, y, z, hSc⟩ := hJ.n3 d7 hl
      obtain ⟨v2, hv2⟩ : ∃ u, a1.eval (.tmp 60) = u := ⟨_, rfl⟩
      rw [hv2] at hSc
      have e60 := (eval_tmp a1 60).symm.trans hv2
      have hbxW := hJ.box hl HVP.out HBX.out hmg hgx
      obtain ⟨ao2, cap2, rfl, _⟩ := row_shape hSc.row
      have hfz : W.frozen? ⟨gs, 2, none⟩ = false := by simp [World.frozen?, hbxW]
      have hcc : ∃ u, W.cell? ⟨gs, 2, none⟩ = some u := ⟨_, by simp [World.cell?, hbxW]; rfl⟩
      obtain ⟨u0c, hcc⟩ := hcc
      have hgl : gs < W.heap.size := lt_of_block hbxW
      refine wpOp_step rfl (fun K' hK' => ?_)
      go_simp
      exact hK' _ _ (hK _ _ (hS.none (i := 9) rfl rfl) (JX.put d5 d6 d7 (by decide) (hSc.store HVP.out HBX.out hmg hgx hbsw rfl)))
    ·intro L a1 wz hl hS hJ
     obtain ⟨x, y, z, v, hSd⟩ := hJ.n4 (hl 9 (by decide))
     have hfr := hS.frame [53, 54, 55, 56, 57, 58, 59, 60, 61] rfl
     refine (‹∀ (a : Act) (w : World), Code.wp Tryz.prog _ _ a w → _› a1 wz ?_)
     obtain ⟨zz, hz⟩ : ∃ z : Nat → Value, z = fun k => a1.eval (.tmp k) := ⟨_, rfl⟩
     rw [← hz] at hfr
     have HSD := Lib.hid hSd
     rw [hfr]
     clear hfr hz hS hJ hl hSd
     simp only [over, List.setIfInBounds_toArray, List.set_cons_zero, List.set_cons_succ]
     have HES2 : Hid (EsC (fun k => wc.heap.size ≤ k ∧ k < wz.heap.size ∧ v.ownBlock ≠ some k) wz ((List.range (j + 1)).map ES) (cs ++ sixE (ES j) x y z)) := by
      show EsC _ _ _ _
      rw [range_snoc]
      refine EsC.snoc ?_ (EsC.kept (fun k hk => ?_) HES.out)
      ·exact EIn.kept (fun k hk => ⟨⟨Nat.le_trans hbsw hk.1, hk.2.1, hk.2.2⟩, rfl⟩) _ HSD.out.inn
      ·have h1 := hk.1
       have h2 := hk.2.1
       have h3 := HSD.out.size
       refine ⟨⟨h1, by omega, fun e1 => ?_⟩, HSD.out.keep k h2 (by omega) (by omega) hk.2.2⟩
       rcases HSD.out.own k e1 with h5 | h5
       ·exact hk.2.2 h5
       ·omega
     have HKB2 : Hid (Kb mb gs wc wz) := ⟨HSD.out.os.trans HKB.out.os, HSD.out.tape.trans HKB.out.tape, HSD.out.output.trans HKB.out.output, Nat.le_trans HKB.out.size HSD.out.size, fun k h1 h2 h3 => (HSD.out.keep k (by omega) h2 h3 (fun e1 => by have := HVP.out k e1; omega)).trans (HKB.out.keep k h1 h2 h3)⟩
     go_wp2_with fail
     go_roundw
     case rel => exact ⟨j + 1, v, cs ++ sixE (ES j) x y z, by go_num, by omega, HSD.out.box, HSD.out.row, HES2, HSD.out.mkr, HKB2⟩
     case measure => simp [intOf]; omega
   ·have hje : j = many := by omega
    subst hje
    have hmg : mb < gs := by omega
    have hgx : gs < wc.heap.size := lt_of_block HMID.out.box
    have hbsw : wc.heap.size ≤ wr.heap.size := HKB.out.size
    obtain ⟨ao, capr, hvs, hcr1, hcr2⟩ := row_shape HROW.out
    subst hvs
    have hr4 : wr.heap[g4]? = _ := (HKB.out.keep g4 (lt_of_block HMID.out.res) (by omega) (by omega)).trans HMID.out.res
    have hbx := HBX.out
    have q0 : wr.cell? ⟨gs, 0, none⟩ = some (.int .i64 (8 : Int)) := by simp [World.cell?, hbx]
    have q1 : wr.cell? ⟨gs, 1, none⟩ = some (.string name) := by simp [World.cell?, hbx]
    have q2 : wr.cell? ⟨gs, 2, none⟩ = some (.slice ao j capr) := by simp [World.cell?, hbx]
    have q3 : wr.cell? ⟨gs, 3, none⟩ = some (.slice none 0 0) := by simp [World.cell?, hbx]
    have q4 : wr.cell? ⟨gs, 4, none⟩ = some (.slice none 0 0) := by simp [World.cell?, hbx]
    have q5 : wr.cell? ⟨gs, 5, none⟩ = some (.int .i64 0) := by simp [World.cell?, hbx]
    have hfz : ∀ i, wr.frozen? ⟨g4, i, none⟩ = false := fun i => by simp [World.frozen?, hr4]
    have r0 : wr.cell? ⟨g4, 0, none⟩ = some (.int .i64 0) := by simp [World.cell?, hr4]
    have r1 : wr.cell? ⟨g4, 1, none⟩ = some (.string ⟨#[]⟩) := by simp [World.cell?, hr4]
    have r2 : wr.cell? ⟨g4, 2, none⟩ = some (.slice none 0 0) := by simp [World.cell?, hr4]
    have r3 : wr.cell? ⟨g4, 3, none⟩ = some (.slice none 0 0) := by simp [World.cell?, hr4]
    have r4 : wr.cell? ⟨g4, 4, none⟩ = some (.slice none 0 0) := by simp [World.cell?, hr4]
    have r5 : wr.cell? ⟨g4, 5, none⟩ = some (.int .i64 0) := by simp [World.cell?, hr4]
    have hg4l : g4 < wr.heap.size := lt_of_block hr4
    have hgel : gs < wr.heap.size := lt_of_block hbx
    have HR4 := Lib.hid hr4
    clear hbx hr4
    go_wp2
    have hfin := fin_stmt (W' := six6 wr g4 (.int .i64 (8 : Int)) (.string name) (.slice ao j capr) (.slice none 0 0) (.slice none 0 0) (.int .i64 0)) (wz := wr) (es := (List.range j).map ES) (B := []) (E := []) HMID.out HROW.out HES.out (by simp) HKB.out (Kb.refl _ _ _) HMJ.out (SlS.nil _ _) (SlS.nil _ _) (fun k hk => six6_other hk) six6_size six6_os six6_tape six6_output hg3 (Nat.le_of_eq HG4.out.symm) (by omega) (by omega)
    obtain ⟨t0, t1, t2, t3, t4, t5⟩ := six6_cell (a := .int .i64 (8 : Int)) (b := .string name) (c := .slice ao j capr) (d := .slice none 0 0) (e := .slice none 0 0) (f := .int .i64 0) HR4.out
    obtain ⟨W', hW'⟩ : ∃ W', six6 wr g4 (.int .i64 (8 : Int)) (.string name) (.slice ao j capr) (.slice none 0 0) (.slice none 0 0) (.int .i64 0) = W' := ⟨_, rfl⟩
    rw [hW'] at hfin t0 t1 t2 t3 t4 t5
    unfold six6 at hW'
    rw [hW']
    clear hW' r0 r1 r2 r3 r4 r5 q0 q1 q2 q3 q4 q5
    obtain ⟨f1, f2, f3⟩ := hfin
    have HF3 := Lib.hid f3
    clear f3
    refine bodyPost_ret (v := stV (.mk 8 name ((List.range j).map ES) [] [] 0) (.slice ao j capr) (.slice none 0 0) (.slice none 0 0)) (by simp [results, Tryz.results46, go_sem, stV, t0, t1, t2, t3, t4, t5]) rfl ⟨_, _, _, rfl, f1, f2, HF3.out⟩
theorem stmt_D4 {xs : List XX} {left D : Int} (hok : ∀ x ∈ xs, x.ok) (hl0 : -500000000 ≤ left) (hl1 : left ≤ 1000) (hD0 : D = 0) {kind : Nat} (hk9 : (hd xs).d % 9 = 4) (hkd : kind = 8)
 {w : World} {mb : Nat} (hm : MkAt w mb xs left) {name : ByteArray} {many : Nat} (hpn : name = nameS kind (hd xs)) (hpm : many = manyS kind)
 (XS : Nat → List XX) (LF : Nat → Int) (ES : Nat → TE) (h0X : XS 0 = xs.tail) (h0L : LF 0 = left - 1)
 (hstep : ∀ j, j < many → ∀ W, MkAt W mb (XS j) (LF j) → Calls Tryz.prog 74 #[.pointer (some ⟨mb, 0, none⟩), .int .i64 (D - 1)] W fun en w' => ∃ a b c, en = .returned (exV (ES j) a b c) ∧ MkAt w' mb (XS (j + 1)) (LF (j + 1)) ∧ W.grownBy w' (some mb) ∧ EIn (Fresh W.heap.size w'.heap.size) w' (ES j) a b c) :
 Calls Tryz.prog 46 #[.pointer (some ⟨mb, 0, none⟩), .int .i64 D] w fun en w' => ∃ a b c, en = .returned (stV (.mk kind name ((List.range many).map ES) [] [] 0) a b c) ∧ MkAt w' mb (XS many) (LF many) ∧ w.grownBy w' (some mb) ∧ SIn (Fresh w.heap.size w'.heap.size) w' (.mk kind name ((List.range many).map ES) [] [] 0) a b c := by
 have hx := hd_ok hok
 have HNX : Hid (∀ W, MkAt W mb xs left → Calls Tryz.prog 73 #[.pointer (some ⟨mb, 0, none⟩)] W fun e w' => e = .returned (xV (hd xs)) ∧ MkAt w' mb xs.tail (left - 1) ∧ W.grownBy w' (some mb)) := fun W h => next_any h (by omega) (by omega)
 generalize hd xs = x at hx HNX hk9 hpn
 obtain ⟨xd, xa, xn, xs4⟩ := x
 obtain ⟨hxd, hxa, hxn, hxs⟩ := hx
 simp only at hxd hxa hxn hxs hk9
 unfold xV at HNX
 simp only at HNX
 subst hkd
 have htm : ((xd : Int)).tmod 9 = 4 := by rw [Int.tmod_eq_emod_of_nonneg (by omega)]; omega
 have hmm : (xd : Int) % 9 = 4 := by omega
 have hk8 : 8 ≤ 8 := by omega
 have HM : Hid (MkAt w mb xs left) := hm
 have hmw : mb < w.heap.size := hm.lt
 have HSTEP := Lib.hid hstep
 have H0X := Lib.hid h0X
 have H0L := Lib.hid h0L
 have HPN := Lib.hid hpn
 have HPM := Lib.hid hpm
 skip
 clear hok hstep h0X h0L hpn hpm hm hk9
 subst hD0
 go_enter Tryz.func46, Tryz.ntmps46
 go_wp2_with fail
 refine (HNX.out _ (HM.out.below ((Below.refl _ _).alloc (Nat.le_refl _) _))).mono ?_
 rintro e w1 ⟨rfl, m1, g1⟩
 have HM1 := Lib.hid m1
 have HG1 := Lib.hid g1
 have hres1 := (g1.block w.heap.size (by simp) (by simp; omega)).trans (heap_alloc_new w _)
 have HRES1 := Lib.hid hres1
 have hmbl : mb < w1.heap.size := m1.lt
 have hsz1 : w.heap.size + 1 ≤ w1.heap.size := by have := g1.size; simpa using this
 clear g1 hres1 m1
 go_upto_block 0 with fail
 obtain ⟨W0, hW0⟩ : ∃ W0, W0 = ((w1.alloc (.cells #[.int .u8 (xd : Int), .int .u8 (xa : Int), .int .u16 (xn : Int), .int .u8 (xs4 : Int)] 69)).alloc (.cells #[.int .i64 8, .string ⟨#[]⟩, .slice none 0 0, .slice none 0 0, .slice none 0 0, .int .i64 0] 60)) := ⟨_, rfl⟩
 obtain ⟨gx, hgx0⟩ : ∃ gx, gx = w1.heap.size := ⟨_, rfl⟩
 obtain ⟨gs, hgs0⟩ : ∃ gs, gs = w1.heap.size + 1 := ⟨_, rfl⟩
 obtain ⟨g4, hg40⟩ : ∃ g4, g4 = w.heap.size := ⟨_, rfl⟩
 have HW0 := Lib.hid hW0
 have HGX := Lib.hid hgx0
 have HGS := Lib.hid hgs0
 have HG4 := Lib.hid hg40
 have hg1 : g4 < gx := by omega
 have hg2 : gx < gs := by omega
 have hg3 : mb < g4 := by omega
 rw [← hW0, ← hgs0, ← hgx0, ← hg40]
 clear hW0 hgx0 hgs0 hg40
 have HMI0 : Hid (MidS w W0 mb g4 gx gs 8 ⟨#[]⟩ xd xa xn xs4 xs.tail (left - 1)) := by
  have hb0 : Below w1.heap.size w1 ((w1.alloc (.cells #[.int .u8 (xd : Int), .int .u8 (xa : Int), .int .u16 (xn : Int), .int .u8 (xs4 : Int)] 69)).alloc (.cells #[.int .i64 8, .string ⟨#[]⟩, .slice none 0 0, .slice none 0 0, .slice none 0 0, .int .i64 0] 60)) := ((Below.refl _ _).alloc (Nat.le_refl _) _).alloc (by simp) _
  have hb1 : MidS w ((w1.alloc (.cells #[.int .u8 (xd : Int), .int .u8 (xa : Int), .int .u16 (xn : Int), .int .u8 (xs4 : Int)] 69)).alloc (.cells #[.int .i64 8, .string ⟨#[]⟩, .slice none 0 0, .slice none 0 0, .slice none 0 0, .int .i64 0] 60)) mb g4 gx gs 8 ⟨#[]⟩ xd xa xn xs4 xs.tail (left - 1) := by
   refine ⟨?_, ?_, HM1.out.below hb0, ?_, grown_below ⟨HG1.out.os, HG1.out.tape, HG1.out.output, by have := HG1.out.size; simp at this; omega, fun k hk hn => ?_⟩ hb0⟩
   ·rw [HGS.out]
    have := heap_alloc_new (w1.alloc (.cells #[.int .u8 (xd : Int), .int .u8 (xa : Int), .int .u16 (xn : Int), .int .u8 (xs4 : Int)] 69)) (.cells #[.int .i64 8, .string ⟨#[]⟩, .slice none 0 0, .slice none 0 0, .slice none 0 0, .int .i64 0] 60)
    rwa [show (w1.alloc (.cells #[.int .u8 (xd : Int), .int .u8 (xa : Int), .int .u16 (xn : Int), .int .u8 (xs4 : Int)] 69)).heap.size = w1.heap.size + 1 from by simp] at this
   ·rw [HGX.out]; exact block_alloc (heap_alloc_new w1 _) _
   ·rw [hb0.block g4 (by have := HG4.out; omega), HG4.out]; exact HRES1.out
   ·rw [HG1.out.block k (by simp; omega) hn, Below.heap_alloc _ _ _ hk]
  show MidS _ _ _ _ _ _ _ _ _ _ _ _ _ _
  rw [HW0.out]
  exact hb1
 go_cut [7] (fun s7 wc => s7 = .int .i64 (many : Int) ∧ Hid (MidS w wc mb g4 gx gs 8 name xd xa xn xs4 xs.tail (left - 1)))
 case first =>
  have x3 : W0.cell? ⟨gx, 3, none⟩ = some (.int .u8 (xs4 : Int)) := by simp [World.cell?, HMI0.out.xb]
  have e0 : W0.cell? ⟨gs, 0, none⟩ = some (.int .i64 (8 : Int)) := by simp [World.cell?, HMI0.out.box]
  have e1 : W0.cell? ⟨gs, 1, none⟩ = some (.string ⟨#[]⟩) := by simp [World.cell?, HMI0.out.box]
  have hgl0 : gs < W0.heap.size := lt_of_block HMI0.out.box
  have hxl0 : gx < W0.heap.size := lt_of_block HMI0.out.xb
  clear htm hmm
  go_wp2_with fail
  go_meet
  case rel =>
   have q1 : many = 1 := HPM.out
   have q2 : name = ⟨#[]⟩ := HPN.out
   subst q1
   subst q2
   exact ⟨rfl, HMI0⟩
 case rest =>
  obtain ⟨rfl, HMID⟩ := hcut
  have hm4 : many ≤ 3 := by have h := HPM.out; unfold manyS at h; split at h <;> (try split at h) <;> omega
  go_wp2_with fail
  go_loopw [51] (fun i wr => ∃ (j : Nat) (vp : Value) (cs : List Value), i = .int .i64 (j : Int) ∧ j ≤ many ∧ Hid (wr.heap[gs]? = some (.cells #[.int .i64 (8 : Int), .string name, vp, .slice none 0 0, .slice none 0 0, .int .i64 0] 60 (0, 0))) ∧ Hid (wr.ownsRow wc.heap.size 65 6 vp j cs) ∧ Hid (EsC (fun k => wc.heap.size ≤ k ∧ k < wr.heap.size ∧ vp.ownBlock ≠ some k) wr ((List.range j).map ES) cs) ∧ Hid (MkAt wr mb (XS j) (LF j)) ∧ Hid (Kb mb gs wc wr))
   (fun i _ => many - (intOf i).toNat)
  case atStart => exact ⟨0, .slice none 0 0, [], rfl, Nat.zero_le _, HMID.out.box, World.ownsRow_nil _ _ _ _, rfl, by show MkAt _ _ _ _; rw [H0X.out, H0L.out]; exact HMID.out.mkr, Kb.refl _ _ _⟩
  case round =>
   obtain ⟨j, vp, cs, rfl, hjm, HBX, HROW, HES, HMJ, HKB⟩ := hrel
   by_cases hlt : j < many
   ·have hidx : decide ((j : Int) < (many : Int)) = true := by simp; omega
    have HVP : Hid (∀ k, vp.ownBlock = some k → wc.heap.size ≤ k) := fun k hk => (HROW.out.lt k hk).1
    have hmg : mb < gs := by omega
    have hgx : gs < wc.heap.size := lt_of_block HMID.out.box
    have hmbs : mb < wc.heap.size := by omega
    have hbsw : wc.heap.size ≤ wr.heap.size := HKB.out.size
    have hj6 : j ≤ 1000000 := by omega
    obtain ⟨ao, capr, hvs, _⟩ := row_shape HROW.out
    subst hvs
    obtain ⟨vp, hvp⟩ : ∃ vp, vp = Value.slice ao j capr := ⟨_, rfl⟩
    rw [← hvp] at HBX HROW HES HVP
    clear hvp
    go_wp2_with fail
    refine region_sh (valG vp mb gs (0)) (JX wr mb wc.heap.size gs 60 (fun v => #[.int .i64 (8 : Int), .string name, v, .slice none 0 0, .slice none 0 0, .int .i64 0]) (XS (j + 1)) (LF (j + 1)) (ES j) vp j cs 5 6 7 9 58 59 60) (by kernel_rfl) (by kernel_rfl) (by kernel_rfl) (JX.start _) ?_ ?_
    ·intro hon q hq L a1 W hC hl hBh hS hJ K hK
     have hqn : q < 10 := hq
     clear hq
     rcases (show q = 0 ∨ q = 1 ∨ q = 2 ∨ q = 3 ∨ q = 4 ∨ q = 5 ∨ q = 6 ∨ q = 7 ∨ q = 8 ∨ q = 9 from by omega) with rfl | rfl | rfl | rfl | rfl | rfl | rfl | rfl | rfl | rfl
     ·have e6 := (eval_tmp a1 6).symm.trans ((hS.kept 6 (by kernel_rfl)).trans rfl)
      refine wpOp_step rfl (fun K' hK' => ?_)
      go_simp
      exact hK' _ _ (hK _ _ (hS.put hon (i := 0) rfl rfl (fun u hu => by cases hu; rfl)) (hJ.pure (by decide) (by decide)))
     ·have e53 := (eval_tmp a1 53).symm.trans (hS.get hBh (i := 1) rfl 0 (by simp) rfl rfl rfl)
      have hls : L 9 = false := closed_not hC (closed_not hC hl (i := 7) (j := 1) rfl (g := .data) (by simp) rfl) (i := 9) (j := 7) rfl (g := .data) (by simp) rfl
      have hbxW := hJ.box hls HVP.out HBX.out hmg hgx
      have hcl2 : W.cell? ⟨gs, 2, none⟩ = some vp := by simp [World.cell?, hbxW]
      refine wpOp_step rfl (fun K' hK' => ?_)
      go_simp
      exact hK' _ _ (hK _ _ (hS.put hon (i := 1) rfl rfl (fun u hu => by cases hu; rfl)) (hJ.pure (by decide) (by decide)))
     ·have e0 := (eval_tmp a1 0).symm.trans ((hS.kept 0 (by kernel_rfl)).trans rfl)
      refine wpOp_step rfl (fun K' hK' => ?_)
      go_simp
      exact hK' _ _ (hK _ _ (hS.put hon (i := 2) rfl rfl (fun u hu => by cases hu; rfl)) (hJ.pure (by decide) (by decide)))
     ·have e1 := (eval_tmp a1 1).symm.trans ((hS.kept 1 (by kernel_rfl)).trans rfl)
      refine wpOp_step rfl (fun K' hK' => ?_)
      go_simp
      exact hK' _ _ (hK _ _ (hS.put hon (i := 3) rfl rfl (fun u hu => by cases hu; rfl)) (hJ.pure (by decide) (by decide)))
     ·have e56 := (eval_tmp a1 56).symm.trans (hS.get hBh (i := 4) rfl 3 (by simp) rfl rfl rfl)
      have hwr : IntKind.i64.wrap (0 - 1) = 0 - 1 := by rfl
      refine wpOp_step rfl (fun K' hK' => ?_)
      go_simp
      exact hK' _ _ (hK _ _ (hS.put hon (i := 4) rfl rfl (fun u hu => by cases hu; rfl)) (hJ.pure (by decide) (by decide)))
     ·have n6 : L 6 = false := closed_not hC hl (i := 6) (j := 5) rfl (g := .data) (by simp) rfl
      have n7 : L 7 = false := closed_not hC n6 (i := 7) (j := 6) rfl (g := .data) (by simp) rfl
      have n9 : L 9 = false := closed_not hC n7 (i := 9) (j := 7) rfl (g := .data) (by simp) rfl
      have e55 := (eval_tmp a1 55).symm.trans (hS.get hBh (i := 5) rfl 2 (by simp) rfl rfl rfl)
      have e57 := (eval_tmp a1 57).symm.trans (hS.get hBh (i := 5) rfl 4 (by simp) rfl rfl rfl)
      obtain rfl := hJ.n0 hl
      refine wpOp_call (f := 74) (args := #[.pointer (some ⟨mb, 0, none⟩), .int .i64 (0 - 1)]) (R := fun u W2 => ∃ x y z, u = exV (ES j) x y z ∧ Sa wr W2 mb (XS (j + 1)) (LF (j + 1)) (ES j) x y z) rfl rfl (by simp [execOp, resolve, invoke, e55, e57, go_sem]) ((HSTEP.out j (by omega) _ (HMJ.out.below (Below.refl _ _).drew)).mono fun en W2 ⟨x, y, z, h1, h2, h3, h4⟩ => ⟨_, h1, x, y, z, rfl, h2, ⟨h3.os, h3.tape, h3.output, h3.size, h3.block⟩, h4⟩) ?_
      rintro u W2 ⟨x, y, z, rfl, hSa⟩
      exact hK _ _ (hS.put hon (i := 5) rfl rfl (fun u hu => by cases hu)) (hJ.call n6 n7 n9 (by decide) (by rw [hS.size]; exact (by decide : (58 : Nat) < 98)) hSa)
     ·have d5 : L 5 = true := hBh _ rfl ⟨5, .data⟩ (by simp) rfl
      have n7 : L 7 = false := closed_not hC hl (i := 7) (j := 6) rfl (g := .data) (by simp) rfl
      have n9 : L 9 = false := closed_not hC n7 (i := 9) (j := 7) rfl (g := .data) (by simp) rfl
      obtain ⟨x, y, z, hev, hSa⟩ := hJ.n1 d5 hl
      have e58 := (eval_tmp a1 58).symm.trans hev
      obtain ⟨op2, num2, text2, ps2, pm2, bd2, hEj⟩ : ∃ op num text ps pm bd, ES j = .mk op num text ps pm bd := by cases h : ES j; exact ⟨_, _, _, _, _, _, rfl⟩
      have hsix := hSa.inn
      rw [hEj] at hsix
      obtain ⟨_, ⟨pa2, pc2, rfl, _⟩, ⟨na2, nc2, rfl, _⟩, ⟨ba2, bc2, rfl, _⟩⟩ := hsix
      rw [hEj] at e58
      unfold exV at e58
      simp only at e58
      refine wpOp_step rfl (fun K' hK' => ?_)
      go_simp
      exact hK' _ _ (hK _ _ (hS.put hon (i := 6) rfl rfl (fun u hu => by cases hu)) (hJ.lay d5 n7 n9 (by decide) (by rw [hS.size]; exact (by decide : (59 : Nat) < 98)) (hSa.lay (by rw [hEj]; rfl))))
     ·have d6 : L 6 = true := hBh _ rfl ⟨6, .data⟩ (by simp) rfl
      have d5 : L 5 = true := hBh _ rfl ⟨5, .chain⟩ (by simp) rfl
      have n9 : L 9 = false := closed_not hC hl (i := 9) (j := 7) rfl (g := .data) (by simp) rfl
      have e54 := (hS.get hBh (i := 7) rfl 1 (by simp) rfl rfl rfl)
      obtain ⟨g, x, y, z, hge, hSb⟩ := hJ.n2 d6 hl
      obtain ⟨v2, W2, hrun, hSc⟩ := hSb.app HROW.out hmbs hbsw hj6 58
      refine wpOp_run rfl rfl (v := v2) (w' := W2) ?_ (hK _ _ (hS.put hon (i := 7) rfl rfl (fun u hu => by cases hu)) (hJ.app d5 d6 n9 (by decide) (by rw [hS.size]; exact (by decide : (60 : Nat) < 98)) hSc))
      simp [execOp, resolve, invoke, builtin, e54, hge, hrun, Result.andThen]
     ·have e6 := (eval_tmp a1 6).symm.trans ((hS.kept 6 (by kernel_rfl)).trans rfl)
      refine wpOp_step rfl (fun K' hK' => ?_)
      go_simp
      exact hK' _ _ (hK _ _ (hS.put hon (i := 8) rfl rfl (fun u hu => by cases hu; rfl)) (hJ.pure (by decide) (by decide)))
     ·have d7 : L 7 = true := hBh _ rfl ⟨7, .data⟩ (by simp) rfl
      have d6 : L 6 = true := hBh _ rfl ⟨6, .phase⟩ (by simp) rfl
      have d5 : L 5 = true := hBh _ rfl ⟨5, .phase⟩ (by simp) rfl
      have e61 := (eval_tmp a1 61).symm.trans (hS.get hBh (i := 9) rfl 8 (by simp) rfl rfl rfl)
      obtain ⟨x, y, z, hSc⟩ := hJ.n3 d7 hl
      obtain ⟨v2, hv2⟩ : ∃ u, a1.eval (.tmp 60) = u := ⟨_, rfl⟩
      rw [hv2] at hSc
      have e60 := (eval_tmp a1 60).symm.trans hv2
      have hbxW := hJ.box hl HVP.out HBX.out hmg hgx
      obtain ⟨ao2, cap2, rfl, _⟩ := row_shape hSc.row
      have hfz : W.frozen? ⟨gs, 2, none⟩ = false := by simp [World.frozen?, hbxW]
      have hcc : ∃ u, W.cell? ⟨gs, 2, none⟩ = some u := ⟨_, by simp [World.cell?, hbxW]; rfl⟩
      obtain ⟨u0c, hcc⟩ := hcc
      have hgl : gs < W.heap.size := lt_of_block hbxW
      refine wpOp_step rfl (fun K' hK' => ?_)
      go_simp
      exact hK' _ _ (hK _ _ (hS.none (i := 9) rfl rfl) (JX.put d5 d6 d7 (by decide) (hSc.store HVP.out HBX.out hmg hgx hbsw rfl)))
    ·intro L a1 wz hl hS hJ
     obtain ⟨x, y, z, v, hSd⟩ := hJ.n4 (hl 9 (by decide))
     have hfr := hS.frame [53, 54, 55, 56, 57, 58, 59, 60, 61] rfl
     refine (‹∀ (a : Act) (w : World), Code.wp Tryz.prog _ _ a w → _› a1 wz ?_)
     obtain ⟨zz, hz⟩ : ∃ z : Nat → Value, z = fun k => a1.eval (.tmp k) := ⟨_, rfl⟩
     rw [← hz] at hfr
     have HSD := Lib.hid hSd
     rw [hfr]
     clear hfr hz hS hJ hl hSd
     simp only [over, List.setIfInBounds_toArray, List.set_cons_zero, List.set_cons_succ]
     have HES2 : Hid (EsC (fun k => wc.heap.size ≤ k ∧ k < wz.heap.size ∧ v.ownBlock ≠ some k) wz ((List.range (j + 1)).map ES) (cs ++ sixE (ES j) x y z)) := by
      show EsC _ _ _ _
      rw [range_snoc]
      refine EsC.snoc ?_ (EsC.kept (fun k hk => ?_) HES.out)
      ·exact EIn.kept (fun k hk => ⟨⟨Nat.le_trans hbsw hk.1, hk.2.1, hk.2.2⟩, rfl⟩) _ HSD.out.inn
      ·have h1 := hk.1
       have h2 := hk.2.1
       have h3 := HSD.out.size
       refine ⟨⟨h1, by omega, fun e1 => ?_⟩, HSD.out.keep k h2 (by omega) (by omega) hk.2.2⟩
       rcases HSD.out.own k e1 with h5 | h5
       ·exact hk.2.2 h5
       ·omega
     have HKB2 : Hid (Kb mb gs wc wz) := ⟨HSD.out.os.trans HKB.out.os, HSD.out.tape.trans HKB.out.tape, HSD.out.output.trans HKB.out.output, Nat.le_trans HKB.out.size HSD.out.size, fun k h1 h2 h3 => (HSD.out.keep k (by omega) h2 h3 (fun e1 => by have := HVP.out k e1; omega)).trans (HKB.out.keep k h1 h2 h3)⟩
     go_wp2_with fail
     go_roundw
     case rel => exact ⟨j + 1, v, cs ++ sixE (ES j) x y z, by go_num, by omega, HSD.out.box, HSD.out.row, HES2, HSD.out.mkr, HKB2⟩
     case measure => simp [intOf]; omega
   ·have hje : j = many := by omega
    subst hje
    have hmg : mb < gs := by omega
    have hgx : gs < wc.heap.size := lt_of_block HMID.out.box
    have hbsw : wc.heap.size ≤ wr.heap.size := HKB.out.size
    obtain ⟨ao, capr, hvs, hcr1, hcr2⟩ := row_shape HROW.out
    subst hvs
    have hr4 : wr.heap[g4]? = _ := (HKB.out.keep g4 (lt_of_block HMID.out.res) (by omega) (by omega)).trans HMID.out.res
    have hbx := HBX.out
    have q0 : wr.cell? ⟨gs, 0, none⟩ = some (.int .i64 (8 : Int)) := by simp [World.cell?, hbx]
    have q1 : wr.cell? ⟨gs, 1, none⟩ = some (.string name) := by simp [World.cell?, hbx]
    have q2 : wr.cell? ⟨gs, 2, none⟩ = some (.slice ao j capr) := by simp [World.cell?, hbx]
    have q3 : wr.cell? ⟨gs, 3, none⟩ = some (.slice none 0 0) := by simp [World.cell?, hbx]
    have q4 : wr.cell? ⟨gs, 4, none⟩ = some (.slice none 0 0) := by simp [World.cell?, hbx]
    have q5 : wr.cell? ⟨gs, 5, none⟩ = some (.int .i64 0) := by simp [World.cell?, hbx]
    have hfz : ∀ i, wr.frozen? ⟨g4, i, none⟩ = false := fun i => by simp [World.frozen?, hr4]
    have r0 : wr.cell? ⟨g4, 0, none⟩ = some (.int .i64 0) := by simp [World.cell?, hr4]
    have r1 : wr.cell? ⟨g4, 1, none⟩ = some (.string ⟨#[]⟩) := by simp [World.cell?, hr4]
    have r2 : wr.cell? ⟨g4, 2, none⟩ = some (.slice none 0 0) := by simp [World.cell?, hr4]
    have r3 : wr.cell? ⟨g4, 3, none⟩ = some (.slice none 0 0) := by simp [World.cell?, hr4]
    have r4 : wr.cell? ⟨g4, 4, none⟩ = some (.slice none 0 0) := by simp [World.cell?, hr4]
    have r5 : wr.cell? ⟨g4, 5, none⟩ = some (.int .i64 0) := by simp [World.cell?, hr4]
    have hg4l : g4 < wr.heap.size := lt_of_block hr4
    have hgel : gs < wr.heap.size := lt_of_block hbx
    have HR4 := Lib.hid hr4
    clear hbx hr4
    go_wp2
    have hfin := fin_stmt (W' := six6 wr g4 (.int .i64 (8 : Int)) (.string name) (.slice ao j capr) (.slice none 0 0) (.slice none 0 0) (.int .i64 0)) (wz := wr) (es := (List.range j).map ES) (B := []) (E := []) HMID.out HROW.out HES.out (by simp) HKB.out (Kb.refl _ _ _) HMJ.out (SlS.nil _ _) (SlS.nil _ _) (fun k hk => six6_other hk) six6_size six6_os six6_tape six6_output hg3 (Nat.le_of_eq HG4.out.symm) (by omega) (by omega)
    obtain ⟨t0, t1, t2, t3, t4, t5⟩ := six6_cell (a := .int .i64 (8 : Int)) (b := .string name) (c := .slice ao j capr) (d := .slice none 0 0) (e := .slice none 0 0) (f := .int .i64 0) HR4.out
    obtain ⟨W', hW'⟩ : ∃ W', six6 wr g4 (.int .i64 (8 : Int)) (.string name) (.slice ao j capr) (.slice none 0 0) (.slice none 0 0) (.int .i64 0) = W' := ⟨_, rfl⟩
    rw [hW'] at hfin t0 t1 t2 t3 t4 t5
    unfold six6 at hW'
    rw [hW']
    clear hW' r0 r1 r2 r3 r4 r5 q0 q1 q2 q3 q4 q5
    obtain ⟨f1, f2, f3⟩ := hfin
    have HF3 := Lib.hid f3
    clear f3
    refine bodyPost_ret (v := stV (.mk 8 name ((List.range j).map ES) [] [] 0) (.slice ao j capr) (.slice none 0 0) (.slice none 0 0)) (by simp [results, Tryz.results46, go_sem, stV, t0, t1, t2, t3, t4, t5]) rfl ⟨_, _, _, rfl, f1, f2, HF3.out⟩
theorem stmt_D7 {xs : List XX} {left D : Int} (hok : ∀ x ∈ xs, x.ok) (hl0 : -500000000 ≤ left) (hl1 : left ≤ 1000) (hD0 : D = 0) {kind : Nat} (hk9 : (hd xs).d % 9 = 7) (hkd : kind = 8)
 {w : World} {mb : Nat} (hm : MkAt w mb xs left) {name : ByteArray} {many : Nat} (hpn : name = nameS kind (hd xs)) (hpm : many = manyS kind)
 (XS : Nat → List XX) (LF : Nat → Int) (ES : Nat → TE) (h0X : XS 0 = xs.tail) (h0L : LF 0 = left - 1)
 (hstep : ∀ j, j < many → ∀ W, MkAt W mb (XS j) (LF j) → Calls Tryz.prog 74 #[.pointer (some ⟨mb, 0, none⟩), .int .i64 (D - 1)] W fun en w' => ∃ a b c, en = .returned (exV (ES j) a b c) ∧ MkAt w' mb (XS (j + 1)) (LF (j + 1)) ∧ W.grownBy w' (some mb) ∧ EIn (Fresh W.heap.size w'.heap.size) w' (ES j) a b c) :
 Calls Tryz.prog 46 #[.pointer (some ⟨mb, 0, none⟩), .int .i64 D] w fun en w' => ∃ a b c, en = .returned (stV (.mk kind name ((List.range many).map ES) [] [] 0) a b c) ∧ MkAt w' mb (XS many) (LF many) ∧ w.grownBy w' (some mb) ∧ SIn (Fresh w.heap.size w'.heap.size) w' (.mk kind name ((List.range many).map ES) [] [] 0) a b c := by
 have hx := hd_ok hok
 have HNX : Hid (∀ W, MkAt W mb xs left → Calls Tryz.prog 73 #[.pointer (some ⟨mb, 0, none⟩)] W fun e w' => e = .returned (xV (hd xs)) ∧ MkAt w' mb xs.tail (left - 1) ∧ W.grownBy w' (some mb)) := fun W h => next_any h (by omega) (by omega)
 generalize hd xs = x at hx HNX hk9 hpn
 obtain ⟨xd, xa, xn, xs4⟩ := x
 obtain ⟨hxd, hxa, hxn, hxs⟩ := hx
 simp only at hxd hxa hxn hxs hk9
 unfold xV at HNX
 simp only at HNX
 subst hkd
 have htm : ((xd : Int)).tmod 9 = 7 := by rw [Int.tmod_eq_emod_of_nonneg (by omega)]; omega
 have hmm : (xd : Int) % 9 = 7 := by omega
 have hk8 : 8 ≤ 8 := by omega
 have HM : Hid (MkAt w mb xs left) := hm
 have hmw : mb < w.heap.size := hm.lt
 have HSTEP := Lib.hid hstep
 have H0X := Lib.hid h0X
 have H0L := Lib.hid h0L
 have HPN := Lib.hid hpn
 have HPM := Lib.hid hpm
 skip
 clear hok hstep h0X h0L hpn hpm hm hk9
 subst hD0
 go_enter Tryz.func46, Tryz.ntmps46
 go_wp2_with fail
 refine (HNX.out _ (HM.out.below ((Below.refl _ _).alloc (Nat.le_refl _) _))).mono ?_
 rintro e w1 ⟨rfl, m1, g1⟩
 have HM1 := Lib.hid m1
 have HG1 := Lib.hid g1
 have hres1 := (g1.block w.heap.size (by simp) (by simp; omega)).trans (heap_alloc_new w _)
 have HRES1 := Lib.hid hres1
 have hmbl : mb < w1.heap.size := m1.lt
 have hsz1 : w.heap.size + 1 ≤ w1.heap.size := by have := g1.size; simpa using this
 clear g1 hres1 m1
 go_upto_block 0 with fail
 obtain ⟨W0, hW0⟩ : ∃ W0, W0 = ((w1.alloc (.cells #[.int .u8 (xd : Int), .int .u8 (xa : Int), .int .u16 (xn : Int), .int .u8 (xs4 : Int)] 69)).alloc (.cells #[.int .i64 8, .string ⟨#[]⟩, .slice none 0 0, .slice none 0 0, .slice none 0 0, .int .i64 0] 60)) := ⟨_, rfl⟩
 obtain ⟨gx, hgx0⟩ : ∃ gx, gx = w1.heap.size := ⟨_, rfl⟩
 obtain ⟨gs, hgs0⟩ : ∃ gs, gs = w1.heap.size + 1 := ⟨_, rfl⟩
 obtain ⟨g4, hg40⟩ : ∃ g4, g4 = w.heap.size := ⟨_, rfl⟩
 have HW0 := Lib.hid hW0
 have HGX := Lib.hid hgx0
 have HGS := Lib.hid hgs0
 have HG4 := Lib.hid hg40
 have hg1 : g4 < gx := by omega
 have hg2 : gx < gs := by omega
 have hg3 : mb < g4 := by omega
 rw [← hW0, ← hgs0, ← hgx0, ← hg40]
 clear hW0 hgx0 hgs0 hg40
 have HMI0 : Hid (MidS w W0 mb g4 gx gs 8 ⟨#[]⟩ xd xa xn xs4 xs.tail (left - 1)) := by
  have hb0 : Below w1.heap.size w1 ((w1.alloc (.cells #[.int .u8 (xd : Int), .int .u8 (xa : Int), .int .u16 (xn : Int), .int .u8 (xs4 : Int)] 69)).alloc (.cells #[.int .i64 8, .string ⟨#[]⟩, .slice none 0 0, .slice none 0 0, .slice none 0 0, .int .i64 0] 60)) := ((Below.refl _ _).alloc (Nat.le_refl _) _).alloc (by simp) _
  have hb1 : MidS w ((w1.alloc (.cells #[.int .u8 (xd : Int), .int .u8 (xa : Int), .int .u16 (xn : Int), .int .u8 (xs4 : Int)] 69)).alloc (.cells #[.int .i64 8, .string ⟨#[]⟩, .slice none 0 0, .slice none 0 0, .slice none 0 0, .int .i64 0] 60)) mb g4 gx gs 8 ⟨#[]⟩ xd xa xn xs4 xs.tail (left - 1) := by
   refine ⟨?_, ?_, HM1.out.below hb0, ?_, grown_below ⟨HG1.out.os, HG1.out.tape, HG1.out.output, by have := HG1.out.size; simp at this; omega, fun k hk hn => ?_⟩ hb0⟩
   ·rw [HGS.out]
    have := heap_alloc_new (w1.alloc (.cells #[.int .u8 (xd : Int), .int .u8 (xa : Int), .int .u16 (xn : Int), .int .u8 (xs4 : Int)] 69)) (.cells #[.int .i64 8, .string ⟨#[]⟩, .slice none 0 0, .slice none 0 0, .slice none 0 0, .int .i64 0] 60)
    rwa [show (w1.alloc (.cells #[.int .u8 (xd : Int), .int .u8 (xa : Int), .int .u16 (xn : Int), .int .u8 (xs4 : Int)] 69)).heap.size = w1.heap.size + 1 from by simp] at this
   ·rw [HGX.out]; exact block_alloc (heap_alloc_new w1 _) _
   ·rw [hb0.block g4 (by have := HG4.out; omega), HG4.out]; exact HRES1.out
   ·rw [HG1.out.block k (by simp; omega) hn, Below.heap_alloc _ _ _ hk]
  show MidS _ _ _ _ _ _ _ _ _ _ _ _ _ _
  rw [HW0.out]
  exact hb1
 go_cut [7] (fun s7 wc => s7 = .int .i64 (many : Int) ∧ Hid (MidS w wc mb g4 gx gs 8 name xd xa xn xs4 xs.tail (left - 1)))
 case first =>
  have x3 : W0.cell? ⟨gx, 3, none⟩ = some (.int .u8 (xs4 : Int)) := by simp [World.cell?, HMI0.out.xb]
  have e0 : W0.cell? ⟨gs, 0, none⟩ = some (.int .i64 (8 : Int)) := by simp [World.cell?, HMI0.out.box]
  have e1 : W0.cell? ⟨gs, 1, none⟩ = some (.string ⟨#[]⟩) := by simp [World.cell?, HMI0.out.box]
  have hgl0 : gs < W0.heap.size := lt_of_block HMI0.out.box
  have hxl0 : gx < W0.heap.size := lt_of_block HMI0.out.xb
  clear htm hmm
  go_wp2_with fail
  go_meet
  case rel =>
   have q1 : many = 1 := HPM.out
   have q2 : name = ⟨#[]⟩ := HPN.out
   subst q1
   subst q2
   exact ⟨rfl, HMI0⟩
 case rest =>
  obtain ⟨rfl, HMID⟩ := hcut
  have hm4 : many ≤ 3 := by have h := HPM.out; unfold manyS at h; split at h <;> (try split at h) <;> omega
  go_wp2_with fail
  go_loopw [51] (fun i wr => ∃ (j : Nat) (vp : Value) (cs : List Value), i = .int .i64 (j : Int) ∧ j ≤ many ∧ Hid (wr.heap[gs]? = some (.cells #[.int .i64 (8 : Int), .string name, vp, .slice none 0 0, .slice none 0 0, .int .i64 0] 60 (0, 0))) ∧ Hid (wr.ownsRow wc.heap.size 65 6 vp j cs) ∧ Hid (EsC (fun k => wc.heap.size ≤ k ∧ k < wr.heap.size ∧ vp.ownBlock ≠ some k) wr ((List.range j).map ES) cs) ∧ Hid (MkAt wr mb (XS j) (LF j)) ∧ Hid (Kb mb gs wc wr))
   (fun i _ => many - (intOf i).toNat)
  case atStart => exact ⟨0, .slice none 0 0, [], rfl, Nat.zero_le _, HMID.out.box, World.ownsRow_nil _ _ _ _, rfl, by show MkAt _ _ _ _; rw [H0X.out, H0L.out]; exact HMID.out.mkr, Kb.refl _ _ _⟩
  case round =>
   obtain ⟨j, vp, cs, rfl, hjm, HBX, HROW, HES, HMJ, HKB⟩ := hrel
   by_cases hlt : j < many
   ·have hidx : decide ((j : Int) < (many : Int)) = true := by simp; omega
    have HVP : Hid (∀ k, vp.ownBlock = some k → wc.heap.size ≤ k) := fun k hk => (HROW.out.lt k hk).1
    have hmg : mb < gs := by omega
    have hgx : gs < wc.heap.size := lt_of_block HMID.out.box
    have hmbs : mb < wc.heap.size := by omega
    have hbsw : wc.heap.size ≤ wr.heap.size := HKB.out.size
    have hj6 : j ≤ 1000000 := by omega
    obtain ⟨ao, capr, hvs, _⟩ := row_shape HROW.out
    subst hvs
    obtain ⟨vp, hvp⟩ : ∃ vp, vp = Value.slice ao j capr := ⟨_, rfl⟩
    rw [← hvp] at HBX HROW HES HVP
    clear hvp
    go_wp2_with fail
    refine region_sh (valG vp mb gs (0)) (JX wr mb wc.heap.size gs 60 (fun v => #[.int .i64 (8 : Int), .string name, v, .slice none 0 0, .slice none 0 0, .int .i64 0]) (XS (j + 1)) (LF (j + 1)) (ES j) vp j cs 5 6 7 9 58 59 60) (by kernel_rfl) (by kernel_rfl) (by kernel_rfl) (JX.start _) ?_ ?_
    ·intro hon q hq L a1 W hC hl hBh hS hJ K hK
     have hqn : q < 10 := hq
     clear hq
     rcases (show q = 0 ∨ q = 1 ∨ q = 2 ∨ q = 3 ∨ q = 4 ∨ q = 5 ∨ q = 6 ∨ q = 7 ∨ q = 8 ∨ q = 9 from by omega) with rfl | rfl | rfl | rfl | rfl | rfl | rfl | rfl | rfl | rfl
     ·have e6 := (eval_tmp a1 6).symm.trans ((hS.kept 6 (by kernel_rfl)).trans rfl)
      refine wpOp_step rfl (fun K' hK' => ?_)
      go_simp
      exact hK' _ _ (hK _ _ (hS.put hon (i := 0) rfl rfl (fun u hu => by cases hu; rfl)) (hJ.pure (by decide) (by decide)))
     ·have e53 := (eval_tmp a1 53).symm.trans (hS.get hBh (i := 1) rfl 0 (by simp) rfl rfl rfl)
      have hls : L 9 = false := closed_not hC (closed_not hC hl (i := 7) (j := 1) rfl (g := .data) (by simp) rfl) (i := 9) (j := 7) rfl (g := .data) (by simp) rfl
      have hbxW := hJ.box hls HVP.out HBX.out hmg hgx
      have hcl2 : W.cell? ⟨gs, 2, none⟩ = some vp := by simp [World.cell?, hbxW]
      refine wpOp_step rfl (fun K' hK' => ?_)
      go_simp
      exact hK' _ _ (hK _ _ (hS.put hon (i := 1) rfl rfl (fun u hu => by cases hu; rfl)) (hJ.pure (by decide) (by decide)))
     ·have e0 := (eval_tmp a1 0).symm.trans ((hS.kept 0 (by kernel_rfl)).trans rfl)
      refine wpOp_step rfl (fun K' hK' => ?_)
      go_simp
      exact hK' _ _ (hK _ _ (hS.put hon (i := 2) rfl rfl (fun u hu => by cases hu; rfl)) (hJ.pure (by decide) (by decide)))
     ·have e1 := (eval_tmp a1 1).symm.trans ((hS.kept 1 (by kernel_rfl)).trans rfl)
      refine wpOp_step rfl (fun K' hK' => ?_)
      go_simp
      exact hK' _ _ (hK _ _ (hS.put hon (i := 3) rfl rfl (fun u hu => by cases hu; rfl)) (hJ.pure (by decide) (by decide)))
     ·have e56 := (eval_tmp a1 56).symm.trans (hS.get hBh (i := 4) rfl 3 (by simp) rfl rfl rfl)
      have hwr : IntKind.i64.wrap (0 - 1) = 0 - 1 := by rfl
      refine wpOp_step rfl (fun K' hK' => ?_)
      go_simp
      exact hK' _ _ (hK _ _ (hS.put hon (i := 4) rfl rfl (fun u hu => by cases hu; rfl)) (hJ.pure (by decide) (by decide)))
     ·have n6 : L 6 = false := closed_not hC hl (i := 6) (j := 5) rfl (g := .data) (by simp) rfl
      have n7 : L 7 = false := closed_not hC n6 (i := 7) (j := 6) rfl (g := .data) (by simp) rfl
      have n9 : L 9 = false := closed_not hC n7 (i := 9) (j := 7) rfl (g := .data) (by simp) rfl
      have e55 := (eval_tmp a1 55).symm.trans (hS.get hBh (i := 5) rfl 2 (by simp) rfl rfl rfl)
      have e57 := (eval_tmp a1 57).symm.trans (hS.get hBh (i := 5) rfl 4 (by simp) rfl rfl rfl)
      obtain rfl := hJ.n0 hl
      refine wpOp_call (f := 74) (args := #[.pointer (some ⟨mb, 0, none⟩), .int .i64 (0 - 1)]) (R := fun u W2 => ∃ x y z, u = exV (ES j) x y z ∧ Sa wr W2 mb (XS (j + 1)) (LF (j + 1)) (ES j) x y z) rfl rfl (by simp [execOp, resolve, invoke, e55, e57, go_sem]) ((HSTEP.out j (by omega) _ (HMJ.out.below (Below.refl _ _).drew)).mono fun en W2 ⟨x, y, z, h1, h2, h3, h4⟩ => ⟨_, h1, x, y, z, rfl, h2, ⟨h3.os, h3.tape, h3.output, h3.size, h3.block⟩, h4⟩) ?_
      rintro u W2 ⟨x, y, z, rfl, hSa⟩
      exact hK _ _ (hS.put hon (i := 5) rfl rfl (fun u hu => by cases hu)) (hJ.call n6 n7 n9 (by decide) (by rw [hS.size]; exact (by decide : (58 : Nat) < 98)) hSa)
     ·have d5 : L 5 = true := hBh _ rfl ⟨5, .data⟩ (by simp) rfl
      have n7 : L 7 = false := closed_not hC hl (i := 7) (j := 6) rfl (g := .data) (by simp) rfl
      have n9 : L 9 = false := closed_not hC n7 (i := 9) (j := 7) rfl (g := .data) (by simp) rfl
      obtain ⟨x, y, z, hev, hSa⟩ := hJ.n1 d5 hl
      have e58 := (eval_tmp a1 58).symm.trans hev
      obtain ⟨op2, num2, text2, ps2, pm2, bd2, hEj⟩ : ∃ op num text ps pm bd, ES j = .mk op num text ps pm bd := by cases h : ES j; exact ⟨_, _, _, _, _, _, rfl⟩
      have hsix := hSa.inn
      rw [hEj] at hsix
      obtain ⟨_, ⟨pa2, pc2, rfl, _⟩, ⟨na2, nc2, rfl, _⟩, ⟨ba2, bc2, rfl, _⟩⟩ := hsix
      rw [hEj] at e58
      unfold exV at e58
      simp only at e58
      refine wpOp_step rfl (fun K' hK' => ?_)
      go_simp
      exact hK' _ _ (hK _ _ (hS.put hon (i := 6) rfl rfl (fun u hu => by cases hu)) (hJ.lay d5 n7 n9 (by decide) (by rw [hS.size]; exact (by decide : (59 : Nat) < 98)) (hSa.lay (by rw [hEj]; rfl))))
     ·have d6 : L 6 = true := hBh _ rfl ⟨6, .data⟩ (by simp) rfl
      have d5 : L 5 = true := hBh _ rfl ⟨5, .chain⟩ (by simp) rfl
      have n9 : L 9 = false := closed_not hC hl (i := 9) (j := 7) rfl (g := .data) (by simp) rfl
      have e54 := (hS.get hBh (i := 7) rfl 1 (by simp) rfl rfl rfl)
      obtain ⟨g, x, y, z, hge, hSb⟩ := hJ.n2 d6 hl
      obtain ⟨v2, W2, hrun, hSc⟩ := hSb.app HROW.out hmbs hbsw hj6 58
      refine wpOp_run rfl rfl (v := v2) (w' := W2) ?_ (hK _ _ (hS.put hon (i := 7) rfl rfl (fun u hu => by cases hu)) (hJ.app d5 d6 n9 (by decide) (by rw [hS.size]; exact (by decide : (60 : Nat) < 98)) hSc))
      simp [execOp, resolve, invoke, builtin, e54, hge, hrun, Result.andThen]
     ·have e6 := (eval_tmp a1 6).symm.trans ((hS.kept 6 (by kernel_rfl)).trans rfl)
      refine wpOp_step rfl (fun K' hK' => ?_)
      go_simp
      exact hK' _ _ (hK _ _ (hS.put hon (i := 8) rfl rfl (fun u hu => by cases hu; rfl)) (hJ.pure (by decide) (by decide)))
     ·have d7 : L 7 = true := hBh _ rfl ⟨7, .data⟩ (by simp) rfl
      have d6 : L 6 = true := hBh _ rfl ⟨6, .phase⟩ (by simp) rfl
      have d5 : L 5 = true := hBh _ rfl ⟨5, .phase⟩ (by simp) rfl
      have e61 := (eval_tmp a1 61).symm.trans (hS.get hBh (i := 9) rfl 8 (by simp) rfl rfl rfl)
      obtain ⟨x, y, z, hSc⟩ := hJ.n3 d7 hl
      obtain ⟨v2, hv2⟩ : ∃ u, a1.eval (.tmp 60) = u := ⟨_, rfl⟩
      rw [hv2] at hSc
      have e60 := (eval_tmp a1 60).symm.trans hv2
      have hbxW := hJ.box hl HVP.out HBX.out hmg hgx
      obtain ⟨ao2, cap2, rfl, _⟩ := row_shape hSc.row
      have hfz : W.frozen? ⟨gs, 2, none⟩ = false := by simp [World.frozen?, hbxW]
      have hcc : ∃ u, W.cell? ⟨gs, 2, none⟩ = some u := ⟨_, by simp [World.cell?, hbxW]; rfl⟩
      obtain ⟨u0c, hcc⟩ := hcc
      have hgl : gs < W.heap.size := lt_of_block hbxW
      refine wpOp_step rfl (fun K' hK' => ?_)
      go_simp
      exact hK' _ _ (hK _ _ (hS.none (i := 9) rfl rfl) (JX.put d5 d6 d7 (by decide) (hSc.store HVP.out HBX.out hmg hgx hbsw rfl)))
    ·intro L a1 wz hl hS hJ
     obtain ⟨x, y, z, v, hSd⟩ := hJ.n4 (hl 9 (by decide))
     have hfr := hS.frame [53, 54, 55, 56, 57, 58, 59, 60, 61] rfl
     refine (‹∀ (a : Act) (w : World), Code.wp Tryz.prog _ _ a w → _› a1 wz ?_)
     obtain ⟨zz, hz⟩ : ∃ z : Nat → Value, z = fun k => a1.eval (.tmp k) := ⟨_, rfl⟩
     rw [← hz] at hfr
     have HSD := Lib.hid hSd
     rw [hfr]
     clear hfr hz hS hJ hl hSd
     simp only [over, List.setIfInBounds_toArray, List.set_cons_zero, List.set_cons_succ]
     have HES2 : Hid (EsC (fun k => wc.heap.size ≤ k ∧ k < wz.heap.size ∧ v.ownBlock ≠ some k) wz ((List.range (j + 1)).map ES) (cs ++ sixE (ES j) x y z)) := by
      show EsC _ _ _ _
      rw [range_snoc]
      refine EsC.snoc ?_ (EsC.kept (fun k hk => ?_) HES.out)
      ·exact EIn.kept (fun k hk => ⟨⟨Nat.le_trans hbsw hk.1, hk.2.1, hk.2.2⟩, rfl⟩) _ HSD.out.inn
      ·have h1 := hk.1
       have h2 := hk.2.1
       have h3 := HSD.out.size
       refine ⟨⟨h1, by omega, fun e1 => ?_⟩, HSD.out.keep k h2 (by omega) (by omega) hk.2.2⟩
       rcases HSD.out.own k e1 with h5 | h5
       ·exact hk.2.2 h5
       ·omega
     have HKB2 : Hid (Kb mb gs wc wz) := ⟨HSD.out.os.trans HKB.out.os, HSD.out.tape.trans HKB.out.tape, HSD.out.output.trans HKB.out.output, Nat.le_trans HKB.out.size HSD.out.size, fun k h1 h2 h3 => (HSD.out.keep k (by omega) h2 h3 (fun e1 => by have := HVP.out k e1; omega)).trans (HKB.out.keep k h1 h2 h3)⟩
     go_wp2_with fail
     go_roundw
     case rel => exact ⟨j + 1, v, cs ++ sixE (ES j) x y z, by go_num, by omega, HSD.out.box, HSD.out.row, HES2, HSD.out.mkr, HKB2⟩
     case measure => simp [intOf]; omega
   ·have hje : j = many := by omega
    subst hje
    have hmg : mb < gs := by omega
    have hgx : gs < wc.heap.size := lt_of_block HMID.out.box
    have hbsw : wc.heap.size ≤ wr.heap.size := HKB.out.size
    obtain ⟨ao, capr, hvs, hcr1, hcr2⟩ := row_shape HROW.out
    subst hvs
    have hr4 : wr.heap[g4]? = _ := (HKB.out.keep g4 (lt_of_block HMID.out.res) (by omega) (by omega)).trans HMID.out.res
    have hbx := HBX.out
    have q0 : wr.cell? ⟨gs, 0, none⟩ = some (.int .i64 (8 : Int)) := by simp [World.cell?, hbx]
    have q1 : wr.cell? ⟨gs, 1, none⟩ = some (.string name) := by simp [World.cell?, hbx]
    have q2 : wr.cell? ⟨gs, 2, none⟩ = some (.slice ao j capr) := by simp [World.cell?, hbx]
    have q3 : wr.cell? ⟨gs, 3, none⟩ = some (.slice none 0 0) := by simp [World.cell?, hbx]
    have q4 : wr.cell? ⟨gs, 4, none⟩ = some (.slice none 0 0) := by simp [World.cell?, hbx]
    have q5 : wr.cell? ⟨gs, 5, none⟩ = some (.int .i64 0) := by simp [World.cell?, hbx]
    have hfz : ∀ i, wr.frozen? ⟨g4, i, none⟩ = false := fun i => by simp [World.frozen?, hr4]
    have r0 : wr.cell? ⟨g4, 0, none⟩ = some (.int .i64 0) := by simp [World.cell?, hr4]
    have r1 : wr.cell? ⟨g4, 1, none⟩ = some (.string ⟨#[]⟩) := by simp [World.cell?, hr4]
    have r2 : wr.cell? ⟨g4, 2, none⟩ = some (.slice none 0 0) := by simp [World.cell?, hr4]
    have r3 : wr.cell? ⟨g4, 3, none⟩ = some (.slice none 0 0) := by simp [World.cell?, hr4]
    have r4 : wr.cell? ⟨g4, 4, none⟩ = some (.slice none 0 0) := by simp [World.cell?, hr4]
    have r5 : wr.cell? ⟨g4, 5, none⟩ = some (.int .i64 0) := by simp [World.cell?, hr4]
    have hg4l : g4 < wr.heap.size := lt_of_block hr4
    have hgel : gs < wr.heap.size := lt_of_block hbx
    have HR4 := Lib.hid hr4
    clear hbx hr4
    go_wp2
    have hfin := fin_stmt (W' := six6 wr g4 (.int .i64 (8 : Int)) (.string name) (.slice ao j capr) (.slice none 0 0) (.slice none 0 0) (.int .i64 0)) (wz := wr) (es := (List.range j).map ES) (B := []) (E := []) HMID.out HROW.out HES.out (by simp) HKB.out (Kb.refl _ _ _) HMJ.out (SlS.nil _ _) (SlS.nil _ _) (fun k hk => six6_other hk) six6_size six6_os six6_tape six6_output hg3 (Nat.le_of_eq HG4.out.symm) (by omega) (by omega)
    obtain ⟨t0, t1, t2, t3, t4, t5⟩ := six6_cell (a := .int .i64 (8 : Int)) (b := .string name) (c := .slice ao j capr) (d := .slice none 0 0) (e := .slice none 0 0) (f := .int .i64 0) HR4.out
    obtain ⟨W', hW'⟩ : ∃ W', six6 wr g4 (.int .i64 (8 : Int)) (.string name) (.slice ao j capr) (.slice none 0 0) (.slice none 0 0) (.int .i64 0) = W' := ⟨_, rfl⟩
    rw [hW'] at hfin t0 t1 t2 t3 t4 t5
    unfold six6 at hW'
    rw [hW']
    clear hW' r0 r1 r2 r3 r4 r5 q0 q1 q2 q3 q4 q5
    obtain ⟨f1, f2, f3⟩ := hfin
    have HF3 := Lib.hid f3
    clear f3
    refine bodyPost_ret (v := stV (.mk 8 name ((List.range j).map ES) [] [] 0) (.slice ao j capr) (.slice none 0 0) (.slice none 0 0)) (by simp [results, Tryz.results46, go_sem, stV, t0, t1, t2, t3, t4, t5]) rfl ⟨_, _, _, rfl, f1, f2, HF3.out⟩
end Go.Proofs.YtpboencfnjmmbaaGreatDoor

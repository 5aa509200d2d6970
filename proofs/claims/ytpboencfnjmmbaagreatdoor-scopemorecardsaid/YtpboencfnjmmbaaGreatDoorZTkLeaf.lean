/-
 The maker's expr where it goes no deeper: nil, truths, a number, a text, a name.
 Conditions: as each theorem says.
-/
import Derived.Test.YtpboencfnjmmbaaGreatDoorZTkExpr
set_option maxRecDepth 100000
set_option maxHeartbeats 8000000
set_option linter.unusedVariables false
namespace Go.Proofs.YtpboencfnjmmbaaGreatDoor
open Go.RowKit TM
theorem expr_leaf1 {xs : List XX} {left D : Int} (hok : ∀ x ∈ xs, x.ok) (hl0 : -500000000 ≤ left) (hl1 : left ≤ 1000) (hD0 : -1 ≤ D) (hD1 : D ≤ 0) {op : Nat} (hop : op = (hd xs).d % 18 % 6)
 {w : World} {mb : Nat} (hm : MkAt w mb xs left) {num : Int} {text : ByteArray} {many : Nat} (hmany : many ≤ 4) (hnum : 0 ≤ num ∧ num ≤ 9223372036854775807) (hpn : num = numF op (hd xs)) (hpt : text = textF op (hd xs)) (hpm : many = manyF op (hd xs))
 (XS : Nat → List XX) (LF : Nat → Int) (ES : Nat → TE) (h0X : XS 0 = xs.tail) (h0L : LF 0 = left - 1)
 (hstep : ∀ j, j < many → ∀ W, MkAt W mb (XS j) (LF j) → Calls Tryz.prog 74 #[.pointer (some ⟨mb, 0, none⟩), .int .i64 (D - 1)] W fun en w' => ∃ a b c, en = .returned (exV (ES j) a b c) ∧ MkAt w' mb (XS (j + 1)) (LF (j + 1)) ∧ W.grownBy w' (some mb) ∧ EIn (Fresh W.heap.size w'.heap.size) w' (ES j) a b c) :
 Calls Tryz.prog 74 #[.pointer (some ⟨mb, 0, none⟩), .int .i64 D] w fun en w' => ∃ a b c, en = .returned (exV (.mk op num text ((List.range many).map ES) [] []) a b c) ∧ MkAt w' mb (XS many) (LF many) ∧ w.grownBy w' (some mb) ∧ EIn (Fresh w.heap.size w'.heap.size) w' (.mk op num text ((List.range many).map ES) [] []) a b c := by
 have hx := hd_ok hok
 have HNX : Hid (∀ W, MkAt W mb xs left → Calls Tryz.prog 73 #[.pointer (some ⟨mb, 0, none⟩)] W fun e w' => e = .returned (xV (hd xs)) ∧ MkAt w' mb xs.tail (left - 1) ∧ W.grownBy w' (some mb)) := fun W h => next_any h (by omega) (by omega)
 generalize hd xs = x at hx HNX hop hpn hpt hpm
 obtain ⟨xd, xa, xn, xs4⟩ := x
 obtain ⟨hxd, hxa, hxn, hxs⟩ := hx
 simp only at hxd hxa hxn hxs hop
 unfold xV at HNX
 simp only at HNX
 have htm : ((xd : Int)).tmod 18 = ((xd % 18 : Nat) : Int) := by rw [Int.tmod_eq_emod_of_nonneg (by omega)]; omega
 have hmm : (xd : Int) % 18 = ((xd % 18 : Nat) : Int) := by omega
 have h18 : xd % 18 < 18 := Nat.mod_lt _ (by decide)
 generalize xd % 18 = qd at htm hmm h18 hop
 have htm6 : ((qd : Int)).tmod 6 = (op : Int) := by rw [Int.tmod_eq_emod_of_nonneg (by omega)]; omega
 have hmm6 : (qd : Int) % 6 = (op : Int) := by omega
 have hop5 : op ≤ 5 := by omega
 have hop17 : op ≤ 17 := by omega
 have HM : Hid (MkAt w mb xs left) := hm
 have hmw : mb < w.heap.size := hm.lt
 have HSTEP := Lib.hid hstep
 have H0X := Lib.hid h0X
 have H0L := Lib.hid h0L
 have HPN := Lib.hid hpn
 have HPT := Lib.hid hpt
 have HPM := Lib.hid hpm
 clear hop hok hstep h0X h0L hpn hpt hpm
 have hd0 : decide (D ≤ 0) = true := by simp; omega
 clear hm
 go_enter Tryz.func74, Tryz.ntmps74
 go_wp2_with fail
 refine (HNX.out _ (HM.out.below ((Below.refl _ _).alloc (Nat.le_refl _) _))).mono ?_
 rintro e w1 ⟨rfl, m1, g1⟩
 have HM1 := Lib.hid m1
 have HG1 := Lib.hid g1
 have hres1 := (g1.block w.heap.size (by simp) (by simp; omega)).trans (heap_alloc_new w _)
 have HRES1 := Lib.hid hres1
 obtain ⟨ad, cap, hmb, _⟩ := m1
 have cm1 : w1.cell? ⟨mb, 1, none⟩ = some (.int .i64 (left - 1)) := by simp [World.cell?, hmb]
 have hmbl : mb < w1.heap.size := lt_of_block hmb
 have hsz1 : w.heap.size + 1 ≤ w1.heap.size := by have := g1.size; simpa using this
 clear hmb g1 hres1
 go_upto_block 0 with fail
 obtain ⟨W0, hW0⟩ : ∃ W0, W0 = (w1.alloc (.cells #[.int .u8 (xd : Int), .int .u8 (xa : Int), .int .u16 (xn : Int), .int .u8 (xs4 : Int)] 69)).alloc (.cells #[.int .i64 (op : Int), .int .i64 0, .string ⟨#[]⟩, .slice none 0 0, .slice none 0 0, .slice none 0 0] 65) := ⟨_, rfl⟩
 obtain ⟨ge, hge⟩ : ∃ ge, ge = w1.heap.size + 1 := ⟨_, rfl⟩
 obtain ⟨g4, hg4⟩ : ∃ g4, g4 = w.heap.size := ⟨_, rfl⟩
 have HW0 := Lib.hid hW0
 have HGE := Lib.hid hge
 have HG4 := Lib.hid hg4
 have hge1 : w1.heap.size < ge := by omega
 have hg41 : g4 < w1.heap.size := by omega
 have hg40 : mb < g4 := by omega
 rw [← hW0, ← hge, ← hg4]
 clear hW0 hge hg4
 go_cut [8] (fun s8 wc => s8 = .int .i64 (many : Int) ∧ ∃ vn vb, Hid (Mid w wc mb g4 ge op num text [] [] xs.tail (left - 1) vn vb))
 case first =>
  have hx0 : W0.heap[w1.heap.size]? = some (.cells #[.int .u8 (xd : Int), .int .u8 (xa : Int), .int .u16 (xn : Int), .int .u8 (xs4 : Int)] 69 (0, 0)) := by rw [HW0.out]; exact block_alloc (heap_alloc_new w1 _) _
  have he0 : W0.heap[ge]? = some (.cells #[.int .i64 (op : Int), .int .i64 0, .string ⟨#[]⟩, .slice none 0 0, .slice none 0 0, .slice none 0 0] 65 (0, 0)) := by
   rw [HW0.out, HGE.out]
   have := heap_alloc_new (w1.alloc (.cells #[.int .u8 (xd : Int), .int .u8 (xa : Int), .int .u16 (xn : Int), .int .u8 (xs4 : Int)] 69)) (.cells #[.int .i64 (op : Int), .int .i64 0, .string ⟨#[]⟩, .slice none 0 0, .slice none 0 0, .slice none 0 0] 65)
   rwa [show (w1.alloc (.cells #[.int .u8 (xd : Int), .int .u8 (xa : Int), .int .u16 (xn : Int), .int .u8 (xs4 : Int)] 69)).heap.size = w1.heap.size + 1 from by simp] at this
  have hb0 : Below w1.heap.size w1 W0 := by rw [HW0.out]; exact ((Below.refl _ _).alloc (Nat.le_refl _) _).alloc (by simp) _
  have HMI0 : Hid (Mid w W0 mb g4 ge op 0 ⟨#[]⟩ [] [] xs.tail (left - 1) (.slice none 0 0) (.slice none 0 0)) := by
   refine ⟨he0, slNil _ _, slNil _ _, HM1.out.below hb0, ?_, grown_below ⟨HG1.out.os, HG1.out.tape, HG1.out.output, by have := HG1.out.size; simp at this; omega, fun k hk hn => ?_⟩ hb0⟩
   ·rw [hb0.block g4 hg41, HG4.out]; exact HRES1.out
   ·rw [HG1.out.block k (by simp; omega) hn, Below.heap_alloc _ _ _ hk]
  have x0 : W0.cell? ⟨w1.heap.size, 0, none⟩ = some (.int .u8 (xd : Int)) := by simp [World.cell?, hx0]
  have x1 : W0.cell? ⟨w1.heap.size, 1, none⟩ = some (.int .u8 (xa : Int)) := by simp [World.cell?, hx0]
  have x2 : W0.cell? ⟨w1.heap.size, 2, none⟩ = some (.int .u16 (xn : Int)) := by simp [World.cell?, hx0]
  have x3 : W0.cell? ⟨w1.heap.size, 3, none⟩ = some (.int .u8 (xs4 : Int)) := by simp [World.cell?, hx0]
  have e1 : W0.cell? ⟨ge, 1, none⟩ = some (.int .i64 0) := by simp [World.cell?, he0]
  have e2 : W0.cell? ⟨ge, 2, none⟩ = some (.string ⟨#[]⟩) := by simp [World.cell?, he0]
  have hgl0 : ge < W0.heap.size := lt_of_block he0
  have hxl0 : w1.heap.size < W0.heap.size := lt_of_block hx0
  have hfz0 : ∀ i, W0.frozen? ⟨ge, i, none⟩ = false := fun i => by simp [World.frozen?, he0]
  have ha3 : xa % 3 < 3 := Nat.mod_lt _ (by decide)
  have htm3 : ((xa : Int)).tmod 3 = ((xa % 3 : Nat) : Int) := by rw [Int.tmod_eq_emod_of_nonneg (by omega)]; omega
  have hmm3 : (xa : Int) % 3 = ((xa % 3 : Nat) : Int) := by omega
  have HPN2 := Lib.hid HPN.out
  clear hx0 he0 hb0 htm hmm htm6 hmm6
  rcases (show op = 0 ∨ op = 1 ∨ op = 2 ∨ op = 3 ∨ op = 4 ∨ op = 5 from by omega) with rfl | rfl | rfl | rfl | rfl | rfl
  ·go_wp2_with fail
   go_meet
   case rel =>
    have q1 : many = 0 := HPM.out
    have q2 : num = 0 := HPN.out
    have q3 : text = ⟨#[]⟩ := HPT.out
    subst q1
    subst q2
    subst q3
    exact ⟨rfl, _, _, HMI0⟩
  ·go_wp2_with fail
   go_meet
   case rel =>
    have q1 : many = 0 := HPM.out
    have q2 : num = 0 := HPN.out
    have q3 : text = ⟨#[]⟩ := HPT.out
    subst q1
    subst q2
    subst q3
    exact ⟨rfl, _, _, HMI0⟩
  ·go_wp2_with fail
   go_meet
   case rel =>
    have q1 : many = 0 := HPM.out
    have q2 : num = 0 := HPN.out
    have q3 : text = ⟨#[]⟩ := HPT.out
    subst q1
    subst q2
    subst q3
    exact ⟨rfl, _, _, HMI0⟩
  ·generalize hq3 : xa % 3 = q3 at ha3 htm3 hmm3
   have HQ3 := Lib.hid hq3
   clear hq3
   rcases (show q3 = 0 ∨ q3 = 1 ∨ q3 = 2 from by omega) with rfl | rfl | rfl
   ·go_wp2_with fail
    go_region
    all_goals
     go_wp2_with fail
     go_meet
     case rel =>
      have q1 : many = 0 := HPM.out
      have q2 : num = (xn : Int) := by have h := HPN.out; have h2 := HQ3.out; simp [numF, h2] at h; exact h
      have q3 : text = ⟨#[]⟩ := HPT.out
      subst q1
      subst q2
      subst q3
      exact ⟨rfl, _, _, (HMI0.out.num (by omega) (by omega) _).later (((Below.refl _ _).alloc (Nat.le_refl _) _).drew)⟩
   ·go_wp2_with fail
    go_region
    all_goals
     go_wp2_with fail
     go_meet
     case rel =>
      have q1 : many = 0 := HPM.out
      have q2 : num = (xn : Int) := by have h := HPN.out; have h2 := HQ3.out; simp [numF, h2] at h; exact h
      have q3 : text = ⟨#[]⟩ := HPT.out
      subst q1
      subst q2
      subst q3
      exact ⟨rfl, _, _, (HMI0.out.num (by omega) (by omega) _).later (((Below.refl _ _).alloc (Nat.le_refl _) _).drew)⟩
   ·go_wp2_with fail
    go_region
    all_goals
     go_wp2_with fail
     go_meet
     case rel =>
      have q1 : many = 0 := HPM.out
      have q2 : num = (xn : Int) * 1099511627776 := by have h := HPN.out; have h2 := HQ3.out; simp [numF, h2] at h; exact h
      have q3 : text = ⟨#[]⟩ := HPT.out
      subst q1
      subst q2
      subst q3
      exact ⟨rfl, _, _, (HMI0.out.num (by omega) (by omega) _).later (((Below.refl _ _).alloc (Nat.le_refl _) _).drew)⟩
  ·go_wp2_with fail
   refine (ltext_any xs4 hxs _).mono ?_
   rintro e w2 ⟨rfl, b2⟩
   have HB2 := Lib.hid b2
   have hfz2 : ∀ i, w2.frozen? ⟨ge, i, none⟩ = false := fun i => (b2.frozen (p := ⟨ge, i, none⟩) hgl0).trans (hfz0 i)
   have e22 : w2.cell? ⟨ge, 2, none⟩ = some (.string ⟨#[]⟩) := (b2.cell (p := ⟨ge, 2, none⟩) hgl0).trans e2
   have hgl2 : ge < w2.heap.size := Nat.lt_of_lt_of_le hgl0 b2.size
   clear b2
   go_wp2_with fail
   go_meet
   case rel =>
    have q1 : many = 0 := HPM.out
    have q2 : num = 0 := HPN.out
    have q3 : text = tx xs4 := HPT.out
    subst q1
    subst q2
    subst q3
    exact ⟨rfl, _, _, (HMI0.out.later HB2.out).text (by omega) (by omega) _⟩
  ·go_wp2_with fail
   refine (name_any xs4 hxs _).mono ?_
   rintro e w2 ⟨rfl, b2⟩
   have HB2 := Lib.hid b2
   have hfz2 : ∀ i, w2.frozen? ⟨ge, i, none⟩ = false := fun i => (b2.frozen (p := ⟨ge, i, none⟩) hgl0).trans (hfz0 i)
   have e22 : w2.cell? ⟨ge, 2, none⟩ = some (.string ⟨#[]⟩) := (b2.cell (p := ⟨ge, 2, none⟩) hgl0).trans e2
   have hgl2 : ge < w2.heap.size := Nat.lt_of_lt_of_le hgl0 b2.size
   clear b2
   go_wp2_with fail
   go_meet
   case rel =>
    have q1 : many = 0 := HPM.out
    have q2 : num = 0 := HPN.out
    have q3 : text = nm xs4 := HPT.out
    subst q1
    subst q2
    subst q3
    exact ⟨rfl, _, _, (HMI0.out.later HB2.out).text (by omega) (by omega) _⟩
 case rest =>
  obtain ⟨rfl, vn, vb, HMID⟩ := hcut
  go_wp2_with fail
  go_loopw [103] (fun i wr => ∃ (j : Nat) (vp : Value) (cs : List Value), i = .int .i64 (j : Int) ∧ j ≤ many ∧ Hid (wr.heap[ge]? = some (.cells #[.int .i64 (op : Int), .int .i64 num, .string text, vp, vn, vb] 65 (0, 0))) ∧ Hid (wr.ownsRow wc.heap.size 65 6 vp j cs) ∧ Hid (EsC (fun k => wc.heap.size ≤ k ∧ k < wr.heap.size ∧ vp.ownBlock ≠ some k) wr ((List.range j).map ES) cs) ∧ Hid (MkAt wr mb (XS j) (LF j)) ∧ Hid (Kb mb ge wc wr))
   (fun i _ => many - (intOf i).toNat)
  case atStart => exact ⟨0, .slice none 0 0, [], rfl, Nat.zero_le _, HMID.out.box, World.ownsRow_nil _ _ _ _, rfl, by show MkAt _ _ _ _; rw [H0X.out, H0L.out]; exact HMID.out.mkr, Kb.refl _ _ _⟩
  case round =>
   obtain ⟨j, vp, cs, rfl, hjm, HBX, HROW, HES, HMJ, HKB⟩ := hrel
   by_cases hlt : j < many
   ·have hidx : decide ((j : Int) < (many : Int)) = true := by simp; omega
    have HVP : Hid (∀ k, vp.ownBlock = some k → wc.heap.size ≤ k) := fun k hk => (HROW.out.lt k hk).1
    have hmg : mb < ge := by omega
    have hgx : ge < wc.heap.size := lt_of_block HMID.out.box
    have hmbs : mb < wc.heap.size := by omega
    have hbsw : wc.heap.size ≤ wr.heap.size := HKB.out.size
    have hj6 : j ≤ 1000000 := by omega
    obtain ⟨ao, capr, hvs, _⟩ := row_shape HROW.out
    subst hvs
    obtain ⟨vp, hvp⟩ : ∃ vp, vp = Value.slice ao j capr := ⟨_, rfl⟩
    rw [← hvp] at HBX HROW HES HVP
    clear hvp
    go_wp2_with fail
    refine region_sh (valK vp mb ge D) (JX wr mb wc.heap.size ge 65 (fun v => #[.int .i64 (op : Int), .int .i64 num, .string text, v, vn, vb]) (XS (j + 1)) (LF (j + 1)) (ES j) vp j cs 5 6 7 9 110 111 112) (by kernel_rfl) (by kernel_rfl) (by kernel_rfl) (JX.start _) ?_ ?_
    ·intro hon q hq L a1 W hC hl hBh hS hJ K hK
     have hqn : q < 10 := hq
     clear hq
     rcases (show q = 0 ∨ q = 1 ∨ q = 2 ∨ q = 3 ∨ q = 4 ∨ q = 5 ∨ q = 6 ∨ q = 7 ∨ q = 8 ∨ q = 9 from by omega) with rfl | rfl | rfl | rfl | rfl | rfl | rfl | rfl | rfl | rfl
     ·have e7 := (eval_tmp a1 7).symm.trans ((hS.kept 7 (by kernel_rfl)).trans rfl)
      refine wpOp_step rfl (fun K' hK' => ?_)
      go_simp
      exact hK' _ _ (hK _ _ (hS.put hon (i := 0) rfl rfl (fun u hu => by cases hu; rfl)) (hJ.pure (by decide) (by decide)))
     ·have e105 := (eval_tmp a1 105).symm.trans (hS.get hBh (i := 1) rfl 0 (by simp) rfl rfl rfl)
      have hls : L 9 = false := closed_not hC (closed_not hC hl (i := 7) (j := 1) rfl (g := .data) (by simp) rfl) (i := 9) (j := 7) rfl (g := .data) (by simp) rfl
      have hbxW := hJ.box hls HVP.out HBX.out hmg hgx
      have hcl2 : W.cell? ⟨ge, 3, none⟩ = some vp := by simp [World.cell?, hbxW]
      refine wpOp_step rfl (fun K' hK' => ?_)
      go_simp
      exact hK' _ _ (hK _ _ (hS.put hon (i := 1) rfl rfl (fun u hu => by cases hu; rfl)) (hJ.pure (by decide) (by decide)))
     ·have e0 := (eval_tmp a1 0).symm.trans ((hS.kept 0 (by kernel_rfl)).trans rfl)
      refine wpOp_step rfl (fun K' hK' => ?_)
      go_simp
      exact hK' _ _ (hK _ _ (hS.put hon (i := 2) rfl rfl (fun u hu => by cases hu; rfl)) (hJ.pure (by decide) (by decide)))
     ·have e1 := (eval_tmp a1 1).symm.trans ((hS.kept 1 (by kernel_rfl)).trans rfl)
      refine wpOp_step rfl (fun K' hK' => ?_)
      go_simp
      exact hK' _ _ (hK _ _ (hS.put hon (i := 3) rfl rfl (fun u hu => by cases hu; rfl)) (hJ.pure (by decide) (by decide)))
     ·have e108 := (eval_tmp a1 108).symm.trans (hS.get hBh (i := 4) rfl 3 (by simp) rfl rfl rfl)
      have hwr : IntKind.i64.wrap (D - 1) = D - 1 := by simp [IntKind.wrap, IntKind.bits, IntKind.signed]; omega
      refine wpOp_step rfl (fun K' hK' => ?_)
      go_simp
      exact hK' _ _ (hK _ _ (hS.put hon (i := 4) rfl rfl (fun u hu => by cases hu; rfl)) (hJ.pure (by decide) (by decide)))
     ·have n6 : L 6 = false := closed_not hC hl (i := 6) (j := 5) rfl (g := .data) (by simp) rfl
      have n7 : L 7 = false := closed_not hC n6 (i := 7) (j := 6) rfl (g := .data) (by simp) rfl
      have n9 : L 9 = false := closed_not hC n7 (i := 9) (j := 7) rfl (g := .data) (by simp) rfl
      have e107 := (eval_tmp a1 107).symm.trans (hS.get hBh (i := 5) rfl 2 (by simp) rfl rfl rfl)
      have e109 := (eval_tmp a1 109).symm.trans (hS.get hBh (i := 5) rfl 4 (by simp) rfl rfl rfl)
      obtain rfl := hJ.n0 hl
      refine wpOp_call (f := 74) (args := #[.pointer (some ⟨mb, 0, none⟩), .int .i64 (D - 1)]) (R := fun u W2 => ∃ x y z, u = exV (ES j) x y z ∧ Sa wr W2 mb (XS (j + 1)) (LF (j + 1)) (ES j) x y z) rfl rfl (by simp [execOp, resolve, invoke, e107, e109, go_sem]) ((HSTEP.out j (by omega) _ (HMJ.out.below (Below.refl _ _).drew)).mono fun en W2 ⟨x, y, z, h1, h2, h3, h4⟩ => ⟨_, h1, x, y, z, rfl, h2, ⟨h3.os, h3.tape, h3.output, h3.size, h3.block⟩, h4⟩) ?_
      rintro u W2 ⟨x, y, z, rfl, hSa⟩
      exact hK _ _ (hS.put hon (i := 5) rfl rfl (fun u hu => by cases hu)) (hJ.call n6 n7 n9 (by decide) (by rw [hS.size]; exact (by decide : (110 : Nat) < 116)) hSa)
     ·have d5 : L 5 = true := hBh _ rfl ⟨5, .data⟩ (by simp) rfl
      have n7 : L 7 = false := closed_not hC hl (i := 7) (j := 6) rfl (g := .data) (by simp) rfl
      have n9 : L 9 = false := closed_not hC n7 (i := 9) (j := 7) rfl (g := .data) (by simp) rfl
      obtain ⟨x, y, z, hev, hSa⟩ := hJ.n1 d5 hl
      have e110 := (eval_tmp a1 110).symm.trans hev
      obtain ⟨op2, num2, text2, ps2, pm2, bd2, hEj⟩ : ∃ op num text ps pm bd, ES j = .mk op num text ps pm bd := by cases h : ES j; exact ⟨_, _, _, _, _, _, rfl⟩
      have hsix := hSa.inn
      rw [hEj] at hsix
      obtain ⟨_, ⟨pa2, pc2, rfl, _⟩, ⟨na2, nc2, rfl, _⟩, ⟨ba2, bc2, rfl, _⟩⟩ := hsix
      rw [hEj] at e110
      unfold exV at e110
      simp only at e110
      refine wpOp_step rfl (fun K' hK' => ?_)
      go_simp
      exact hK' _ _ (hK _ _ (hS.put hon (i := 6) rfl rfl (fun u hu => by cases hu)) (hJ.lay d5 n7 n9 (by decide) (by rw [hS.size]; exact (by decide : (111 : Nat) < 116)) (hSa.lay (by rw [hEj]; rfl))))
     ·have d6 : L 6 = true := hBh _ rfl ⟨6, .data⟩ (by simp) rfl
      have d5 : L 5 = true := hBh _ rfl ⟨5, .chain⟩ (by simp) rfl
      have n9 : L 9 = false := closed_not hC hl (i := 9) (j := 7) rfl (g := .data) (by simp) rfl
      have e106 := (hS.get hBh (i := 7) rfl 1 (by simp) rfl rfl rfl)
      obtain ⟨g, x, y, z, hge, hSb⟩ := hJ.n2 d6 hl
      obtain ⟨v2, W2, hrun, hSc⟩ := hSb.app HROW.out hmbs hbsw hj6 58
      refine wpOp_run rfl rfl (v := v2) (w' := W2) ?_ (hK _ _ (hS.put hon (i := 7) rfl rfl (fun u hu => by cases hu)) (hJ.app d5 d6 n9 (by decide) (by rw [hS.size]; exact (by decide : (112 : Nat) < 116)) hSc))
      simp [execOp, resolve, invoke, builtin, e106, hge, hrun, Result.andThen]
     ·have e7 := (eval_tmp a1 7).symm.trans ((hS.kept 7 (by kernel_rfl)).trans rfl)
      refine wpOp_step rfl (fun K' hK' => ?_)
      go_simp
      exact hK' _ _ (hK _ _ (hS.put hon (i := 8) rfl rfl (fun u hu => by cases hu; rfl)) (hJ.pure (by decide) (by decide)))
     ·have d7 : L 7 = true := hBh _ rfl ⟨7, .data⟩ (by simp) rfl
      have d6 : L 6 = true := hBh _ rfl ⟨6, .phase⟩ (by simp) rfl
      have d5 : L 5 = true := hBh _ rfl ⟨5, .phase⟩ (by simp) rfl
      have e113 := (eval_tmp a1 113).symm.trans (hS.get hBh (i := 9) rfl 8 (by simp) rfl rfl rfl)
      obtain ⟨x, y, z, hSc⟩ := hJ.n3 d7 hl
      obtain ⟨v2, hv2⟩ : ∃ u, a1.eval (.tmp 112) = u := ⟨_, rfl⟩
      rw [hv2] at hSc
      have e112 := (eval_tmp a1 112).symm.trans hv2
      have hbxW := hJ.box hl HVP.out HBX.out hmg hgx
      obtain ⟨ao2, cap2, rfl, _⟩ := row_shape hSc.row
      have hfz : W.frozen? ⟨ge, 3, none⟩ = false := by simp [World.frozen?, hbxW]
      have hcc : ∃ u, W.cell? ⟨ge, 3, none⟩ = some u := ⟨_, by simp [World.cell?, hbxW]; rfl⟩
      obtain ⟨u0c, hcc⟩ := hcc
      have hgl : ge < W.heap.size := lt_of_block hbxW
      refine wpOp_step rfl (fun K' hK' => ?_)
      go_simp
      exact hK' _ _ (hK _ _ (hS.none (i := 9) rfl rfl) (JX.put d5 d6 d7 (by decide) (hSc.store HVP.out HBX.out hmg hgx hbsw rfl)))
    ·intro L a1 wz hl hS hJ
     obtain ⟨x, y, z, v, hSd⟩ := hJ.n4 (hl 9 (by decide))
     have hfr := hS.frame [105, 106, 107, 108, 109, 110, 111, 112, 113] rfl
     refine (‹∀ (a : Act) (w : World), Code.wp Tryz.prog _ _ a w → _› a1 wz ?_)
     obtain ⟨zz, hz⟩ : ∃ z : Nat → Value, z = fun k => a1.eval (.tmp k) := ⟨_, rfl⟩
     rw [← hz] at hfr
     have HSD := Lib.hid hSd
     rw [hfr]
     clear hfr hz hS hJ hl hSd
     simp only [over, List.setIfInBounds_toArray, List.set_cons_zero, List.set_cons_succ]
     have HES2 : Hid (EsC (fun k => wc.heap.size ≤ k ∧ k < wz.heap.size ∧ v.ownBlock ≠ some k) wz ((List.range (j + 1)).map ES) (cs ++ sixE (ES j) x y z)) := by
      show EsC _ _ _ _
      rw [range_snoc]
      refine EsC.snoc ?_ (EsC.kept (fun k hk => ?_) HES.out)
      ·exact EIn.kept (fun k hk => ⟨⟨Nat.le_trans hbsw hk.1, hk.2.1, hk.2.2⟩, rfl⟩) _ HSD.out.inn
      ·have h1 := hk.1
       have h2 := hk.2.1
       have h3 := HSD.out.size
       refine ⟨⟨h1, by omega, fun e1 => ?_⟩, HSD.out.keep k h2 (by omega) (by omega) hk.2.2⟩
       rcases HSD.out.own k e1 with h5 | h5
       ·exact hk.2.2 h5
       ·omega
     have HKB2 : Hid (Kb mb ge wc wz) := ⟨HSD.out.os.trans HKB.out.os, HSD.out.tape.trans HKB.out.tape, HSD.out.output.trans HKB.out.output, Nat.le_trans HKB.out.size HSD.out.size, fun k h1 h2 h3 => (HSD.out.keep k (by omega) h2 h3 (fun e1 => by have := HVP.out k e1; omega)).trans (HKB.out.keep k h1 h2 h3)⟩
     go_wp2_with fail
     go_roundw
     case rel => exact ⟨j + 1, v, cs ++ sixE (ES j) x y z, by go_num, by omega, HSD.out.box, HSD.out.row, HES2, HSD.out.mkr, HKB2⟩
     case measure => simp [intOf]; omega
   ·have hje : j = many := by omega
    subst hje
    have hmg : mb < ge := by omega
    have hgx : ge < wc.heap.size := lt_of_block HMID.out.box
    have hbsw : wc.heap.size ≤ wr.heap.size := HKB.out.size
    have HPAR := Lib.hid HMID.out.par
    have HBOD := Lib.hid HMID.out.bod
    obtain ⟨ao, capr, hvs, hcr1, hcr2⟩ := row_shape HROW.out
    subst hvs
    obtain ⟨na, nc, hvn, _⟩ := HMID.out.par
    subst hvn
    obtain ⟨ba, bc, hvb, _⟩ := HMID.out.bod
    subst hvb
    have hbx := HBX.out
    have q0 : wr.cell? ⟨ge, 0, none⟩ = some (.int .i64 (op : Int)) := by simp [World.cell?, hbx]
    have q1 : wr.cell? ⟨ge, 1, none⟩ = some (.int .i64 num) := by simp [World.cell?, hbx]
    have q2 : wr.cell? ⟨ge, 2, none⟩ = some (.string text) := by simp [World.cell?, hbx]
    have q3 : wr.cell? ⟨ge, 3, none⟩ = some (.slice ao j capr) := by simp [World.cell?, hbx]
    have q4 : wr.cell? ⟨ge, 4, none⟩ = some (.slice na 0 nc) := by simp [World.cell?, hbx]
    have q5 : wr.cell? ⟨ge, 5, none⟩ = some (.slice ba 0 bc) := by simp [World.cell?, hbx]
    have hr4 : wr.heap[g4]? = _ := (HKB.out.keep g4 (lt_of_block HMID.out.res) (by omega) (by omega)).trans HMID.out.res
    have hfz : ∀ i, wr.frozen? ⟨g4, i, none⟩ = false := fun i => by simp [World.frozen?, hr4]
    have r0 : wr.cell? ⟨g4, 0, none⟩ = some (.int .i64 0) := by simp [World.cell?, hr4]
    have r1 : wr.cell? ⟨g4, 1, none⟩ = some (.int .i64 0) := by simp [World.cell?, hr4]
    have r2 : wr.cell? ⟨g4, 2, none⟩ = some (.string ⟨#[]⟩) := by simp [World.cell?, hr4]
    have r3 : wr.cell? ⟨g4, 3, none⟩ = some (.slice none 0 0) := by simp [World.cell?, hr4]
    have r4 : wr.cell? ⟨g4, 4, none⟩ = some (.slice none 0 0) := by simp [World.cell?, hr4]
    have r5 : wr.cell? ⟨g4, 5, none⟩ = some (.slice none 0 0) := by simp [World.cell?, hr4]
    have hg4l : g4 < wr.heap.size := lt_of_block hr4
    have hgel : ge < wr.heap.size := lt_of_block hbx
    have HR4 := Lib.hid hr4
    clear hbx hr4
    go_wp2
    have hfin := fin_expr (W' := six6 wr g4 (.int .i64 (op : Int)) (.int .i64 num) (.string text) (.slice ao j capr) (.slice na 0 nc) (.slice ba 0 bc)) (es := (List.range j).map ES) HMID.out HROW.out HES.out (by simp) HMJ.out HKB.out (fun k hk => six6_other hk) six6_size six6_os six6_tape six6_output hg40 (Nat.le_of_eq HG4.out.symm) (by omega) hop17 hnum
    obtain ⟨t0, t1, t2, t3, t4, t5⟩ := six6_cell (a := .int .i64 (op : Int)) (b := .int .i64 num) (c := .string text) (d := .slice ao j capr) (e := .slice na 0 nc) (f := .slice ba 0 bc) HR4.out
    obtain ⟨W', hW'⟩ : ∃ W', six6 wr g4 (.int .i64 (op : Int)) (.int .i64 num) (.string text) (.slice ao j capr) (.slice na 0 nc) (.slice ba 0 bc) = W' := ⟨_, rfl⟩
    rw [hW'] at hfin t0 t1 t2 t3 t4 t5
    unfold six6 at hW'
    rw [hW']
    clear hW' r0 r1 r2 r3 r4 r5 q0 q1 q2 q3 q4 q5
    obtain ⟨f1, f2, f3⟩ := hfin
    have HF3 := Lib.hid f3
    clear f3
    refine bodyPost_ret (v := exV (.mk op num text ((List.range j).map ES) [] []) (.slice ao j capr) (.slice na 0 nc) (.slice ba 0 bc)) (by simp [results, Tryz.results74, go_sem, exV, t0, t1, t2, t3, t4, t5]) rfl ⟨_, _, _, rfl, f1, f2, HF3.out⟩
theorem expr_leaf2 {xs : List XX} {left D : Int} (hok : ∀ x ∈ xs, x.ok) (hl0 : -500000000 ≤ left) (hl1 : left ≤ 1000) (hD0 : 1 ≤ D) (hD1 : D ≤ 10) (hlf : left - 1 ≤ 0) {op : Nat} (hop : op = (hd xs).d % 18 % 6)
 {w : World} {mb : Nat} (hm : MkAt w mb xs left) {num : Int} {text : ByteArray} {many : Nat} (hmany : many ≤ 4) (hnum : 0 ≤ num ∧ num ≤ 9223372036854775807) (hpn : num = numF op (hd xs)) (hpt : text = textF op (hd xs)) (hpm : many = manyF op (hd xs))
 (XS : Nat → List XX) (LF : Nat → Int) (ES : Nat → TE) (h0X : XS 0 = xs.tail) (h0L : LF 0 = left - 1)
 (hstep : ∀ j, j < many → ∀ W, MkAt W mb (XS j) (LF j) → Calls Tryz.prog 74 #[.pointer (some ⟨mb, 0, none⟩), .int .i64 (D - 1)] W fun en w' => ∃ a b c, en = .returned (exV (ES j) a b c) ∧ MkAt w' mb (XS (j + 1)) (LF (j + 1)) ∧ W.grownBy w' (some mb) ∧ EIn (Fresh W.heap.size w'.heap.size) w' (ES j) a b c) :
 Calls Tryz.prog 74 #[.pointer (some ⟨mb, 0, none⟩), .int .i64 D] w fun en w' => ∃ a b c, en = .returned (exV (.mk op num text ((List.range many).map ES) [] []) a b c) ∧ MkAt w' mb (XS many) (LF many) ∧ w.grownBy w' (some mb) ∧ EIn (Fresh w.heap.size w'.heap.size) w' (.mk op num text ((List.range many).map ES) [] []) a b c := by
 have hx := hd_ok hok
 have HNX : Hid (∀ W, MkAt W mb xs left → Calls Tryz.prog 73 #[.pointer (some ⟨mb, 0, none⟩)] W fun e w' => e = .returned (xV (hd xs)) ∧ MkAt w' mb xs.tail (left - 1) ∧ W.grownBy w' (some mb)) := fun W h => next_any h (by omega) (by omega)
 generalize hd xs = x at hx HNX hop hpn hpt hpm
 obtain ⟨xd, xa, xn, xs4⟩ := x
 obtain ⟨hxd, hxa, hxn, hxs⟩ := hx
 simp only at hxd hxa hxn hxs hop
 unfold xV at HNX
 simp only at HNX
 have htm : ((xd : Int)).tmod 18 = ((xd % 18 : Nat) : Int) := by rw [Int.tmod_eq_emod_of_nonneg (by omega)]; omega
 have hmm : (xd : Int) % 18 = ((xd % 18 : Nat) : Int) := by omega
 have h18 : xd % 18 < 18 := Nat.mod_lt _ (by decide)
 generalize xd % 18 = qd at htm hmm h18 hop
 have htm6 : ((qd : Int)).tmod 6 = (op : Int) := by rw [Int.tmod_eq_emod_of_nonneg (by omega)]; omega
 have hmm6 : (qd : Int) % 6 = (op : Int) := by omega
 have hop5 : op ≤ 5 := by omega
 have hop17 : op ≤ 17 := by omega
 have HM : Hid (MkAt w mb xs left) := hm
 have hmw : mb < w.heap.size := hm.lt
 have HSTEP := Lib.hid hstep
 have H0X := Lib.hid h0X
 have H0L := Lib.hid h0L
 have HPN := Lib.hid hpn
 have HPT := Lib.hid hpt
 have HPM := Lib.hid hpm
 clear hop hok hstep h0X h0L hpn hpt hpm
 have hd0 : decide (D ≤ 0) = false := by simp; omega
 have hd1 : decide (left - 1 ≤ 0) = true := by simp; omega
 clear hm
 go_enter Tryz.func74, Tryz.ntmps74
 go_wp2_with fail
 refine (HNX.out _ (HM.out.below ((Below.refl _ _).alloc (Nat.le_refl _) _))).mono ?_
 rintro e w1 ⟨rfl, m1, g1⟩
 have HM1 := Lib.hid m1
 have HG1 := Lib.hid g1
 have hres1 := (g1.block w.heap.size (by simp) (by simp; omega)).trans (heap_alloc_new w _)
 have HRES1 := Lib.hid hres1
 obtain ⟨ad, cap, hmb, _⟩ := m1
 have cm1 : w1.cell? ⟨mb, 1, none⟩ = some (.int .i64 (left - 1)) := by simp [World.cell?, hmb]
 have hmbl : mb < w1.heap.size := lt_of_block hmb
 have hsz1 : w.heap.size + 1 ≤ w1.heap.size := by have := g1.size; simpa using this
 clear hmb g1 hres1
 go_upto_block 0 with fail
 obtain ⟨W0, hW0⟩ : ∃ W0, W0 = (w1.alloc (.cells #[.int .u8 (xd : Int), .int .u8 (xa : Int), .int .u16 (xn : Int), .int .u8 (xs4 : Int)] 69)).alloc (.cells #[.int .i64 (op : Int), .int .i64 0, .string ⟨#[]⟩, .slice none 0 0, .slice none 0 0, .slice none 0 0] 65) := ⟨_, rfl⟩
 obtain ⟨ge, hge⟩ : ∃ ge, ge = w1.heap.size + 1 := ⟨_, rfl⟩
 obtain ⟨g4, hg4⟩ : ∃ g4, g4 = w.heap.size := ⟨_, rfl⟩
 have HW0 := Lib.hid hW0
 have HGE := Lib.hid hge
 have HG4 := Lib.hid hg4
 have hge1 : w1.heap.size < ge := by omega
 have hg41 : g4 < w1.heap.size := by omega
 have hg40 : mb < g4 := by omega
 rw [← hW0, ← hge, ← hg4]
 clear hW0 hge hg4
 go_cut [8] (fun s8 wc => s8 = .int .i64 (many : Int) ∧ ∃ vn vb, Hid (Mid w wc mb g4 ge op num text [] [] xs.tail (left - 1) vn vb))
 case first =>
  have hx0 : W0.heap[w1.heap.size]? = some (.cells #[.int .u8 (xd : Int), .int .u8 (xa : Int), .int .u16 (xn : Int), .int .u8 (xs4 : Int)] 69 (0, 0)) := by rw [HW0.out]; exact block_alloc (heap_alloc_new w1 _) _
  have he0 : W0.heap[ge]? = some (.cells #[.int .i64 (op : Int), .int .i64 0, .string ⟨#[]⟩, .slice none 0 0, .slice none 0 0, .slice none 0 0] 65 (0, 0)) := by
   rw [HW0.out, HGE.out]
   have := heap_alloc_new (w1.alloc (.cells #[.int .u8 (xd : Int), .int .u8 (xa : Int), .int .u16 (xn : Int), .int .u8 (xs4 : Int)] 69)) (.cells #[.int .i64 (op : Int), .int .i64 0, .string ⟨#[]⟩, .slice none 0 0, .slice none 0 0, .slice none 0 0] 65)
   rwa [show (w1.alloc (.cells #[.int .u8 (xd : Int), .int .u8 (xa : Int), .int .u16 (xn : Int), .int .u8 (xs4 : Int)] 69)).heap.size = w1.heap.size + 1 from by simp] at this
  have hb0 : Below w1.heap.size w1 W0 := by rw [HW0.out]; exact ((Below.refl _ _).alloc (Nat.le_refl _) _).alloc (by simp) _
  have HMI0 : Hid (Mid w W0 mb g4 ge op 0 ⟨#[]⟩ [] [] xs.tail (left - 1) (.slice none 0 0) (.slice none 0 0)) := by
   refine ⟨he0, slNil _ _, slNil _ _, HM1.out.below hb0, ?_, grown_below ⟨HG1.out.os, HG1.out.tape, HG1.out.output, by have := HG1.out.size; simp at this; omega, fun k hk hn => ?_⟩ hb0⟩
   ·rw [hb0.block g4 hg41, HG4.out]; exact HRES1.out
   ·rw [HG1.out.block k (by simp; omega) hn, Below.heap_alloc _ _ _ hk]
  have x0 : W0.cell? ⟨w1.heap.size, 0, none⟩ = some (.int .u8 (xd : Int)) := by simp [World.cell?, hx0]
  have x1 : W0.cell? ⟨w1.heap.size, 1, none⟩ = some (.int .u8 (xa : Int)) := by simp [World.cell?, hx0]
  have x2 : W0.cell? ⟨w1.heap.size, 2, none⟩ = some (.int .u16 (xn : Int)) := by simp [World.cell?, hx0]
  have x3 : W0.cell? ⟨w1.heap.size, 3, none⟩ = some (.int .u8 (xs4 : Int)) := by simp [World.cell?, hx0]
  have e1 : W0.cell? ⟨ge, 1, none⟩ = some (.int .i64 0) := by simp [World.cell?, he0]
  have e2 : W0.cell? ⟨ge, 2, none⟩ = some (.string ⟨#[]⟩) := by simp [World.cell?, he0]
  have hgl0 : ge < W0.heap.size := lt_of_block he0
  have hxl0 : w1.heap.size < W0.heap.size := lt_of_block hx0
  have hfz0 : ∀ i, W0.frozen? ⟨ge, i, none⟩ = false := fun i => by simp [World.frozen?, he0]
  have ha3 : xa % 3 < 3 := Nat.mod_lt _ (by decide)
  have htm3 : ((xa : Int)).tmod 3 = ((xa % 3 : Nat) : Int) := by rw [Int.tmod_eq_emod_of_nonneg (by omega)]; omega
  have hmm3 : (xa : Int) % 3 = ((xa % 3 : Nat) : Int) := by omega
  have HPN2 := Lib.hid HPN.out
  clear hx0 he0 hb0 htm hmm htm6 hmm6
  rcases (show op = 0 ∨ op = 1 ∨ op = 2 ∨ op = 3 ∨ op = 4 ∨ op = 5 from by omega) with rfl | rfl | rfl | rfl | rfl | rfl
  ·go_wp2_with fail
   go_meet
   case rel =>
    have q1 : many = 0 := HPM.out
    have q2 : num = 0 := HPN.out
    have q3 : text = ⟨#[]⟩ := HPT.out
    subst q1
    subst q2
    subst q3
    exact ⟨rfl, _, _, HMI0⟩
  ·go_wp2_with fail
   go_meet
   case rel =>
    have q1 : many = 0 := HPM.out
    have q2 : num = 0 := HPN.out
    have q3 : text = ⟨#[]⟩ := HPT.out
    subst q1
    subst q2
    subst q3
    exact ⟨rfl, _, _, HMI0⟩
  ·go_wp2_with fail
   go_meet
   case rel =>
    have q1 : many = 0 := HPM.out
    have q2 : num = 0 := HPN.out
    have q3 : text = ⟨#[]⟩ := HPT.out
    subst q1
    subst q2
    subst q3
    exact ⟨rfl, _, _, HMI0⟩
  ·generalize hq3 : xa % 3 = q3 at ha3 htm3 hmm3
   have HQ3 := Lib.hid hq3
   clear hq3
   rcases (show q3 = 0 ∨ q3 = 1 ∨ q3 = 2 from by omega) with rfl | rfl | rfl
   ·go_wp2_with fail
    go_region
    all_goals
     go_wp2_with fail
     go_meet
     case rel =>
      have q1 : many = 0 := HPM.out
      have q2 : num = (xn : Int) := by have h := HPN.out; have h2 := HQ3.out; simp [numF, h2] at h; exact h
      have q3 : text = ⟨#[]⟩ := HPT.out
      subst q1
      subst q2
      subst q3
      exact ⟨rfl, _, _, (HMI0.out.num (by omega) (by omega) _).later (((Below.refl _ _).alloc (Nat.le_refl _) _).drew)⟩
   ·go_wp2_with fail
    go_region
    all_goals
     go_wp2_with fail
     go_meet
     case rel =>
      have q1 : many = 0 := HPM.out
      have q2 : num = (xn : Int) := by have h := HPN.out; have h2 := HQ3.out; simp [numF, h2] at h; exact h
      have q3 : text = ⟨#[]⟩ := HPT.out
      subst q1
      subst q2
      subst q3
      exact ⟨rfl, _, _, (HMI0.out.num (by omega) (by omega) _).later (((Below.refl _ _).alloc (Nat.le_refl _) _).drew)⟩
   ·go_wp2_with fail
    go_region
    all_goals
     go_wp2_with fail
     go_meet
     case rel =>
      have q1 : many = 0 := HPM.out
      have q2 : num = (xn : Int) * 1099511627776 := by have h := HPN.out; have h2 := HQ3.out; simp [numF, h2] at h; exact h
      have q3 : text = ⟨#[]⟩ := HPT.out
      subst q1
      subst q2
      subst q3
      exact ⟨rfl, _, _, (HMI0.out.num (by omega) (by omega) _).later (((Below.refl _ _).alloc (Nat.le_refl _) _).drew)⟩
  ·go_wp2_with fail
   refine (ltext_any xs4 hxs _).mono ?_
   rintro e w2 ⟨rfl, b2⟩
   have HB2 := Lib.hid b2
   have hfz2 : ∀ i, w2.frozen? ⟨ge, i, none⟩ = false := fun i => (b2.frozen (p := ⟨ge, i, none⟩) hgl0).trans (hfz0 i)
   have e22 : w2.cell? ⟨ge, 2, none⟩ = some (.string ⟨#[]⟩) := (b2.cell (p := ⟨ge, 2, none⟩) hgl0).trans e2
   have hgl2 : ge < w2.heap.size := Nat.lt_of_lt_of_le hgl0 b2.size
   clear b2
   go_wp2_with fail
   go_meet
   case rel =>
    have q1 : many = 0 := HPM.out
    have q2 : num = 0 := HPN.out
    have q3 : text = tx xs4 := HPT.out
    subst q1
    subst q2
    subst q3
    exact ⟨rfl, _, _, (HMI0.out.later HB2.out).text (by omega) (by omega) _⟩
  ·go_wp2_with fail
   refine (name_any xs4 hxs _).mono ?_
   rintro e w2 ⟨rfl, b2⟩
   have HB2 := Lib.hid b2
   have hfz2 : ∀ i, w2.frozen? ⟨ge, i, none⟩ = false := fun i => (b2.frozen (p := ⟨ge, i, none⟩) hgl0).trans (hfz0 i)
   have e22 : w2.cell? ⟨ge, 2, none⟩ = some (.string ⟨#[]⟩) := (b2.cell (p := ⟨ge, 2, none⟩) hgl0).trans e2
   have hgl2 : ge < w2.heap.size := Nat.lt_of_lt_of_le hgl0 b2.size
   clear b2
   go_wp2_with fail
   go_meet
   case rel =>
    have q1 : many = 0 := HPM.out
    have q2 : num = 0 := HPN.out
    have q3 : text = nm xs4 := HPT.out
    subst q1
    subst q2
    subst q3
    exact ⟨rfl, _, _, (HMI0.out.later HB2.out).text (by omega) (by omega) _⟩
 case rest =>
  obtain ⟨rfl, vn, vb, HMID⟩ := hcut
  go_wp2_with fail
  go_loopw [103] (fun i wr => ∃ (j : Nat) (vp : Value) (cs : List Value), i = .int .i64 (j : Int) ∧ j ≤ many ∧ Hid (wr.heap[ge]? = some (.cells #[.int .i64 (op : Int), .int .i64 num, .string text, vp, vn, vb] 65 (0, 0))) ∧ Hid (wr.ownsRow wc.heap.size 65 6 vp j cs) ∧ Hid (EsC (fun k => wc.heap.size ≤ k ∧ k < wr.heap.size ∧ vp.ownBlock ≠ some k) wr ((List.range j).map ES) cs) ∧ Hid (MkAt wr mb (XS j) (LF j)) ∧ Hid (Kb mb ge wc wr))
   (fun i _ => many - (intOf i).toNat)
  case atStart => exact ⟨0, .slice none 0 0, [], rfl, Nat.zero_le _, HMID.out.box, World.ownsRow_nil _ _ _ _, rfl, by show MkAt _ _ _ _; rw [H0X.out, H0L.out]; exact HMID.out.mkr, Kb.refl _ _ _⟩
  case round =>
   obtain ⟨j, vp, cs, rfl, hjm, HBX, HROW, HES, HMJ, HKB⟩ := hrel
   by_cases hlt : j < many
   ·have hidx : decide ((j : Int) < (many : Int)) = true := by simp; omega
    have HVP : Hid (∀ k, vp.ownBlock = some k → wc.heap.size ≤ k) := fun k hk => (HROW.out.lt k hk).1
    have hmg : mb < ge := by omega
    have hgx : ge < wc.heap.size := lt_of_block HMID.out.box
    have hmbs : mb < wc.heap.size := by omega
    have hbsw : wc.heap.size ≤ wr.heap.size := HKB.out.size
    have hj6 : j ≤ 1000000 := by omega
    obtain ⟨ao, capr, hvs, _⟩ := row_shape HROW.out
    subst hvs
    obtain ⟨vp, hvp⟩ : ∃ vp, vp = Value.slice ao j capr := ⟨_, rfl⟩
    rw [← hvp] at HBX HROW HES HVP
    clear hvp
    go_wp2_with fail
    refine region_sh (valK vp mb ge D) (JX wr mb wc.heap.size ge 65 (fun v => #[.int .i64 (op : Int), .int .i64 num, .string text, v, vn, vb]) (XS (j + 1)) (LF (j + 1)) (ES j) vp j cs 5 6 7 9 110 111 112) (by kernel_rfl) (by kernel_rfl) (by kernel_rfl) (JX.start _) ?_ ?_
    ·intro hon q hq L a1 W hC hl hBh hS hJ K hK
     have hqn : q < 10 := hq
     clear hq
     rcases (show q = 0 ∨ q = 1 ∨ q = 2 ∨ q = 3 ∨ q = 4 ∨ q = 5 ∨ q = 6 ∨ q = 7 ∨ q = 8 ∨ q = 9 from by omega) with rfl | rfl | rfl | rfl | rfl | rfl | rfl | rfl | rfl | rfl
     ·have e7 := (eval_tmp a1 7).symm.trans ((hS.kept 7 (by kernel_rfl)).trans rfl)
      refine wpOp_step rfl (fun K' hK' => ?_)
      go_simp
      exact hK' _ _ (hK _ _ (hS.put hon (i := 0) rfl rfl (fun u hu => by cases hu; rfl)) (hJ.pure (by decide) (by decide)))
     ·have e105 := (eval_tmp a1 105).symm.trans (hS.get hBh (i := 1) rfl 0 (by simp) rfl rfl rfl)
      have hls : L 9 = false := closed_not hC (closed_not hC hl (i := 7) (j := 1) rfl (g := .data) (by simp) rfl) (i := 9) (j := 7) rfl (g := .data) (by simp) rfl
      have hbxW := hJ.box hls HVP.out HBX.out hmg hgx
      have hcl2 : W.cell? ⟨ge, 3, none⟩ = some vp := by simp [World.cell?, hbxW]
      refine wpOp_step rfl (fun K' hK' => ?_)
      go_simp
      exact hK' _ _ (hK _ _ (hS.put hon (i := 1) rfl rfl (fun u hu => by cases hu; rfl)) (hJ.pure (by decide) (by decide)))
     ·have e0 := (eval_tmp a1 0).symm.trans ((hS.kept 0 (by kernel_rfl)).trans rfl)
      refine wpOp_step rfl (fun K' hK' => ?_)
      go_simp
      exact hK' _ _ (hK _ _ (hS.put hon (i := 2) rfl rfl (fun u hu => by cases hu; rfl)) (hJ.pure (by decide) (by decide)))
     ·have e1 := (eval_tmp a1 1).symm.trans ((hS.kept 1 (by kernel_rfl)).trans rfl)
      refine wpOp_step rfl (fun K' hK' => ?_)
      go_simp
      exact hK' _ _ (hK _ _ (hS.put hon (i := 3) rfl rfl (fun u hu => by cases hu; rfl)) (hJ.pure (by decide) (by decide)))
     ·have e108 := (eval_tmp a1 108).symm.trans (hS.get hBh (i := 4) rfl 3 (by simp) rfl rfl rfl)
      have hwr : IntKind.i64.wrap (D - 1) = D - 1 := by simp [IntKind.wrap, IntKind.bits, IntKind.signed]; omega
      refine wpOp_step rfl (fun K' hK' => ?_)
      go_simp
      exact hK' _ _ (hK _ _ (hS.put hon (i := 4) rfl rfl (fun u hu => by cases hu; rfl)) (hJ.pure (by decide) (by decide)))
     ·have n6 : L 6 = false := closed_not hC hl (i := 6) (j := 5) rfl (g := .data) (by simp) rfl
      have n7 : L 7 = false := closed_not hC n6 (i := 7) (j := 6) rfl (g := .data) (by simp) rfl
      have n9 : L 9 = false := closed_not hC n7 (i := 9) (j := 7) rfl (g := .data) (by simp) rfl
      have e107 := (eval_tmp a1 107).symm.trans (hS.get hBh (i := 5) rfl 2 (by simp) rfl rfl rfl)
      have e109 := (eval_tmp a1 109).symm.trans (hS.get hBh (i := 5) rfl 4 (by simp) rfl rfl rfl)
      obtain rfl := hJ.n0 hl
      refine wpOp_call (f := 74) (args := #[.pointer (some ⟨mb, 0, none⟩), .int .i64 (D - 1)]) (R := fun u W2 => ∃ x y z, u = exV (ES j) x y z ∧ Sa wr W2 mb (XS (j + 1)) (LF (j + 1)) (ES j) x y z) rfl rfl (by simp [execOp, resolve, invoke, e107, e109, go_sem]) ((HSTEP.out j (by omega) _ (HMJ.out.below (Below.refl _ _).drew)).mono fun en W2 ⟨x, y, z, h1, h2, h3, h4⟩ => ⟨_, h1, x, y, z, rfl, h2, ⟨h3.os, h3.tape, h3.output, h3.size, h3.block⟩, h4⟩) ?_
      rintro u W2 ⟨x, y, z, rfl, hSa⟩
      exact hK _ _ (hS.put hon (i := 5) rfl rfl (fun u hu => by cases hu)) (hJ.call n6 n7 n9 (by decide) (by rw [hS.size]; exact (by decide : (110 : Nat) < 116)) hSa)
     ·have d5 : L 5 = true := hBh _ rfl ⟨5, .data⟩ (by simp) rfl
      have n7 : L 7 = false := closed_not hC hl (i := 7) (j := 6) rfl (g := .data) (by simp) rfl
      have n9 : L 9 = false := closed_not hC n7 (i := 9) (j := 7) rfl (g := .data) (by simp) rfl
      obtain ⟨x, y, z, hev, hSa⟩ := hJ.n1 d5 hl
      have e110 := (eval_tmp a1 110).symm.trans hev
      obtain ⟨op2, num2, text2, ps2, pm2, bd2, hEj⟩ : ∃ op num text ps pm bd, ES j = .mk op num text ps pm bd := by cases h : ES j; exact ⟨_, _, _, _, _, _, rfl⟩
      have hsix := hSa.inn
      rw [hEj] at hsix
      obtain ⟨_, ⟨pa2, pc2, rfl, _⟩, ⟨na2, nc2, rfl, _⟩, ⟨ba2, bc2, rfl, _⟩⟩ := hsix
      rw [hEj] at e110
      unfold exV at e110
      simp only at e110
      refine wpOp_step rfl (fun K' hK' => ?_)
      go_simp
      exact hK' _ _ (hK _ _ (hS.put hon (i := 6) rfl rfl (fun u hu => by cases hu)) (hJ.lay d5 n7 n9 (by decide) (by rw [hS.size]; exact (by decide : (111 : Nat) < 116)) (hSa.lay (by rw [hEj]; rfl))))
     ·have d6 : L 6 = true := hBh _ rfl ⟨6, .data⟩ (by simp) rfl
      have d5 : L 5 = true := hBh _ rfl ⟨5, .chain⟩ (by simp) rfl
      have n9 : L 9 = false := closed_not hC hl (i := 9) (j := 7) rfl (g := .data) (by simp) rfl
      have e106 := (hS.get hBh (i := 7) rfl 1 (by simp) rfl rfl rfl)
      obtain ⟨g, x, y, z, hge, hSb⟩ := hJ.n2 d6 hl
      obtain ⟨v2, W2, hrun, hSc⟩ := hSb.app HROW.out hmbs hbsw hj6 58
      refine wpOp_run rfl rfl (v := v2) (w' := W2) ?_ (hK _ _ (hS.put hon (i := 7) rfl rfl (fun u hu => by cases hu)) (hJ.app d5 d6 n9 (by decide) (by rw [hS.size]; exact (by decide : (112 : Nat) < 116)) hSc))
      simp [execOp, resolve, invoke, builtin, e106, hge, hrun, Result.andThen]
     ·have e7 := (eval_tmp a1 7).symm.trans ((hS.kept 7 (by kernel_rfl)).trans rfl)
      refine wpOp_step rfl (fun K' hK' => ?_)
      go_simp
      exact hK' _ _ (hK _ _ (hS.put hon (i := 8) rfl rfl (fun u hu => by cases hu; rfl)) (hJ.pure (by decide) (by decide)))
     ·have d7 : L 7 = true := hBh _ rfl ⟨7, .data⟩ (by simp) rfl
      have d6 : L 6 = true := hBh _ rfl ⟨6, .phase⟩ (by simp) rfl
      have d5 : L 5 = true := hBh _ rfl ⟨5, .phase⟩ (by simp) rfl
      have e113 := (eval_tmp a1 113).symm.trans (hS.get hBh (i := 9) rfl 8 (by simp) rfl rfl rfl)
      obtain ⟨x, y, z, hSc⟩ := hJ.n3 d7 hl
      obtain ⟨v2, hv2⟩ : ∃ u, a1.eval (.tmp 112) = u := ⟨_, rfl⟩
      rw [hv2] at hSc
      have e112 := (eval_tmp a1 112).symm.trans hv2
      have hbxW := hJ.box hl HVP.out HBX.out hmg hgx
      obtain ⟨ao2, cap2, rfl, _⟩ := row_shape hSc.row
      have hfz : W.frozen? ⟨ge, 3, none⟩ = false := by simp [World.frozen?, hbxW]
      have hcc : ∃ u, W.cell? ⟨ge, 3, none⟩ = some u := ⟨_, by simp [World.cell?, hbxW]; rfl⟩
      obtain ⟨u0c, hcc⟩ := hcc
      have hgl : ge < W.heap.size := lt_of_block hbxW
      refine wpOp_step rfl (fun K' hK' => ?_)
      go_simp
      exact hK' _ _ (hK _ _ (hS.none (i := 9) rfl rfl) (JX.put d5 d6 d7 (by decide) (hSc.store HVP.out HBX.out hmg hgx hbsw rfl)))
    ·intro L a1 wz hl hS hJ
     obtain ⟨x, y, z, v, hSd⟩ := hJ.n4 (hl 9 (by decide))
     have hfr := hS.frame [105, 106, 107, 108, 109, 110, 111, 112, 113] rfl
     refine (‹∀ (a : Act) (w : World), Code.wp Tryz.prog _ _ a w → _› a1 wz ?_)
     obtain ⟨zz, hz⟩ : ∃ z : Nat → Value, z = fun k => a1.eval (.tmp k) := ⟨_, rfl⟩
     rw [← hz] at hfr
     have HSD := Lib.hid hSd
     rw [hfr]
     clear hfr hz hS hJ hl hSd
     simp only [over, List.setIfInBounds_toArray, List.set_cons_zero, List.set_cons_succ]
     have HES2 : Hid (EsC (fun k => wc.heap.size ≤ k ∧ k < wz.heap.size ∧ v.ownBlock ≠ some k) wz ((List.range (j + 1)).map ES) (cs ++ sixE (ES j) x y z)) := by
      show EsC _ _ _ _
      rw [range_snoc]
      refine EsC.snoc ?_ (EsC.kept (fun k hk => ?_) HES.out)
      ·exact EIn.kept (fun k hk => ⟨⟨Nat.le_trans hbsw hk.1, hk.2.1, hk.2.2⟩, rfl⟩) _ HSD.out.inn
      ·have h1 := hk.1
       have h2 := hk.2.1
       have h3 := HSD.out.size
       refine ⟨⟨h1, by omega, fun e1 => ?_⟩, HSD.out.keep k h2 (by omega) (by omega) hk.2.2⟩
       rcases HSD.out.own k e1 with h5 | h5
       ·exact hk.2.2 h5
       ·omega
     have HKB2 : Hid (Kb mb ge wc wz) := ⟨HSD.out.os.trans HKB.out.os, HSD.out.tape.trans HKB.out.tape, HSD.out.output.trans HKB.out.output, Nat.le_trans HKB.out.size HSD.out.size, fun k h1 h2 h3 => (HSD.out.keep k (by omega) h2 h3 (fun e1 => by have := HVP.out k e1; omega)).trans (HKB.out.keep k h1 h2 h3)⟩
     go_wp2_with fail
     go_roundw
     case rel => exact ⟨j + 1, v, cs ++ sixE (ES j) x y z, by go_num, by omega, HSD.out.box, HSD.out.row, HES2, HSD.out.mkr, HKB2⟩
     case measure => simp [intOf]; omega
   ·have hje : j = many := by omega
    subst hje
    have hmg : mb < ge := by omega
    have hgx : ge < wc.heap.size := lt_of_block HMID.out.box
    have hbsw : wc.heap.size ≤ wr.heap.size := HKB.out.size
    have HPAR := Lib.hid HMID.out.par
    have HBOD := Lib.hid HMID.out.bod
    obtain ⟨ao, capr, hvs, hcr1, hcr2⟩ := row_shape HROW.out
    subst hvs
    obtain ⟨na, nc, hvn, _⟩ := HMID.out.par
    subst hvn
    obtain ⟨ba, bc, hvb, _⟩ := HMID.out.bod
    subst hvb
    have hbx := HBX.out
    have q0 : wr.cell? ⟨ge, 0, none⟩ = some (.int .i64 (op : Int)) := by simp [World.cell?, hbx]
    have q1 : wr.cell? ⟨ge, 1, none⟩ = some (.int .i64 num) := by simp [World.cell?, hbx]
    have q2 : wr.cell? ⟨ge, 2, none⟩ = some (.string text) := by simp [World.cell?, hbx]
    have q3 : wr.cell? ⟨ge, 3, none⟩ = some (.slice ao j capr) := by simp [World.cell?, hbx]
    have q4 : wr.cell? ⟨ge, 4, none⟩ = some (.slice na 0 nc) := by simp [World.cell?, hbx]
    have q5 : wr.cell? ⟨ge, 5, none⟩ = some (.slice ba 0 bc) := by simp [World.cell?, hbx]
    have hr4 : wr.heap[g4]? = _ := (HKB.out.keep g4 (lt_of_block HMID.out.res) (by omega) (by omega)).trans HMID.out.res
    have hfz : ∀ i, wr.frozen? ⟨g4, i, none⟩ = false := fun i => by simp [World.frozen?, hr4]
    have r0 : wr.cell? ⟨g4, 0, none⟩ = some (.int .i64 0) := by simp [World.cell?, hr4]
    have r1 : wr.cell? ⟨g4, 1, none⟩ = some (.int .i64 0) := by simp [World.cell?, hr4]
    have r2 : wr.cell? ⟨g4, 2, none⟩ = some (.string ⟨#[]⟩) := by simp [World.cell?, hr4]
    have r3 : wr.cell? ⟨g4, 3, none⟩ = some (.slice none 0 0) := by simp [World.cell?, hr4]
    have r4 : wr.cell? ⟨g4, 4, none⟩ = some (.slice none 0 0) := by simp [World.cell?, hr4]
    have r5 : wr.cell? ⟨g4, 5, none⟩ = some (.slice none 0 0) := by simp [World.cell?, hr4]
    have hg4l : g4 < wr.heap.size := lt_of_block hr4
    have hgel : ge < wr.heap.size := lt_of_block hbx
    have HR4 := Lib.hid hr4
    clear hbx hr4
    go_wp2
    have hfin := fin_expr (W' := six6 wr g4 (.int .i64 (op : Int)) (.int .i64 num) (.string text) (.slice ao j capr) (.slice na 0 nc) (.slice ba 0 bc)) (es := (List.range j).map ES) HMID.out HROW.out HES.out (by simp) HMJ.out HKB.out (fun k hk => six6_other hk) six6_size six6_os six6_tape six6_output hg40 (Nat.le_of_eq HG4.out.symm) (by omega) hop17 hnum
    obtain ⟨t0, t1, t2, t3, t4, t5⟩ := six6_cell (a := .int .i64 (op : Int)) (b := .int .i64 num) (c := .string text) (d := .slice ao j capr) (e := .slice na 0 nc) (f := .slice ba 0 bc) HR4.out
    obtain ⟨W', hW'⟩ : ∃ W', six6 wr g4 (.int .i64 (op : Int)) (.int .i64 num) (.string text) (.slice ao j capr) (.slice na 0 nc) (.slice ba 0 bc) = W' := ⟨_, rfl⟩
    rw [hW'] at hfin t0 t1 t2 t3 t4 t5
    unfold six6 at hW'
    rw [hW']
    clear hW' r0 r1 r2 r3 r4 r5 q0 q1 q2 q3 q4 q5
    obtain ⟨f1, f2, f3⟩ := hfin
    have HF3 := Lib.hid f3
    clear f3
    refine bodyPost_ret (v := exV (.mk op num text ((List.range j).map ES) [] []) (.slice ao j capr) (.slice na 0 nc) (.slice ba 0 bc)) (by simp [results, Tryz.results74, go_sem, exV, t0, t1, t2, t3, t4, t5]) rfl ⟨_, _, _, rfl, f1, f2, HF3.out⟩
end Go.Proofs.YtpboencfnjmmbaaGreatDoor

/-
 The maker's expr where it makes a function: parameters and a body.
 Conditions: as each theorem says.
-/
import Derived.Test.YtpboencfnjmmbaaGreatDoorZTkExpr
import Derived.Test.YtpboencfnjmmbaaGreatDoorZTkStr
set_option maxRecDepth 100000
set_option maxHeartbeats 8000000
set_option linter.unusedVariables false
namespace Go.Proofs.YtpboencfnjmmbaaGreatDoor
open Go.RowKit TM
def valN (vp : Value) (ge gx j sj s4 : Nat) : Nat → Option Value
 | 0 => some (.pointer (some ⟨ge, 4, none⟩))
 | 1 => some vp
 | 2 => some (.pointer (some ⟨gx, 3, none⟩))
 | 3 => some (.int .u8 (s4 : Int))
 | 4 => some (.int .u8 (j : Int))
 | 5 => some (.int .u8 (sj : Int))
 | 9 => some (.pointer (some ⟨ge, 4, none⟩))
 | _ => none
theorem strAt_of {w : World} {g : Nat} : ∀ {l : List ByteArray} {o : Nat}, (∀ (q : Nat) (u : Value), (strCs l)[q]? = some u → w.cell? ⟨g, o + q, none⟩ = some u) → StrAt w g o l
 | [], o, h => trivial
 | s :: l, o, h => ⟨by simpa using h 0 (.string s) rfl, strAt_of fun q u hq => by
  have := h (q + 1) u hq
  rwa [show o + (q + 1) = o + 1 + q from by omega] at this⟩
theorem expr_fn {xs : List XX} {left D : Int} (hok : ∀ x ∈ xs, x.ok) (hl0 : -500000000 ≤ left) (hl1 : left ≤ 1000) (hD0 : 1 ≤ D) (hD1 : D ≤ 10) (hlf : 0 < left - 1) {op : Nat} (hop : op = (hd xs).d % 18) (hop7 : op = 17)
 {w : World} {mb : Nat} (hm : MkAt w mb xs left) {body : List TS} {X2 : List XX} {L2 : Int}
 (hst : ∀ W, MkAt W mb xs.tail (left - 1) → Calls Tryz.prog 75 #[.pointer (some ⟨mb, 0, none⟩), .int .i64 (D - 1), .int .i64 (((hd xs).n % 3 : Nat) : Int)] W fun en w' => ∃ v, en = .returned v ∧ MkAt w' mb X2 L2 ∧ W.grownBy w' (some mb) ∧ SlAt (Fresh W.heap.size w'.heap.size) v body.length (fun g o => SsAt (Fresh W.heap.size w'.heap.size) w' g o body)) :
 Calls Tryz.prog 74 #[.pointer (some ⟨mb, 0, none⟩), .int .i64 D] w fun en w' => ∃ a b c, en = .returned (exV (.mk op 0 ⟨#[]⟩ [] (paramsF 17 (hd xs)) body) a b c) ∧ MkAt w' mb X2 L2 ∧ w.grownBy w' (some mb) ∧ EIn (Fresh w.heap.size w'.heap.size) w' (.mk op 0 ⟨#[]⟩ [] (paramsF 17 (hd xs)) body) a b c := by
 have hx := hd_ok hok
 have HNX : Hid (∀ W, MkAt W mb xs left → Calls Tryz.prog 73 #[.pointer (some ⟨mb, 0, none⟩)] W fun e w' => e = .returned (xV (hd xs)) ∧ MkAt w' mb xs.tail (left - 1) ∧ W.grownBy w' (some mb)) := fun W h => next_any h (by omega) (by omega)
 have HST := Lib.hid hst
 clear hst
 generalize hd xs = x at hx HNX hop HST ⊢
 obtain ⟨xd, xa, xn, xs4⟩ := x
 obtain ⟨hxd, hxa, hxn, hxs⟩ := hx
 simp only at hxd hxa hxn hxs hop
 unfold xV at HNX
 simp only at HNX
 have htm : ((xd : Int)).tmod 18 = (op : Int) := by rw [Int.tmod_eq_emod_of_nonneg (by omega)]; omega
 have hmm : (xd : Int) % 18 = (op : Int) := by omega
 have hop17 : op ≤ 17 := by omega
 have HM : Hid (MkAt w mb xs left) := hm
 have hmw : mb < w.heap.size := hm.lt
 have HO7 := Lib.hid hop7
 obtain ⟨PR, hPR⟩ : ∃ PR, PR = paramsF 17 ⟨xd, xa, xn, xs4⟩ := ⟨_, rfl⟩
 have HPR := Lib.hid hPR
 rw [← hPR]
 simp only at HST
 clear hop hok hop7 hPR
 have hd0 : decide (D ≤ 0) = false := by simp; omega
 have hd1 : decide (left - 1 ≤ 0) = false := by simp; omega
 clear hm
 go_enter Tryz.func74, Tryz.ntmps74
 go_wp2_with fail
 refine (HNX.out _ (HM.out.below ((Below.refl _ _).alloc (Nat.le_refl _) _))).mono ?_
 rintro e w1 ⟨rfl, m1, g1⟩
 have HM1 := Lib.hid m1
 have HG1 := Lib.hid g1
 have hres1 := (g1.block w.heap.size (by simp) (by simp; omega)).trans (heap_alloc_new w _)
 have HRES1 := Lib.hid hres1
 obtain ⟨ad, cap, hmb, _⟩ := m1
 have cm1 : w1.cell? ⟨mb, 1, none⟩ = some (.int .i64 (left - 1)) := by simp [World.cell?, hmb]
 have hmbl : mb < w1.heap.size := lt_of_block hmb
 have hsz1 : w.heap.size + 1 ≤ w1.heap.size := by have := g1.size; simpa using this
 clear hmb g1 hres1
 go_upto_block 0 with fail
 obtain ⟨W0, hW0⟩ : ∃ W0, W0 = (w1.alloc (.cells #[.int .u8 (xd : Int), .int .u8 (xa : Int), .int .u16 (xn : Int), .int .u8 (xs4 : Int)] 69)).alloc (.cells #[.int .i64 (op : Int), .int .i64 0, .string ⟨#[]⟩, .slice none 0 0, .slice none 0 0, .slice none 0 0] 65) := ⟨_, rfl⟩
 obtain ⟨ge, hge⟩ : ∃ ge, ge = w1.heap.size + 1 := ⟨_, rfl⟩
 obtain ⟨g4, hg4⟩ : ∃ g4, g4 = w.heap.size := ⟨_, rfl⟩
 have HW0 := Lib.hid hW0
 have HGE := Lib.hid hge
 have HG4 := Lib.hid hg4
 have hge1 : w1.heap.size < ge := by omega
 have hg41 : g4 < w1.heap.size := by omega
 have hg40 : mb < g4 := by omega
 rw [← hW0, ← hge, ← hg4]
 clear hW0 hge hg4
 go_cut [8] (fun s8 wc => s8 = .int .i64 0 ∧ ∃ vn vb, Hid (Mid w wc mb g4 ge op 0 ⟨#[]⟩ PR body X2 L2 vn vb))
 case first =>
  have hx0 : W0.heap[w1.heap.size]? = some (.cells #[.int .u8 (xd : Int), .int .u8 (xa : Int), .int .u16 (xn : Int), .int .u8 (xs4 : Int)] 69 (0, 0)) := by rw [HW0.out]; exact block_alloc (heap_alloc_new w1 _) _
  have he0 : W0.heap[ge]? = some (.cells #[.int .i64 (op : Int), .int .i64 0, .string ⟨#[]⟩, .slice none 0 0, .slice none 0 0, .slice none 0 0] 65 (0, 0)) := by
   rw [HW0.out, HGE.out]
   have := heap_alloc_new (w1.alloc (.cells #[.int .u8 (xd : Int), .int .u8 (xa : Int), .int .u16 (xn : Int), .int .u8 (xs4 : Int)] 69)) (.cells #[.int .i64 (op : Int), .int .i64 0, .string ⟨#[]⟩, .slice none 0 0, .slice none 0 0, .slice none 0 0] 65)
   rwa [show (w1.alloc (.cells #[.int .u8 (xd : Int), .int .u8 (xa : Int), .int .u16 (xn : Int), .int .u8 (xs4 : Int)] 69)).heap.size = w1.heap.size + 1 from by simp] at this
  have hb0 : Below w1.heap.size w1 W0 := by rw [HW0.out]; exact ((Below.refl _ _).alloc (Nat.le_refl _) _).alloc (by simp) _
  have HMI0 : Hid (Mid w W0 mb g4 ge op 0 ⟨#[]⟩ [] [] xs.tail (left - 1) (.slice none 0 0) (.slice none 0 0)) := by
   refine ⟨he0, slNil _ _, slNil _ _, HM1.out.below hb0, ?_, grown_below ⟨HG1.out.os, HG1.out.tape, HG1.out.output, by have := HG1.out.size; simp at this; omega, fun k hk hn => ?_⟩ hb0⟩
   ·rw [hb0.block g4 hg41, HG4.out]; exact HRES1.out
   ·rw [HG1.out.block k (by simp; omega) hn, Below.heap_alloc _ _ _ hk]
  have x0 : W0.cell? ⟨w1.heap.size, 0, none⟩ = some (.int .u8 (xd : Int)) := by simp [World.cell?, hx0]
  have x1 : W0.cell? ⟨w1.heap.size, 1, none⟩ = some (.int .u8 (xa : Int)) := by simp [World.cell?, hx0]
  have x2 : W0.cell? ⟨w1.heap.size, 2, none⟩ = some (.int .u16 (xn : Int)) := by simp [World.cell?, hx0]
  have x3 : W0.cell? ⟨w1.heap.size, 3, none⟩ = some (.int .u8 (xs4 : Int)) := by simp [World.cell?, hx0]
  have e1 : W0.cell? ⟨ge, 1, none⟩ = some (.int .i64 0) := by simp [World.cell?, he0]
  have e2 : W0.cell? ⟨ge, 2, none⟩ = some (.string ⟨#[]⟩) := by simp [World.cell?, he0]
  have hgl0 : ge < W0.heap.size := lt_of_block he0
  have hxl0 : w1.heap.size < W0.heap.size := lt_of_block hx0
  have hfz0 : ∀ i, W0.frozen? ⟨ge, i, none⟩ = false := fun i => by simp [World.frozen?, he0]
  have ha3 : xa % 3 < 3 := Nat.mod_lt _ (by decide)
  have htm3 : ((xa : Int)).tmod 3 = ((xa % 3 : Nat) : Int) := by rw [Int.tmod_eq_emod_of_nonneg (by omega)]; omega
  have hmm3 : (xa : Int) % 3 = ((xa % 3 : Nat) : Int) := by omega
  have HX0 := Lib.hid hx0
  have HE0 := Lib.hid he0
  have hn3 : xn % 3 < 3 := Nat.mod_lt _ (by decide)
  have htn3 : ((xn : Int)).tmod 3 = ((xn % 3 : Nat) : Int) := by rw [Int.tmod_eq_emod_of_nonneg (by omega)]; omega
  have hmn3 : (xn : Int) % 3 = ((xn % 3 : Nat) : Int) := by omega
  generalize hnq : xn % 3 = n3 at hn3 htn3 hmn3 HST
  clear hnq
  have HPJ : Hid (PR = (List.range (xa % 3)).map fun i => nm ((xs4 + i) % 256)) := HPR.out
  generalize xa % 3 = q3 at ha3 htm3 hmm3 HPJ
  clear hx0 he0 hb0 htm hmm x0 x1 x2 e1 e2
  have hop7 := HO7.out
  subst hop7
  have x1 : W0.cell? ⟨w1.heap.size, 1, none⟩ = some (.int .u8 (xa : Int)) := by have h := HX0.out; simp [World.cell?, h]
  go_wp2_with fail
  go_loopw [79] (fun i wr => ∃ (j : Nat) (vp : Value), i = .int .u8 (j : Int) ∧ j ≤ q3 ∧ Hid (wr.heap[ge]? = some (.cells #[.int .i64 17, .int .i64 0, .string ⟨#[]⟩, .slice none 0 0, vp, .slice none 0 0] 65 (0, 0))) ∧ Hid (wr.ownsRow W0.heap.size 9 1 vp ((List.range j).map fun i => nm ((xs4 + i) % 256)).length (strCs ((List.range j).map fun i => nm ((xs4 + i) % 256)))) ∧ Hid (Kb ge ge W0 wr))
   (fun i _ => q3 - (intOf i).toNat)
  case atStart => exact ⟨0, .slice none 0 0, rfl, Nat.zero_le _, HE0.out, World.ownsRow_nil _ _ _ _, Kb.refl _ _ _⟩
  case round =>
   obtain ⟨j, vp, rfl, hj, HBX, HROW, HKB⟩ := hrel
   have hbsw : W0.heap.size ≤ wr.heap.size := HKB.out.size
   have hgel : ge < wr.heap.size := by omega
   have hxl : w1.heap.size < wr.heap.size := by omega
   have HXB : Hid (wr.heap[w1.heap.size]? = some (.cells #[.int .u8 (xd : Int), .int .u8 (xa : Int), .int .u16 (xn : Int), .int .u8 (xs4 : Int)] 69 (0, 0))) := (HKB.out.keep _ hxl0 (by omega) (by omega)).trans HX0.out
   by_cases hlt : j < q3
   ·have hlt2 : decide ((j : Int) < (q3 : Int)) = true := by simp; omega
    have HVP : Hid (∀ k, vp.ownBlock = some k → W0.heap.size ≤ k) := fun k hk => (HROW.out.lt k hk).1
    have HVN : Hid (vp.ownBlock ≠ some ge) := fun e1 => by have := HVP.out ge e1; omega
    have HVX : Hid (vp.ownBlock ≠ some w1.heap.size) := fun e1 => by have := HVP.out _ e1; omega
    have hgbs : ge < W0.heap.size := hgl0
    have hj6 : ((List.range j).map fun i => nm ((xs4 + i) % 256)).length ≤ 1000000 := by simp; omega
    obtain ⟨sj, hsje⟩ : ∃ sj, sj = (xs4 + j) % 256 := ⟨_, rfl⟩
    have hsj : sj ≤ 255 := by omega
    have HSJ : Hid (IntKind.u8.wrap ((xs4 : Int) + (j : Int)) = ((sj : Nat) : Int)) := by show _ = _; simp [IntKind.wrap, IntKind.bits, IntKind.signed]; omega
    have HSE := Lib.hid hsje
    clear hsje
    obtain ⟨ao, capr, hvs, _⟩ := row_shape HROW.out
    subst hvs
    obtain ⟨vp, hvp⟩ : ∃ vp, vp = Value.slice ao ((List.range j).map fun i => nm ((xs4 + i) % 256)).length capr := ⟨_, rfl⟩
    rw [← hvp] at HBX HROW HVP HVN HVX
    clear hvp
    go_wp2_with fail
    refine region_sh (valN vp ge w1.heap.size j sj xs4) (JS wr W0.heap.size ge 65 (fun v => #[.int .i64 17, .int .i64 0, .string ⟨#[]⟩, .slice none 0 0, v, .slice none 0 0]) vp ((List.range j).map fun i => nm ((xs4 + i) % 256)) (nm sj) 6 7 8 10 88 89 90) (by kernel_rfl) (by kernel_rfl) (by kernel_rfl) (JS.start _) ?_ ?_
    ·intro hon q hq L a1 W hC hl hBh hS hJ K hK
     have hqn : q < 11 := hq
     clear hq
     rcases (show q = 0 ∨ q = 1 ∨ q = 2 ∨ q = 3 ∨ q = 4 ∨ q = 5 ∨ q = 6 ∨ q = 7 ∨ q = 8 ∨ q = 9 ∨ q = 10 from by omega) with rfl | rfl | rfl | rfl | rfl | rfl | rfl | rfl | rfl | rfl | rfl
     ·have e7 := (eval_tmp a1 7).symm.trans ((hS.kept 7 (by kernel_rfl)).trans rfl)
      refine wpOp_step rfl (fun K' hK' => ?_)
      go_simp
      exact hK' _ _ (hK _ _ (hS.put hon (i := 0) rfl rfl (fun u hu => by cases hu; rfl)) (hJ.pure (by decide) (by decide)))
     ·have e82 := (eval_tmp a1 82).symm.trans (hS.get hBh (i := 1) rfl 0 (by simp) rfl rfl rfl)
      have hls : L 10 = false := closed_not hC (closed_not hC hl (i := 8) (j := 1) rfl (g := .data) (by simp) rfl) (i := 10) (j := 8) rfl (g := .data) (by simp) rfl
      have hbxW := (hJ.old hls hgel (HVN.out)).trans HBX.out
      have hcl2 : W.cell? ⟨ge, 4, none⟩ = some vp := by simp [World.cell?, hbxW]
      refine wpOp_step rfl (fun K' hK' => ?_)
      go_simp
      exact hK' _ _ (hK _ _ (hS.put hon (i := 1) rfl rfl (fun u hu => by cases hu; rfl)) (hJ.pure (by decide) (by decide)))
     ·have e5 := (eval_tmp a1 5).symm.trans ((hS.kept 5 (by kernel_rfl)).trans rfl)
      refine wpOp_step rfl (fun K' hK' => ?_)
      go_simp
      exact hK' _ _ (hK _ _ (hS.put hon (i := 2) rfl rfl (fun u hu => by cases hu; rfl)) (hJ.pure (by decide) (by decide)))
     ·have e84 := (eval_tmp a1 84).symm.trans (hS.get hBh (i := 3) rfl 2 (by simp) rfl rfl rfl)
      have hls : L 10 = false := closed_not hC (closed_not hC (closed_not hC (closed_not hC (closed_not hC hl (i := 5) (j := 3) rfl (g := .data) (by simp) rfl) (i := 6) (j := 5) rfl (g := .data) (by simp) rfl) (i := 7) (j := 6) rfl (g := .data) (by simp) rfl) (i := 8) (j := 7) rfl (g := .data) (by simp) rfl) (i := 10) (j := 8) rfl (g := .data) (by simp) rfl
      have hxW := (hJ.old hls hxl (HVX.out)).trans HXB.out
      have hcl3 : W.cell? ⟨w1.heap.size, 3, none⟩ = some (.int .u8 (xs4 : Int)) := by simp [World.cell?, hxW]
      refine wpOp_step rfl (fun K' hK' => ?_)
      go_simp
      exact hK' _ _ (hK _ _ (hS.put hon (i := 3) rfl rfl (fun u hu => by cases hu; rfl)) (hJ.pure (by decide) (by decide)))
     ·have e9 := (eval_tmp a1 9).symm.trans ((hS.kept 9 (by kernel_rfl)).trans rfl)
      refine wpOp_step rfl (fun K' hK' => ?_)
      go_simp
      exact hK' _ _ (hK _ _ (hS.put hon (i := 4) rfl rfl (fun u hu => by cases hu; rfl)) (hJ.pure (by decide) (by decide)))
     ·have e85 := (eval_tmp a1 85).symm.trans (hS.get hBh (i := 5) rfl 3 (by simp) rfl rfl rfl)
      have e86 := (eval_tmp a1 86).symm.trans (hS.get hBh (i := 5) rfl 4 (by simp) rfl rfl rfl)
      have hwr : IntKind.u8.wrap ((xs4 : Int) + (j : Int)) = ((sj : Nat) : Int) := HSJ.out
      refine wpOp_step rfl (fun K' hK' => ?_)
      go_simp
      exact hK' _ _ (hK _ _ (hS.put hon (i := 5) rfl rfl (fun u hu => by cases hu; rfl)) (hJ.pure (by decide) (by decide)))
     ·have n7 : L 7 = false := closed_not hC hl (i := 7) (j := 6) rfl (g := .data) (by simp) rfl
      have n8 : L 8 = false := closed_not hC n7 (i := 8) (j := 7) rfl (g := .data) (by simp) rfl
      have n10 : L 10 = false := closed_not hC n8 (i := 10) (j := 8) rfl (g := .data) (by simp) rfl
      have e87 := (eval_tmp a1 87).symm.trans (hS.get hBh (i := 6) rfl 5 (by simp) rfl rfl rfl)
      obtain rfl := hJ.n0 hl
      refine wpOp_call (f := 33) (args := #[.int .u8 ((sj : Nat) : Int)]) (R := fun u W2 => u = .string (nm sj) ∧ Below wr.heap.size wr W2) rfl rfl (by simp [execOp, resolve, invoke, e87, go_sem]) ((name_any sj hsj _).mono fun en W2 ⟨h1, h2⟩ => ⟨_, h1, rfl, ⟨h2.os, h2.tape, h2.output, h2.size, h2.block⟩⟩) ?_
      rintro u W2 ⟨rfl, hB2⟩
      exact hK _ _ (hS.put hon (i := 6) rfl rfl (fun u hu => by cases hu)) (hJ.call n7 n8 n10 (by decide) (by rw [hS.size]; exact (by decide : (88 : Nat) < 116)) hB2)
     ·have d6 : L 6 = true := hBh _ rfl ⟨6, .data⟩ (by simp) rfl
      have n8 : L 8 = false := closed_not hC hl (i := 8) (j := 7) rfl (g := .data) (by simp) rfl
      have n10 : L 10 = false := closed_not hC n8 (i := 10) (j := 8) rfl (g := .data) (by simp) rfl
      have e88 := (eval_tmp a1 88).symm.trans (hJ.n1 d6 hl).1
      refine wpOp_step rfl (fun K' hK' => ?_)
      go_simp
      exact hK' _ _ (hK _ _ (hS.put hon (i := 7) rfl rfl (fun u hu => by cases hu)) (hJ.lay d6 hl n8 n10 (by decide) (by rw [hS.size]; exact (by decide : (89 : Nat) < 116))))
     ·have d7 : L 7 = true := hBh _ rfl ⟨7, .data⟩ (by simp) rfl
      have d6 : L 6 = true := hBh _ rfl ⟨6, .chain⟩ (by simp) rfl
      have n10 : L 10 = false := closed_not hC hl (i := 10) (j := 8) rfl (g := .data) (by simp) rfl
      have e83 := (hS.get hBh (i := 8) rfl 1 (by simp) rfl rfl rfl)
      obtain ⟨g, hge2, hgb, hB2⟩ := hJ.n2 d7 hl
      obtain ⟨v2, W2, hrun, hTc⟩ := str_app hB2 hgb HROW.out hbsw hj6 63
      refine wpOp_run rfl rfl (v := v2) (w' := W2) ?_ (hK _ _ (hS.put hon (i := 8) rfl rfl (fun u hu => by cases hu)) (JS.app d6 d7 n10 (by decide) (by rw [hS.size]; exact (by decide : (90 : Nat) < 116)) hTc))
      simp [execOp, resolve, invoke, builtin, e83, hge2, hrun, Result.andThen]
     ·have e7 := (eval_tmp a1 7).symm.trans ((hS.kept 7 (by kernel_rfl)).trans rfl)
      refine wpOp_step rfl (fun K' hK' => ?_)
      go_simp
      exact hK' _ _ (hK _ _ (hS.put hon (i := 9) rfl rfl (fun u hu => by cases hu; rfl)) (hJ.pure (by decide) (by decide)))
     ·have d8 : L 8 = true := hBh _ rfl ⟨8, .data⟩ (by simp) rfl
      have d7 : L 7 = true := hBh _ rfl ⟨7, .phase⟩ (by simp) rfl
      have d6 : L 6 = true := hBh _ rfl ⟨6, .phase⟩ (by simp) rfl
      have e91 := (eval_tmp a1 91).symm.trans (hS.get hBh (i := 10) rfl 9 (by simp) rfl rfl rfl)
      have hTc := hJ.n3 d8 hl
      obtain ⟨v2, hv2⟩ : ∃ u, a1.eval (.tmp 90) = u := ⟨_, rfl⟩
      rw [hv2] at hTc
      have e90 := (eval_tmp a1 90).symm.trans hv2
      have hbxW := (hJ.old hl hgel (HVN.out)).trans HBX.out
      obtain ⟨ao2, cap2, rfl, _⟩ := row_shape hTc.row
      have hln2 : ((List.range j).map (fun i => nm ((xs4 + i) % 256)) ++ [nm sj]).length = j + 1 := by simp
      rw [hln2] at hTc e90
      have hfz : W.frozen? ⟨ge, 4, none⟩ = false := by simp [World.frozen?, hbxW]
      have hcc : W.cell? ⟨ge, 4, none⟩ = some vp := by simp [World.cell?, hbxW]
      have hgl : ge < W.heap.size := lt_of_block hbxW
      refine wpOp_step rfl (fun K' hK' => ?_)
      go_simp
      exact hK' _ _ (hK _ _ (hS.none (i := 10) rfl rfl) (JS.put d6 d7 d8 (by decide) (hTc.store HVP.out HBX.out hgbs rfl)))
    ·intro L a1 wz hl hS hJ
     obtain ⟨v, hTd⟩ := hJ.n4 (hl 10 (by decide))
     have hfr := hS.frame [82, 83, 84, 85, 86, 87, 88, 89, 90, 91] rfl
     refine (‹∀ (a : Act) (w : World), Code.wp Tryz.prog _ _ a w → _› a1 wz ?_)
     obtain ⟨zz, hz⟩ : ∃ z : Nat → Value, z = fun k => a1.eval (.tmp k) := ⟨_, rfl⟩
     rw [← hz] at hfr
     rw [hfr]
     clear hfr hz hS hJ hl
     simp only [over, List.setIfInBounds_toArray, List.set_cons_zero, List.set_cons_succ]
     have HR2 : Hid (wz.ownsRow W0.heap.size 9 1 v ((List.range (j + 1)).map fun i => nm ((xs4 + i) % 256)).length (strCs ((List.range (j + 1)).map fun i => nm ((xs4 + i) % 256)))) := by
      show World.ownsRow _ _ _ _ _ _ _
      have h := hTd.row
      rw [HSE.out] at h
      rw [show (List.range (j + 1)).map (fun i => nm ((xs4 + i) % 256)) = (List.range j).map (fun i => nm ((xs4 + i) % 256)) ++ [nm ((xs4 + j) % 256)] from by rw [List.range_succ]; simp]
      exact h
     have HB2 := Lib.hid hTd.box
     have HK2 : Hid (Kb ge ge W0 wz) := ⟨hTd.os.trans HKB.out.os, hTd.tape.trans HKB.out.tape, hTd.output.trans HKB.out.output, Nat.le_trans HKB.out.size hTd.size, fun k h1 h2 h3 => (hTd.keep k (by omega) h3 (fun e1 => by have := HVP.out k e1; omega)).trans (HKB.out.keep k h1 h2 h3)⟩
     clear hTd
     go_wp2_with fail
     go_roundw
     case rel => exact ⟨j + 1, v, by go_num, by omega, HB2, HR2, HK2⟩
     case measure => simp [intOf]; omega
   ·have hje : j = q3 := by omega
    subst hje
    have hln : ((List.range j).map fun i => nm ((xs4 + i) % 256)).length = j := by simp
    obtain ⟨ao, capr, hvs, hcr1, hcr2⟩ := row_shape HROW.out
    subst hvs
    rw [hln] at HBX
    have hxw := HXB.out
    have x2w : wr.cell? ⟨w1.heap.size, 2, none⟩ = some (.int .u16 (xn : Int)) := by simp [World.cell?, hxw]
    have hmk : MkAt wr mb xs.tail (left - 1) := HMI0.out.mkr.kept fun k hk => HKB.out.keep k (by omega) (by omega) (by omega)
    have HMK := Lib.hid hmk
    clear hxw hmk
    go_wp2_with fail
    refine (HST.out _ HMK.out).mono ?_
    rintro en W2 ⟨vb, rfl, m2, g2, sl2⟩
    have hb2 : W2.heap[ge]? = _ := (g2.block ge hgel (by simp; omega)).trans HBX.out
    have hfz : ∀ i, W2.frozen? ⟨ge, i, none⟩ = false := fun i => by simp [World.frozen?, hb2]
    have hc5 : W2.cell? ⟨ge, 5, none⟩ = some (.slice none 0 0) := by simp [World.cell?, hb2]
    have hgl2 : ge < W2.heap.size := lt_of_block hb2
    have HB2 := Lib.hid hb2
    have HM2 := Lib.hid m2
    have HG2 := Lib.hid g2
    have HSL2 := Lib.hid sl2
    obtain ⟨ba, bc, hvb, _⟩ := sl2
    subst hvb
    clear hb2 m2 g2
    go_wp2_with fail
    go_meet
    case rel =>
     have h1 := HG2.out.size
     have hoth : ∀ k, k ≠ ge → (W2.setCell ⟨ge, 5, none⟩ (.slice ba body.length bc)).heap[k]? = W2.heap[k]? := fun k hk => Below.heap_setCell _ _ _ _ hk
     have hsz : (W2.setCell ⟨ge, 5, none⟩ (.slice ba body.length bc)).heap.size = W2.heap.size := by simp [World.setCell]
     have hgw := HMI0.out.gr.size
     refine ⟨rfl, .slice ao j capr, .slice ba body.length bc, setF HB2.out, ?_, ?_, HM2.out.kept fun k hk => hoth k (by omega), ?_, ⟨?_, ?_, ?_, ?_, fun k hk hn => ?_⟩⟩
     ·rw [hln] at hcr1
      refine ⟨ao, capr, by rw [HPJ.out, hln], by rw [HPJ.out, hln]; exact hcr1, hcr2, fun hn => ?_⟩
      rw [HPJ.out] at hn ⊢
      obtain ⟨g, cap2, cur2, hv2, _, _, hbg, hblk⟩ := row_at HROW.out hn
      cases hv2
      have hgl3 := lt_of_block hblk
      refine ⟨g, 0, rfl, ⟨by omega, by rw [hsz]; omega⟩, ?_⟩
      have hcell : ∀ (q : Nat) (u : Value), (strCs ((List.range j).map fun i => nm ((xs4 + i) % 256)))[q]? = some u → (W2.setCell ⟨ge, 5, none⟩ (.slice ba body.length bc)).cell? ⟨g, 0 + q, none⟩ = some u := fun q u hq => by
       rw [cell_kept (hoth g (by omega)), cell_kept (HG2.out.block g hgl3 (by simp; omega))]
       exact row_cells HROW.out q u hq
      exact strAt_of hcell
     ·exact HSL2.out.imp (fun k hk => ⟨by have := hk.1; omega, by rw [hsz]; exact hk.2⟩) fun g o hg hA => SsAt.kept (fun k hk => ⟨⟨by have := hk.1; omega, by rw [hsz]; exact hk.2⟩, hoth k (by have := hk.1; omega)⟩) body hg hA
     ·rw [hoth g4 (by omega), HG2.out.block g4 (by omega) (by simp; omega), HKB.out.keep g4 (by omega) (by omega) (by omega)]
      exact HMI0.out.res
     ·exact HG2.out.os.trans (HKB.out.os.trans HMI0.out.gr.os)
     ·exact HG2.out.tape.trans (HKB.out.tape.trans HMI0.out.gr.tape)
     ·exact HG2.out.output.trans (HKB.out.output.trans HMI0.out.gr.output)
     ·rw [hsz]; omega
     ·rw [hoth k (by omega), HG2.out.block k (by omega) hn, HKB.out.keep k (by omega) (by omega) (by omega), HMI0.out.gr.block k hk hn]
 case rest =>
  obtain ⟨rfl, vn, vb, HMID⟩ := hcut
  go_wp2_with fail
  go_loopw [103] (fun i wr => i = .int .i64 0 ∧ wr = wc) (fun _ _ => 0)
  case atStart => exact ⟨rfl, rfl⟩
  case round =>
   obtain ⟨rfl, rfl⟩ := hrel
   have hmg : mb < ge := by omega
   have hgx : ge < wr.heap.size := lt_of_block HMID.out.box
   obtain ⟨na, nc, hvn, _⟩ := HMID.out.par
   subst hvn
   obtain ⟨ba, bc, hvb, _⟩ := HMID.out.bod
   subst hvb
   have hbx := HMID.out.box
   have q0 : wr.cell? ⟨ge, 0, none⟩ = some (.int .i64 (op : Int)) := by simp [World.cell?, hbx]
   have q1 : wr.cell? ⟨ge, 1, none⟩ = some (.int .i64 0) := by simp [World.cell?, hbx]
   have q2 : wr.cell? ⟨ge, 2, none⟩ = some (.string ⟨#[]⟩) := by simp [World.cell?, hbx]
   have q3 : wr.cell? ⟨ge, 3, none⟩ = some (.slice none 0 0) := by simp [World.cell?, hbx]
   have q4 : wr.cell? ⟨ge, 4, none⟩ = some (.slice na PR.length nc) := by simp [World.cell?, hbx]
   have q5 : wr.cell? ⟨ge, 5, none⟩ = some (.slice ba body.length bc) := by simp [World.cell?, hbx]
   have hr4 := HMID.out.res
   have hfz : ∀ i, wr.frozen? ⟨g4, i, none⟩ = false := fun i => by simp [World.frozen?, hr4]
   have r0 : wr.cell? ⟨g4, 0, none⟩ = some (.int .i64 0) := by simp [World.cell?, hr4]
   have r1 : wr.cell? ⟨g4, 1, none⟩ = some (.int .i64 0) := by simp [World.cell?, hr4]
   have r2 : wr.cell? ⟨g4, 2, none⟩ = some (.string ⟨#[]⟩) := by simp [World.cell?, hr4]
   have r3 : wr.cell? ⟨g4, 3, none⟩ = some (.slice none 0 0) := by simp [World.cell?, hr4]
   have r4 : wr.cell? ⟨g4, 4, none⟩ = some (.slice none 0 0) := by simp [World.cell?, hr4]
   have r5 : wr.cell? ⟨g4, 5, none⟩ = some (.slice none 0 0) := by simp [World.cell?, hr4]
   have hg4l : g4 < wr.heap.size := lt_of_block hr4
   have hgel : ge < wr.heap.size := hgx
   have HR4 := Lib.hid hr4
   clear hbx hr4
   go_wp2
   have hfin := fin_expr (W' := six6 wr g4 (.int .i64 (op : Int)) (.int .i64 0) (.string ⟨#[]⟩) (.slice none 0 0) (.slice na PR.length nc) (.slice ba body.length bc)) (es := []) HMID.out (World.ownsRow_nil _ _ _ _) (show EsC _ _ [] [] from rfl) rfl HMID.out.mkr (Kb.refl _ _ _) (fun k hk => six6_other hk) six6_size six6_os six6_tape six6_output hg40 (Nat.le_of_eq HG4.out.symm) (by omega) hop17 ⟨by decide, by decide⟩
   obtain ⟨t0, t1, t2, t3, t4, t5⟩ := six6_cell (a := .int .i64 (op : Int)) (b := .int .i64 0) (c := .string ⟨#[]⟩) (d := .slice none 0 0) (e := .slice na PR.length nc) (f := .slice ba body.length bc) HR4.out
   obtain ⟨W', hW'⟩ : ∃ W', six6 wr g4 (.int .i64 (op : Int)) (.int .i64 0) (.string ⟨#[]⟩) (.slice none 0 0) (.slice na PR.length nc) (.slice ba body.length bc) = W' := ⟨_, rfl⟩
   rw [hW'] at hfin t0 t1 t2 t3 t4 t5
   unfold six6 at hW'
   rw [hW']
   clear hW' r0 r1 r2 r3 r4 r5 q0 q1 q2 q3 q4 q5
   obtain ⟨f1, f2, f3⟩ := hfin
   have HF3 := Lib.hid f3
   clear f3
   refine bodyPost_ret (v := exV (.mk op 0 ⟨#[]⟩ [] PR body) (.slice none 0 0) (.slice na PR.length nc) (.slice ba body.length bc)) (by simp [results, Tryz.results74, go_sem, exV, t0, t1, t2, t3, t4, t5]) rfl ⟨_, _, _, rfl, f1, f2, HF3.out⟩
end Go.Proofs.YtpboencfnjmmbaaGreatDoor

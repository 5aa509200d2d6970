/-
 The laws' text of an instruction; the law CodeTexts.
 Conditions: as each theorem says (the library's variables and the project's tables as they are laid).
-/
import Derived.Test.YtenfphbhofibjaaGreatDoorZAw9
import Derived.Lib.SlBytesConst
set_option maxRecDepth 100000
set_option maxHeartbeats 4000000
set_option linter.unusedVariables false
set_option linter.unusedSimpArgs false
namespace Go.Proofs.YtenfphbhofibjaaGreatDoor
open Go.RowKit LM TM PM
def opBs : List ByteArray := opT.map fun s => ⟨s.toArray⟩
structure Lt (w : World) : Prop where
 lz : Lz w
 r : RowVar 2 opBs w
theorem Lt.below {w w' : World} (h : Lt w) (hb : Below w.heap.size w w') : Lt w' := ⟨h.lz.below hb, h.r.below hb⟩
theorem itoa_run {n : Int} (hn : InZ n) {W : World} (ht : Lib.TabIs Tryz.prog W "internal/strconv.uint64pow10" .u64 Lib.pow10Tab) : Calls Tryz.prog 44 #[.int .i64 n] W fun e w' => e = .returned (.string ⟨(Lib.itoa n).toArray⟩) ∧ Below W.heap.size W w' := by
 refine (Tryz.strconv_Itoa n hn.1 hn.2 W ht).mono ?_
 rintro e w' ⟨rfl, k, os, rfl⟩
 exact ⟨rfl, Lib.below_grow W.heap.size W (Nat.le_refl _) k os⟩
theorem ins_text {op : Nat} {a b c : Int} (h : op < 22) : (opB op) ++ ⟨#[32]⟩ ++ ⟨(Lib.itoa a).toArray⟩ ++ ⟨#[32]⟩ ++ ⟨(Lib.itoa b).toArray⟩ ++ ⟨#[32]⟩ ++ ⟨(Lib.itoa c).toArray⟩ = (⟨(insT op a b c).toArray⟩ : ByteArray) := by
 have key : ∀ x y : ByteArray, x.data.toList = y.data.toList → x = y := fun x y h => by cases x; cases y; congr 1; exact Array.toList_inj.1 h
 apply key
 simp [insT, h, numsT, opB]
theorem insLaw_any {op : Nat} {a b c : Int} (w : World) (hL : Lt w) (hop : op < 256) (ha : InZ a) (hb : InZ b) (hc : InZ c) :
 Calls Tryz.prog 43 #[.agg #[.int .u8 (op : Int), .int .i64 a, .int .i64 b, .int .i64 c]] w fun e w' => e = .returned (.string ⟨(insT op a b c).toArray⟩) ∧ Below w.heap.size w w' := by
 have HL := Lib.hid hL
 have HBA : Hid (∀ o, Below w.heap.size w (w.alloc o)) := fun o => (Below.refl _ _).alloc (Nat.le_refl _) o
 obtain ⟨hgv0, g, o, cap, hv0, hc1, hc2, hgg0, hst⟩ := hL.r
 clear hL
 by_cases h22 : op < 22
 ·have hge : ¬ ((22 : Int) ≤ (op : Int)) := by omega
  have HTX : Hid ((opB op) ++ ⟨#[32]⟩ ++ ⟨(Lib.itoa a).toArray⟩ ++ ⟨#[32]⟩ ++ ⟨(Lib.itoa b).toArray⟩ ++ ⟨#[32]⟩ ++ ⟨(Lib.itoa c).toArray⟩ = (⟨(insT op a b c).toArray⟩ : ByteArray)) := ins_text h22
  have hcw0 : w.cell? ⟨g, o + op, none⟩ = some (.string (opB op)) := by
   refine hst.get (j := op) ?_
   rw [show opBs[op]? = (opT[op]?).map fun s => ⟨s.toArray⟩ from List.getElem?_map .., opB, List.getD_eq_getElem?_getD, List.getElem?_eq_getElem (by exact h22)]
   rfl
  have hv00 : w.cell? ⟨2, 0, none⟩ = some (.slice (some ⟨g, o, none⟩) 22 cap) := hv0
  have hw0 : ∀ q, (w.alloc q).cell? ⟨2, 0, none⟩ = some (.slice (some ⟨g, o, none⟩) 22 cap) := fun q => (cell_kept (Below.heap_alloc _ _ _ hgv0)).trans hv00
  clear hst hv0
  go_enter Tryz.func43, Tryz.ntmps43
  go_wp2_with fail
  obtain ⟨w1, hw1⟩ : ∃ w1, w1 = w.alloc (.cells #[.int .u8 (op : Int), .int .i64 a, .int .i64 b, .int .i64 c] 66) := ⟨_, rfl⟩
  obtain ⟨gb, hgb⟩ : ∃ gb, gb = w.heap.size := ⟨_, rfl⟩
  have HBX : Hid (w1.heap[gb]? = some (.cells #[.int .u8 (op : Int), .int .i64 a, .int .i64 b, .int .i64 c] 66 (0, 0))) := by rw [hw1, hgb]; exact heap_alloc_new _ _
  have HBW : Hid (Below w.heap.size w w1) := by rw [hw1]; exact HBA.out _
  have hgl : gb < w1.heap.size := lt_of_block HBX.out
  have hgv : 2 < w1.heap.size := Nat.lt_of_lt_of_le hgv0 HBW.out.size
  have hgg : g < w1.heap.size := Nat.lt_of_lt_of_le hgg0 HBW.out.size
  have hv : w1.cell? ⟨2, 0, none⟩ = some (.slice (some ⟨g, o, none⟩) 22 cap) := (cell_kept (HBW.out.block _ hgv0)).trans hv00
  have hcw : w1.cell? ⟨g, o + op, none⟩ = some (.string (opB op)) := (cell_kept (HBW.out.block _ hgg0)).trans hcw0
  have HIa : Hid (∀ W, Below w1.heap.size w1 W → Calls Tryz.prog 44 #[.int .i64 a] W fun e w' => e = .returned (.string ⟨(Lib.itoa a).toArray⟩) ∧ Below W.heap.size W w') := fun W hW => itoa_run ha (HL.out.lz.c.tab W (HBW.out.trans (hW.mono HBW.out.size)))
  have HIb : Hid (∀ W, Below w1.heap.size w1 W → Calls Tryz.prog 44 #[.int .i64 b] W fun e w' => e = .returned (.string ⟨(Lib.itoa b).toArray⟩) ∧ Below W.heap.size W w') := fun W hW => itoa_run hb (HL.out.lz.c.tab W (HBW.out.trans (hW.mono HBW.out.size)))
  have HIc : Hid (∀ W, Below w1.heap.size w1 W → Calls Tryz.prog 44 #[.int .i64 c] W fun e w' => e = .returned (.string ⟨(Lib.itoa c).toArray⟩) ∧ Below W.heap.size W w') := fun W hW => itoa_run hc (HL.out.lz.c.tab W (HBW.out.trans (hW.mono HBW.out.size)))
  rw [← hw1, ← hgb]
  clear hw1 hgb hv00 hcw0 hw0
  have hsa : (⟨(Lib.itoa a).toArray⟩ : ByteArray).size ≤ 21 := by show (Lib.itoa a).toArray.size ≤ 21; rw [List.size_toArray]; exact itoa_len a ha.1 ha.2
  have hsb : (⟨(Lib.itoa b).toArray⟩ : ByteArray).size ≤ 21 := by show (Lib.itoa b).toArray.size ≤ 21; rw [List.size_toArray]; exact itoa_len b hb.1 hb.2
  have hsc : (⟨(Lib.itoa c).toArray⟩ : ByteArray).size ≤ 21 := by show (Lib.itoa c).toArray.size ≤ 21; rw [List.size_toArray]; exact itoa_len c hc.1 hc.2
  have hsw : (opB op).size ≤ 6 := by
   have : ∀ i, i < 22 → (opB i).size ≤ 6 := by decide
   exact this op h22
  generalize (⟨(Lib.itoa a).toArray⟩ : ByteArray) = ia at HIa HTX hsa
  generalize (⟨(Lib.itoa b).toArray⟩ : ByteArray) = ib at HIb HTX hsb
  generalize (⟨(Lib.itoa c).toArray⟩ : ByteArray) = ic at HIc HTX hsc
  generalize opB op = wd at hcw HTX hsw
  refine region_sh (fun | 0 => some (.slice (some ⟨g, o, none⟩) 22 cap) | 1 => some (.pointer (some ⟨gb, 0, none⟩)) | 2 => some (.int .u8 (op : Int)) | 3 => some (.pointer (some ⟨g, o + op, none⟩)) | 4 => some (.string wd) | 5 => some (.string (wd ++ ⟨#[32]⟩)) | 6 => some (.pointer (some ⟨gb, 1, none⟩)) | 7 => some (.int .i64 a) | 8 => some (.string ia) | 9 => some (.string (wd ++ ⟨#[32]⟩ ++ ia)) | 10 => some (.string (wd ++ ⟨#[32]⟩ ++ ia ++ ⟨#[32]⟩)) | 11 => some (.pointer (some ⟨gb, 2, none⟩)) | 12 => some (.int .i64 b) | 13 => some (.string ib) | 14 => some (.string (wd ++ ⟨#[32]⟩ ++ ia ++ ⟨#[32]⟩ ++ ib)) | 15 => some (.string (wd ++ ⟨#[32]⟩ ++ ia ++ ⟨#[32]⟩ ++ ib ++ ⟨#[32]⟩)) | 16 => some (.pointer (some ⟨gb, 3, none⟩)) | 17 => some (.int .i64 c) | 18 => some (.string ic) | 19 => some (.string (wd ++ ⟨#[32]⟩ ++ ia ++ ⟨#[32]⟩ ++ ib ++ ⟨#[32]⟩ ++ ic)) | 20 => some (.string (wd ++ ⟨#[32]⟩ ++ ia ++ ⟨#[32]⟩ ++ ib ++ ⟨#[32]⟩ ++ ic)) | _ => none) (fun _ _ W => Below w1.heap.size w1 W) (by kernel_rfl) (by kernel_rfl) (by kernel_rfl) ((Below.refl _ _).drew) ?_ ?_
  ·intro hon q hq L a1 W hC hl hBh hS hJ K hK
   have hqn : q < 21 := hq
   clear hq
   rcases (show q = 0 ∨ q = 1 ∨ q = 2 ∨ q = 3 ∨ q = 4 ∨ q = 5 ∨ q = 6 ∨ q = 7 ∨ q = 8 ∨ q = 9 ∨ q = 10 ∨ q = 11 ∨ q = 12 ∨ q = 13 ∨ q = 14 ∨ q = 15 ∨ q = 16 ∨ q = 17 ∨ q = 18 ∨ q = 19 ∨ q = 20 from by omega) with rfl | rfl | rfl | rfl | rfl | rfl | rfl | rfl | rfl | rfl | rfl | rfl | rfl | rfl | rfl | rfl | rfl | rfl | rfl | rfl | rfl
   ·have hcl : W.cell? ⟨2, 0, none⟩ = some (.slice (some ⟨g, o, none⟩) 22 cap) := (cell_kept (hJ.block _ hgv)).trans hv
    refine wpOp_step rfl (fun K' hK' => ?_)
    go_simp
    exact hK' _ _ (hK _ _ (hS.put hon (i := 0) rfl rfl (fun u hu => by cases hu; rfl)) hJ)
   ·have e1 := (eval_tmp a1 1).symm.trans ((hS.kept 1 (by kernel_rfl)).trans rfl)
    refine wpOp_step rfl (fun K' hK' => ?_)
    go_simp
    exact hK' _ _ (hK _ _ (hS.put hon (i := 1) rfl rfl (fun u hu => by cases hu; rfl)) hJ)
   ·have e10 := (eval_tmp a1 10).symm.trans (hS.get hBh (i := 2) rfl 1 (by simp) rfl rfl rfl)
    have hbx : W.heap[gb]? = _ := (hJ.block gb hgl).trans HBX.out
    have hcl : W.cell? ⟨gb, 0, none⟩ = some (.int .u8 (op : Int)) := by simp [World.cell?, hbx]
    refine wpOp_step rfl (fun K' hK' => ?_)
    go_simp
    exact hK' _ _ (hK _ _ (hS.put hon (i := 2) rfl rfl (fun u hu => by cases hu; rfl)) hJ)
   ·have e9 := (eval_tmp a1 9).symm.trans (hS.get hBh (i := 3) rfl 0 (by simp) rfl rfl rfl)
    have e11 := (eval_tmp a1 11).symm.trans (hS.get hBh (i := 3) rfl 2 (by simp) rfl rfl rfl)
    have hidx : 0 ≤ (op : Int) ∧ (op : Int) < 22 := ⟨by omega, by omega⟩
    refine wpOp_step rfl (fun K' hK' => ?_)
    go_simp
    exact hK' _ _ (hK _ _ (hS.put hon (i := 3) rfl rfl (fun u hu => by cases hu; rfl)) hJ)
   ·have e12 := (eval_tmp a1 12).symm.trans (hS.get hBh (i := 4) rfl 3 (by simp) rfl rfl rfl)
    have hcl : W.cell? ⟨g, o + op, none⟩ = some (.string wd) := (cell_kept (hJ.block _ hgg)).trans hcw
    refine wpOp_step rfl (fun K' hK' => ?_)
    go_simp
    exact hK' _ _ (hK _ _ (hS.put hon (i := 4) rfl rfl (fun u hu => by cases hu; rfl)) hJ)
   ·have e13 := (eval_tmp a1 13).symm.trans (hS.get hBh (i := 5) rfl 4 (by simp) rfl rfl rfl)
    refine wpOp_step rfl (fun K' hK' => ?_)
    go_simp
    rw [if_neg (by omega)]
    exact hK' _ _ (hK _ _ (hS.put hon (i := 5) rfl rfl (fun u hu => by cases hu; rfl)) hJ)
   ·have e1 := (eval_tmp a1 1).symm.trans ((hS.kept 1 (by kernel_rfl)).trans rfl)
    refine wpOp_step rfl (fun K' hK' => ?_)
    go_simp
    exact hK' _ _ (hK _ _ (hS.put hon (i := 6) rfl rfl (fun u hu => by cases hu; rfl)) hJ)
   ·have e15 := (eval_tmp a1 15).symm.trans (hS.get hBh (i := 7) rfl 6 (by simp) rfl rfl rfl)
    have hbx : W.heap[gb]? = _ := (hJ.block gb hgl).trans HBX.out
    have hcl : W.cell? ⟨gb, 1, none⟩ = some (.int .i64 a) := by simp [World.cell?, hbx]
    refine wpOp_step rfl (fun K' hK' => ?_)
    go_simp
    exact hK' _ _ (hK _ _ (hS.put hon (i := 7) rfl rfl (fun u hu => by cases hu; rfl)) hJ)
   ·have e16 := (eval_tmp a1 16).symm.trans (hS.get hBh (i := 8) rfl 7 (by simp) rfl rfl rfl)
    refine wpOp_call (f := 44) (args := #[.int .i64 a]) (R := fun u W2 => u = .string ia ∧ Below W.heap.size W W2) rfl rfl (by simp [execOp, resolve, invoke, e16, go_sem]) (((HIa).out W hJ).mono fun e W2 ⟨h1, h2⟩ => ⟨_, h1, rfl, h2⟩) ?_
    rintro u W2 ⟨rfl, r2⟩
    exact hK _ _ (hS.put hon (i := 8) rfl rfl (fun u hu => by cases hu; rfl)) (hJ.trans (r2.mono hJ.size))
   ·have e14 := (eval_tmp a1 14).symm.trans (hS.get hBh (i := 9) rfl 5 (by simp) rfl rfl rfl)
    have e17 := (eval_tmp a1 17).symm.trans (hS.get hBh (i := 9) rfl 8 (by simp) rfl rfl rfl)
    refine wpOp_step rfl (fun K' hK' => ?_)
    go_simp
    rw [if_neg (by omega)]
    exact hK' _ _ (hK _ _ (hS.put hon (i := 9) rfl rfl (fun u hu => by cases hu; rfl)) hJ)
   ·have e18 := (eval_tmp a1 18).symm.trans (hS.get hBh (i := 10) rfl 9 (by simp) rfl rfl rfl)
    refine wpOp_step rfl (fun K' hK' => ?_)
    go_simp
    rw [if_neg (by omega)]
    exact hK' _ _ (hK _ _ (hS.put hon (i := 10) rfl rfl (fun u hu => by cases hu; rfl)) hJ)
   ·have e1 := (eval_tmp a1 1).symm.trans ((hS.kept 1 (by kernel_rfl)).trans rfl)
    refine wpOp_step rfl (fun K' hK' => ?_)
    go_simp
    exact hK' _ _ (hK _ _ (hS.put hon (i := 11) rfl rfl (fun u hu => by cases hu; rfl)) hJ)
   ·have e20 := (eval_tmp a1 20).symm.trans (hS.get hBh (i := 12) rfl 11 (by simp) rfl rfl rfl)
    have hbx : W.heap[gb]? = _ := (hJ.block gb hgl).trans HBX.out
    have hcl : W.cell? ⟨gb, 2, none⟩ = some (.int .i64 b) := by simp [World.cell?, hbx]
    refine wpOp_step rfl (fun K' hK' => ?_)
    go_simp
    exact hK' _ _ (hK _ _ (hS.put hon (i := 12) rfl rfl (fun u hu => by cases hu; rfl)) hJ)
   ·have e21 := (eval_tmp a1 21).symm.trans (hS.get hBh (i := 13) rfl 12 (by simp) rfl rfl rfl)
    refine wpOp_call (f := 44) (args := #[.int .i64 b]) (R := fun u W2 => u = .string ib ∧ Below W.heap.size W W2) rfl rfl (by simp [execOp, resolve, invoke, e21, go_sem]) (((HIb).out W hJ).mono fun e W2 ⟨h1, h2⟩ => ⟨_, h1, rfl, h2⟩) ?_
    rintro u W2 ⟨rfl, r2⟩
    exact hK _ _ (hS.put hon (i := 13) rfl rfl (fun u hu => by cases hu; rfl)) (hJ.trans (r2.mono hJ.size))
   ·have e19 := (eval_tmp a1 19).symm.trans (hS.get hBh (i := 14) rfl 10 (by simp) rfl rfl rfl)
    have e22 := (eval_tmp a1 22).symm.trans (hS.get hBh (i := 14) rfl 13 (by simp) rfl rfl rfl)
    refine wpOp_step rfl (fun K' hK' => ?_)
    go_simp
    rw [if_neg (by omega)]
    exact hK' _ _ (hK _ _ (hS.put hon (i := 14) rfl rfl (fun u hu => by cases hu; rfl)) hJ)
   ·have e23 := (eval_tmp a1 23).symm.trans (hS.get hBh (i := 15) rfl 14 (by simp) rfl rfl rfl)
    refine wpOp_step rfl (fun K' hK' => ?_)
    go_simp
    rw [if_neg (by omega)]
    exact hK' _ _ (hK _ _ (hS.put hon (i := 15) rfl rfl (fun u hu => by cases hu; rfl)) hJ)
   ·have e1 := (eval_tmp a1 1).symm.trans ((hS.kept 1 (by kernel_rfl)).trans rfl)
    refine wpOp_step rfl (fun K' hK' => ?_)
    go_simp
    exact hK' _ _ (hK _ _ (hS.put hon (i := 16) rfl rfl (fun u hu => by cases hu; rfl)) hJ)
   ·have e25 := (eval_tmp a1 25).symm.trans (hS.get hBh (i := 17) rfl 16 (by simp) rfl rfl rfl)
    have hbx : W.heap[gb]? = _ := (hJ.block gb hgl).trans HBX.out
    have hcl : W.cell? ⟨gb, 3, none⟩ = some (.int .i64 c) := by simp [World.cell?, hbx]
    refine wpOp_step rfl (fun K' hK' => ?_)
    go_simp
    exact hK' _ _ (hK _ _ (hS.put hon (i := 17) rfl rfl (fun u hu => by cases hu; rfl)) hJ)
   ·have e26 := (eval_tmp a1 26).symm.trans (hS.get hBh (i := 18) rfl 17 (by simp) rfl rfl rfl)
    refine wpOp_call (f := 44) (args := #[.int .i64 c]) (R := fun u W2 => u = .string ic ∧ Below W.heap.size W W2) rfl rfl (by simp [execOp, resolve, invoke, e26, go_sem]) (((HIc).out W hJ).mono fun e W2 ⟨h1, h2⟩ => ⟨_, h1, rfl, h2⟩) ?_
    rintro u W2 ⟨rfl, r2⟩
    exact hK _ _ (hS.put hon (i := 18) rfl rfl (fun u hu => by cases hu; rfl)) (hJ.trans (r2.mono hJ.size))
   ·have e24 := (eval_tmp a1 24).symm.trans (hS.get hBh (i := 19) rfl 15 (by simp) rfl rfl rfl)
    have e27 := (eval_tmp a1 27).symm.trans (hS.get hBh (i := 19) rfl 18 (by simp) rfl rfl rfl)
    refine wpOp_step rfl (fun K' hK' => ?_)
    go_simp
    rw [if_neg (by omega)]
    exact hK' _ _ (hK _ _ (hS.put hon (i := 19) rfl rfl (fun u hu => by cases hu; rfl)) hJ)
   ·have e28 := (eval_tmp a1 28).symm.trans (hS.get hBh (i := 20) rfl 19 (by simp) rfl rfl rfl)
    refine wpOp_step rfl (fun K' hK' => ?_)
    go_simp
    exact hK' _ _ (hK _ _ (hS.put hon (i := 20) rfl rfl (fun u hu => by cases hu; rfl)) hJ)
  ·intro L a1 wz hl hS hJ
   have hfr := hS.frame [9, 10, 11, 12, 13, 14, 15, 16, 17, 18, 19, 20, 21, 22, 23, 24, 25, 26, 27, 28, 2] rfl
   obtain ⟨zz, hz⟩ : ∃ z : Nat → Value, z = fun k => a1.eval (.tmp k) := ⟨_, rfl⟩
   rw [← hz] at hfr
   have z2 : zz 2 = .string (wd ++ ⟨#[32]⟩ ++ ia ++ ⟨#[32]⟩ ++ ib ++ ⟨#[32]⟩ ++ ic) := by rw [hz]; exact hS.val 20 _ 2 _ rfl rfl rfl (hl 20 (by decide))
   refine (‹∀ (a : Act) (w : World), Code.wp Tryz.prog _ _ a w → _› a1 wz ?_)
   rw [hfr]
   have HBZ2 : Hid (Below w.heap.size w wz) := HBW.out.trans (hJ.mono HBW.out.size)
   clear hfr hz hS hJ hl
   simp only [over, List.setIfInBounds_toArray, List.set_cons_zero, List.set_cons_succ, z2]
   clear z2
   go_wp2
   go_ret
   exact ⟨congrArg (fun t => Ending.returned (.string t)) HTX.out, HBZ2.out⟩
 ·have hge : (22 : Int) ≤ (op : Int) := by omega
  have hI : insT op a b c = [63] := by unfold insT; rw [if_neg h22]
  rw [hI]
  have hw0 : ∀ q, (w.alloc q).cell? ⟨2, 0, none⟩ = some (.slice (some ⟨g, o, none⟩) 22 cap) := fun q => (cell_kept (Below.heap_alloc _ _ _ hgv0)).trans hv0
  clear hst hv0 hI
  go_enter Tryz.func43, Tryz.ntmps43
  go_wp2
  go_ret
  exact ⟨rfl, HBA.out _⟩
end Go.Proofs.YtenfphbhofibjaaGreatDoor
namespace Go.Proofs.YtenfphbhofibjaaGreatDoor
open Go.RowKit LM TM PM
structure Ins where
 op : Nat
 a : Int
 b : Int
 c : Int
def Ins.ok (x : Ins) : Prop := x.op < 256 ∧ InZ x.a ∧ InZ x.b ∧ InZ x.c
def Ins.t (x : Ins) : Bs := insT x.op x.a x.b x.c
def IAt (w : World) (g o : Nat) (xs : List Ins) : Prop := ∀ j x, xs[j]? = some x → w.cell? ⟨g, o + j * 4, none⟩ = some (.int .u8 (x.op : Int)) ∧ w.cell? ⟨g, o + j * 4 + 1, none⟩ = some (.int .i64 x.a) ∧ w.cell? ⟨g, o + j * 4 + 2, none⟩ = some (.int .i64 x.b) ∧ w.cell? ⟨g, o + j * 4 + 3, none⟩ = some (.int .i64 x.c)
theorem IAt.kept {w w' : World} {g o : Nat} {xs : List Ins} (h : IAt w g o xs) (hg : w'.heap[g]? = w.heap[g]?) : IAt w' g o xs := fun j x hj => by
 obtain ⟨h1, h2, h3, h4⟩ := h j x hj
 exact ⟨(cell_kept hg).trans h1, (cell_kept hg).trans h2, (cell_kept hg).trans h3, (cell_kept hg).trans h4⟩
def ISl (w : World) (v : Value) (xs : List Ins) : Prop := ∃ ad cap, v = .slice ad xs.length cap ∧ xs.length ≤ cap ∧ cap ≤ maxLen ∧ (0 < xs.length → ∃ g o, ad = some ⟨g, o, none⟩ ∧ g < w.heap.size ∧ IAt w g o xs)
theorem ISl.up {w w' : World} {v : Value} {xs : List Ins} (h : ISl w v xs) (hb : Below w.heap.size w w') : ISl w' v xs := by
 obtain ⟨ad, cap, h1, h2, h3, h4⟩ := h
 refine ⟨ad, cap, h1, h2, h3, fun hn => ?_⟩
 obtain ⟨g, o, e1, e2, e3⟩ := h4 hn
 exact ⟨g, o, e1, Nat.lt_of_lt_of_le e2 hb.size, e3.kept (hb.block g e2)⟩
def linesT (xs : List Ins) : Bs := xs.flatMap fun x => x.t ++ [10]
def headT (p h r : Int) : Bs := [102, 110] ++ numsT [p, h, r] ++ [10]
theorem linesT_take {l : List Ins} {k : Nat} {x : Ins} (h : l[k]? = some x) : linesT (l.take (k + 1)) = linesT (l.take k) ++ x.t ++ [10] := by
 unfold linesT
 rw [List.take_add_one, h]
 simp
theorem insT_len (x : Ins) (h : x.ok) : x.t.length ≤ 72 := by
 unfold Ins.t insT
 obtain ⟨h0, h1, h2, h3⟩ := h
 split
 ·have := numsT_len [x.a, x.b, x.c] (fun n hn => by
   rcases List.mem_cons.1 hn with h | hn
   ·exact h ▸ h1
   rcases List.mem_cons.1 hn with h | hn
   ·exact h ▸ h2
   rcases List.mem_cons.1 hn with h | hn
   ·exact h ▸ h3
   ·cases hn)
  have ho : ∀ i, i < 22 → (opT.getD i []).length ≤ 6 := by decide
  have := ho x.op (by assumption)
  simp only [List.length_append, List.length_cons, List.length_nil] at *
  omega
 ·simp
theorem linesT_len : ∀ (l : List Ins), (∀ x ∈ l, x.ok) → (linesT l).length ≤ 73 * l.length
 | [], _ => by simp [linesT]
 | x :: l, h => by
  have h1 := insT_len x (h x (by simp))
  have h2 := linesT_len l (fun m hm => h m (by simp [hm]))
  unfold linesT at h2 ⊢
  simp only [List.flatMap_cons, List.length_append, List.length_cons, List.length_nil]
  omega
theorem bt_mono {B B2 : Nat} {w : World} {v : Value} {l : Bs} (h : Bt B2 w v l) (hB : B ≤ B2) : Bt B w v l := ⟨h.1, h.2.imp_right fun ⟨g, cap, cur, e, hb, r⟩ => ⟨g, cap, cur, e, Nat.le_trans hB hb, r⟩⟩
theorem run_app_full {P : Program} {w : World} (hP : P = Tryz.prog) {g0 : Nat} {cs0 : Array Value} {fz0 : Nat × Nat} (hg0 : w.heap[g0]? = some (.cells cs0 5 fz0)) (l : Bs) (hc0 : cs0.toList = Lib.byteCells l) (m : Bs) {cs : Array Value} {g n c : Nat} (hcs : cs.toList = Lib.byteCells m) {fz : Nat × Nat} (hg : w.heap[g]? = some (.cells cs 5 fz)) (hn : n = m.length) (hm : 0 < m.length) (hl : l.length + m.length ≤ 1000000000000) (ty : TypeId) :
 ∃ v' w', (Builtin.append_ #[47, 47] ty #[.slice (some ⟨g0, 0, none⟩) l.length l.length, .slice (some ⟨g, 0, none⟩) n c]).run P w = .ok v' w' ∧ Bt w.heap.size w' v' (l ++ m) ∧ Below w.heap.size w w' := by
 subst hP
 subst hn
 obtain ⟨i0, hi, hz0, hz1, hz2⟩ := info_parts infoU8
 have look : ∀ {g : Nat} {cs : Array Value} {fz : Nat × Nat} {l : Bs}, w.heap[g]? = some (.cells cs 5 fz) → cs.toList = Lib.byteCells l → ∀ (j : Nat) (v : Value), (Lib.byteCells l)[j]? = some v → w.cell? ((⟨g, 0, none⟩ : Addr).add j) = some v := by
  intro g cs fz l hg hcs j u hj
  rw [← hcs, Array.getElem?_toList] at hj
  by_cases h0 : j = 0
  ·subst h0; simp [Addr.add, World.cell?, hg, hj]
  ·simp [Addr.add, World.cell?, h0, hg, hj]
 have hr := run_append_grow (P := Tryz.prog) w 47 ty 5 i0 (.int .u8 0) Tryz.underlying47 hi hz0 ⟨g0, 0, none⟩ l.length l.length (Lib.byteCells l) (by simp [Lib.byteCells, hz1]) (look hg0 hc0) ⟨g, 0, none⟩ m.length c (Lib.byteCells m) (by simp [Lib.byteCells, hz1]) (look hg hcs) (by omega) (by omega) (growslice_fits (by omega) (by rw [hz2]; omega))
 have hge := grownCap_ge w (l.length + m.length) l.length 5
 have hcm : grownCap w (l.length + m.length) l.length 5 ≤ maxLen := grownCap_le_maxLen w _ _ 5 (by unfold maxLen; omega)
 have hbl : ∀ x : Bs, (Lib.byteCells x).length = x.length := fun x => by simp [Lib.byteCells]
 refine ⟨_, _, hr, ?_, (Below.refl _ _).drew.alloc (Nat.le_refl _) _⟩
 unfold Bt
 rw [List.length_append, show Lib.byteCells (l ++ m) = Lib.byteCells l ++ Lib.byteCells m from by simp [Lib.byteCells]]
 refine ⟨by simp [hbl], .inr ⟨w.heap.size, _, _, rfl, Nat.le_refl _, heap_alloc_new w.drew _, hge, hcm, ?_, ?_⟩⟩
 ·simp only [Array.size_append, List.size_toArray, size_zeroCells, hbl]
  show l.length + m.length + (grownCap w (l.length + m.length) l.length 5 - (l.length + m.length)) * 1 = _
  omega
 ·simp only [Array.toList_append, List.append_assoc]
  rw [← List.append_assoc, show (l.length + m.length) * 1 = (Lib.byteCells l ++ Lib.byteCells m).length from by simp [hbl]]
  exact List.take_left
theorem wpList_app_full {ops : Array Oper} {rest : List Oper} {o : Oper} {a : Act} {w : World} {Q : Exit → Act → World → Prop} (hgd : o.guard = none) (s x : Operand) (ho : o.op = .call { callee := .builtin .append, args := #[s, x], argTypes := #[47, 47] })
 {g0 : Nat} {cs0 : Array Value} {fz0 : Nat × Nat} (hg0 : w.heap[g0]? = some (.cells cs0 5 fz0)) (l : Bs) (hc0 : cs0.toList = Lib.byteCells l) (hs : a.eval s = .slice (some ⟨g0, 0, none⟩) l.length l.length)
 (m : Bs) {cs : Array Value} {n c : Nat} (hx : a.eval x = .slice (some ⟨w.heap.size, 0, none⟩) n c) (hcs : cs.toList = Lib.byteCells m) (hn : n = m.length) (hm : 0 < m.length) (hl : l.length + m.length ≤ 1000000000000)
 (hK : ∀ v' w', Bt w.heap.size w' v' (l ++ m) → Below w.heap.size w w' → wpList Tryz.prog ops Q rest (a.put o.dst v') w') :
 wpList Tryz.prog ops Q (o :: rest) a (w.alloc (.cells cs 5)) := by
 refine wpList_plain hgd fun K' hK' => ?_
 obtain ⟨v', w', hr, r1, r2⟩ := run_app_full (P := Tryz.prog) rfl ((Below.heap_alloc w (.cells cs 5) g0 (lt_of_block hg0)).trans hg0) l hc0 m (c := c) hcs (heap_alloc_new w (.cells cs 5)) hn hm hl o.type
 unfold Oper.wp execOp
 simp only [ho, resolve, invoke, builtin, Sem.run_bind, Sem.run_pure, Result.andThen_ok, List.map_toArray, List.map_cons, List.map_nil, hs, hx, hr]
 exact hK' _ _ (hK v' w' (bt_mono r1 (by simp)) (((Below.refl _ _).alloc (Nat.le_refl _) _).trans (r2.mono (by simp))))
theorem addNums_lit {w : World} {g0 : Nat} {cs0 : Array Value} {fz0 : Nat × Nat} (hg0 : w.heap[g0]? = some (.cells cs0 5 fz0)) (x : Bs) (hc0 : cs0.toList = Lib.byteCells x) (l : List Int) (h0 : 0 < l.length) {g c : Nat} {fz : Nat × Nat} {cs : Array Value} (hl : l.length ≤ 1000) (hr : ∀ n ∈ l, -9223372036854775808 ≤ n ∧ n ≤ 9223372036854775807)
 (hg : w.heap[g]? = some (.cells cs 3 fz)) (hcs : ∀ (k : Nat) (n : Int), l[k]? = some n → cs[k]? = some (.int .i64 n)) (hx : x.length ≤ 10000000)
 (htab : Lib.TabBelow Tryz.prog w.heap.size w "internal/strconv.uint64pow10" .u64 Lib.pow10Tab) :
 Calls Tryz.prog 67 #[.slice (some ⟨g0, 0, none⟩) x.length x.length, .slice (some ⟨g, 0, none⟩) l.length c] w fun e w' => ∃ v', e = .returned v' ∧ Bt w.heap.size w' v' (x ++ numsT l) ∧ Below w.heap.size w w' := by
 have HT := Lib.hid htab
 have HC := Lib.hid hcs
 have HRG := Lib.hid hr
 have HG := Lib.hid hg
 have HG0 := Lib.hid hg0
 have HC0 := Lib.hid hc0
 have hlt0 := lt_of_block hg0
 clear htab hcs hr hg hg0 hc0
 go_enter Tryz.func67, Tryz.ntmps67
 go_wp2_with fail
 go_loopw [9, 0] (fun i u wr => ∃ k : Nat, i = .int .i64 (k : Int) ∧ k ≤ l.length ∧ Hid (Below w.heap.size w wr) ∧ Hid ((k = 0 ∧ u = .slice (some ⟨g0, 0, none⟩) x.length x.length) ∨ (0 < k ∧ Bt w.heap.size wr u (x ++ numsT (l.take k)))))
  (fun i _ _ => l.length - (intOf i).toNat)
 case atStart => exact ⟨0, rfl, Nat.zero_le _, Below.refl _ _, .inl ⟨rfl, rfl⟩⟩
 case round =>
  obtain ⟨k, rfl, hk, HBk, HRk⟩ := hrel
  by_cases hlt : k < l.length
  ·obtain ⟨n, hn⟩ : ∃ n, l[k]? = some n := ⟨_, List.getElem?_eq_getElem hlt⟩
   have hnr := HRG.out n (List.mem_of_getElem? hn)
   have hblk := (HBk.out.block g (lt_of_block HG.out)).trans HG.out
   have hcell : wr.cell? ⟨g, k, none⟩ = some (.int .i64 n) := by simp [World.cell?, hblk, HC.out k n hn]
   have hBr : w.heap.size ≤ wr.heap.size := HBk.out.size
   have hlen := numsT_len (l.take k) (fun m hm => HRG.out m (List.mem_of_mem_take hm))
   have htl : (l.take k).length ≤ 1000 := by simp; omega
   have hidx : 0 ≤ (k : Int) ∧ (k : Int) < (l.length : Int) := ⟨by omega, by omega⟩
   have HTK : Hid (numsT (l.take (k + 1)) = numsT (l.take k) ++ 32 :: Lib.itoa n) := numsT_take hn
   obtain ⟨X, hX⟩ : ∃ X, x ++ numsT (l.take k) = X := ⟨_, rfl⟩
   have hXl : X.length ≤ 10030000 := by rw [← hX]; simp; omega
   have HTr : Hid (Lib.TabBelow Tryz.prog w.heap.size wr "internal/strconv.uint64pow10" .u64 Lib.pow10Tab) := fun w' hb => HT.out w' (HBk.out.trans hb)
   have HX := Lib.hid hX
   rcases HRk.out with ⟨rfl, rfl⟩ | ⟨hk0, hRk⟩
   ·have hXx : X = x := by rw [← hX]; simp [numsT]
    have HXX := Lib.hid hXx
    have hbg0 := (HBk.out.block g0 hlt0).trans HG0.out
    clear hblk hlen hn hX hXx
    go_wp2_with (at_builtin; refine wpList_app_full rfl (.tmp 13) (.tmp 14) rfl hbg0 x HC0.out rfl [32] rfl rfl rfl (by decide) (by simp; omega) ?_)
    intro v1 w1 h2 k2
    have hb1 : Below w.heap.size wr w1 := k2.mono hBr
    have H2 : Hid (Bt w.heap.size w1 v1 (X ++ [32])) := by rw [HXX.out]; exact bt_mono h2 hBr
    clear h2 k2 hcell hbg0
    go_wp2_with fail
    refine (appZ_any H2.out (Nat.le_trans hBr hb1.size) n hnr.1 hnr.2 (by simp; omega) (fun w' hb => HTr.out w' (hb1.trans hb))).mono ?_
    rintro en w2 ⟨v2, rfl, h3, k3⟩
    have HF : Hid (Bt w.heap.size w2 v2 (x ++ numsT (l.take (0 + 1))) ∧ Below w.heap.size w w2) := ⟨by rw [HTK.out, ← List.append_assoc, HX.out]; simpa using h3, HBk.out.trans (hb1.trans (H2.out.bel k3 (Nat.le_trans hBr hb1.size)))⟩
    clear h3 k3 hb1
    go_wp2_with fail
    go_roundw
    case rel => exact ⟨0 + 1, by go_num, by omega, HF.out.2, .inr ⟨by omega, HF.out.1⟩⟩
    case measure => simp [intOf]; omega
   ·rw [hX] at hRk
    have HRk2 := Lib.hid hRk
    clear hblk hlen hn hX hRk
    go_wp2_with (at_builtin; refine wpList_app_row rfl (.tmp 13) (.tmp 14) rfl rfl HRk2.out hBr [32] rfl rfl rfl (by decide) (by simp; omega) ?_)
    intro v1 w1 h2 k2
    have H2 := Lib.hid h2
    have K2 := Lib.hid k2
    have hb1 : Below w.heap.size wr w1 := HRk2.out.bel k2 hBr
    clear h2 k2 hcell
    go_wp2_with fail
    refine (appZ_any H2.out (Nat.le_trans hBr hb1.size) n hnr.1 hnr.2 (by simp; omega) (fun w' hb => HTr.out w' (hb1.trans hb))).mono ?_
    rintro en w2 ⟨v2, rfl, h3, k3⟩
    have HF : Hid (Bt w.heap.size w2 v2 (x ++ numsT (l.take (k + 1))) ∧ Below w.heap.size w w2) := ⟨by rw [HTK.out, ← List.append_assoc, HX.out]; simpa using h3, HBk.out.trans (hb1.trans (H2.out.bel k3 (Nat.le_trans hBr hb1.size)))⟩
    clear h3 k3 hb1
    go_wp2_with fail
    go_roundw
    case rel => exact ⟨k + 1, by go_num, by omega, HF.out.2, .inr ⟨by omega, HF.out.1⟩⟩
    case measure => simp [intOf]; omega
  ·obtain rfl : k = l.length := by omega
   rcases HRk.out with ⟨h, _⟩ | ⟨_, hRk⟩
   ·omega
   rw [List.take_length] at hRk
   have HRk2 := Lib.hid hRk
   clear hRk
   go_wp2
   go_ret
   exact ⟨_, rfl, HRk2.out, HBk.out⟩
theorem print_code {p r : Int} {ha : Option Addr} {hl hc : Nat} {cv iv : Value} {xs : List Ins} (w : World) (hL : Lc w.heap.size w) (hp : InZ p) (hr : InZ r) (hh : hl ≤ maxLen) (hI : ISl w iv xs) (hx : xs.length ≤ 60) (hok : ∀ x ∈ xs, x.ok) :
 Calls Tryz.prog 45 #[.agg #[.int .i64 p, .slice ha hl hc, .int .i64 r, cv, iv]] w fun e w' => e = .returned (.string ⟨(headT p hl r ++ linesT xs).toArray⟩) ∧ Below w.heap.size w w' := by
 have HL := Lib.hid hL
 have HOK := Lib.hid hok
 obtain ⟨ad, cap, rfl, hcap, hmax, hat⟩ := hI
 have HAT := Lib.hid hat
 have hhz : InZ (hl : Int) := by unfold InZ; simp [maxLen] at hh; omega
 have HP : Hid (InZ p) := hp
 have HH : Hid (InZ (hl : Int)) := hhz
 have HRr : Hid (InZ r) := hr
 clear hL hok hat hhz hp hr
 have kc : (convert 47 47 (.slice (some ⟨w.heap.size + 1, 0, none⟩) 2 2)).run Tryz.prog ((w.alloc (.cells #[.int .i64 p, .slice ha hl hc, .int .i64 r, cv, .slice ad xs.length cap] 73)).alloc (.cells #[.int .u8 102, .int .u8 110] 5)) = .ok (.slice (some ⟨w.heap.size + 1, 0, none⟩) 2 2) ((w.alloc (.cells #[.int .i64 p, .slice ha hl hc, .int .i64 r, cv, .slice ad xs.length cap] 73)).alloc (.cells #[.int .u8 102, .int .u8 110] 5 (2, 3))) := by
  have h := Lib.run_convert_bytes_const (P := Tryz.prog) (w.alloc (.cells #[.int .i64 p, .slice ha hl hc, .int .i64 r, cv, .slice ad xs.length cap] 73)) 47 5 #[.int .u8 102, .int .u8 110] 2 2 Tryz.underlying47 Tryz.underlying5
  rw [show (w.alloc (.cells #[.int .i64 p, .slice ha hl hc, .int .i64 r, cv, .slice ad xs.length cap] 73)).heap.size = w.heap.size + 1 from by simp] at h
  exact h
 go_enter Tryz.func45, Tryz.ntmps45
 go_wp2_with fail
 obtain ⟨w0, hw0⟩ : ∃ w0, w0 = ((w.alloc (.cells #[.int .i64 p, .slice ha hl hc, .int .i64 r, cv, .slice ad xs.length cap] 73)).alloc (.cells #[.int .u8 102, .int .u8 110] 5 (2, 3))).alloc (.cells #[.int .i64 p, .int .i64 (hl : Int), .int .i64 r] 3) := ⟨_, rfl⟩
 have hs0 : w0.heap.size = w.heap.size + 3 := by rw [hw0]; simp
 have hbf : w0.heap[w.heap.size]? = some (.cells #[.int .i64 p, .slice ha hl hc, .int .i64 r, cv, .slice ad xs.length cap] 73 (0, 0)) := by
  rw [hw0, Below.heap_alloc _ _ _ (by simp; omega), Below.heap_alloc _ _ _ (by simp)]; exact heap_alloc_new _ _
 have hbr : w0.heap[w.heap.size + 1]? = some (.cells #[.int .u8 102, .int .u8 110] 5 (2, 3)) := by
  rw [hw0, Below.heap_alloc _ _ _ (by simp), show w.heap.size + 1 = (w.alloc (.cells #[.int .i64 p, .slice ha hl hc, .int .i64 r, cv, .slice ad xs.length cap] 73)).heap.size from by simp]; exact heap_alloc_new _ _
 have hbn : w0.heap[w.heap.size + 2]? = some (.cells #[.int .i64 p, .int .i64 (hl : Int), .int .i64 r] 3 (0, 0)) := by
  rw [hw0, show w.heap.size + 2 = ((w.alloc (.cells #[.int .i64 p, .slice ha hl hc, .int .i64 r, cv, .slice ad xs.length cap] 73)).alloc (.cells #[.int .u8 102, .int .u8 110] 5 (2, 3))).heap.size from by simp]; exact heap_alloc_new _ _
 have HW0 : Hid (Below w.heap.size w w0) := by rw [hw0]; exact (((Below.refl _ _).alloc (Nat.le_refl _) _).alloc (by simp) _).alloc (by simp; omega) _
 have HL0 : Hid (Lc w0.heap.size w0) := (HL.out.on HW0.out).wide HW0.out.size
 first | rw [← hw0] | skip
 have HN := addNums_lit hbr [102, 110] rfl [p, (hl : Int), r] (by simp) (c := 3) (by simp) (fun n hn => by
  rcases List.mem_cons.1 hn with h | hn
  ·exact h ▸ HP.out
  rcases List.mem_cons.1 hn with h | hn
  ·exact h ▸ HH.out
  rcases List.mem_cons.1 hn with h | hn
  ·exact h ▸ HRr.out
  ·cases hn) hbn three_ints (by decide) HL0.out.tab
 have HBF := Lib.hid hbf
 have hB3 : w.heap.size < w0.heap.size := by omega
 clear hw0 hs0 hbf hbr hbn
 refine HN.mono ?_
 clear HN
 rintro e w1 ⟨v1, rfl, h1, k1⟩
 have H1 := Lib.hid h1
 have K1 := Lib.hid k1
 have hB1 : w0.heap.size ≤ w1.heap.size := k1.size
 have hnl : (numsT [p, (hl : Int), r]).length ≤ 66 := numsT_len [p, (hl : Int), r] (fun n hn => by
  rcases List.mem_cons.1 hn with h | hn
  ·exact h ▸ HP.out
  rcases List.mem_cons.1 hn with h | hn
  ·exact h ▸ HH.out
  rcases List.mem_cons.1 hn with h | hn
  ·exact h ▸ HRr.out
  ·cases hn)
 clear h1 k1
 go_wp2_with (at_builtin; refine wpList_app_row rfl (.tmp 17) (.tmp 18) rfl rfl H1.out hB1 [10] rfl rfl rfl (by decide) (by simp; omega) ?_)
 intro v2 w2 h2 k2
 obtain ⟨HD, hHD⟩ : ∃ HD : Bs, HD = headT p hl r := ⟨_, rfl⟩
 have H2 : Hid (Bt w0.heap.size w2 v2 HD) := by rw [hHD]; exact h2
 have hHl : HD.length ≤ 100 := by rw [hHD]; unfold headT; simp; omega
 have K2 : Hid (Below w0.heap.size w0 w2) := K1.out.trans (H1.out.bel k2 hB1)
 have HHD := Lib.hid hHD
 have hbx : w2.heap[w.heap.size]? = _ := (K2.out.block _ hB3).trans HBF.out
 have hc4 : w2.cell? ⟨w.heap.size, 4, none⟩ = some (.slice ad xs.length cap) := by simp [World.cell?, hbx]
 clear h2 k2 hHD hbx
 go_wp2_with fail
 go_loopw [23, 3] (fun i u wr => ∃ k : Nat, i = .int .i64 (k : Int) ∧ k ≤ xs.length ∧ Hid (Below w0.heap.size w0 wr) ∧ Hid (Bt w0.heap.size wr u (HD ++ linesT (xs.take k))))
  (fun i _ _ => xs.length - (intOf i).toNat)
 case atStart => exact ⟨0, rfl, Nat.zero_le _, K2.out, by simpa [linesT] using H2⟩
 case round =>
  obtain ⟨k, rfl, hk, HBk, HRk⟩ := hrel
  have hBr : w0.heap.size ≤ wr.heap.size := HBk.out.size
  by_cases hlt : k < xs.length
  ·obtain ⟨x, hxk⟩ : ∃ x, xs[k]? = some x := ⟨_, List.getElem?_eq_getElem hlt⟩
   have hxo := HOK.out x (List.mem_of_getElem? hxk)
   obtain ⟨g, o, rfl, hg, hia⟩ := HAT.out (by omega)
   obtain ⟨c0, c1, c2, c3⟩ := (hia.kept ((HW0.out.trans (HBk.out.mono (Nat.le_of_lt hB3))).block g hg)) k x hxk
   have hidx : 0 ≤ (k : Int) ∧ (k : Int) < (xs.length : Int) := ⟨by omega, by omega⟩
   have HTK : Hid (linesT (xs.take (k + 1)) = linesT (xs.take k) ++ x.t ++ [10]) := linesT_take hxk
   have hll := linesT_len (xs.take k) (fun y hy => HOK.out y (List.mem_of_mem_take hy))
   have htl : (xs.take k).length ≤ 60 := by simp; omega
   obtain ⟨X, hX⟩ : ∃ X, HD ++ linesT (xs.take k) = X := ⟨_, rfl⟩
   have hXl : X.length ≤ 10000 := by rw [← hX]; simp; omega
   have HX := Lib.hid hX
   rw [hX] at HRk
   have HXO : Hid x.ok := hxo
   have hxl := insT_len x hxo
   clear hll htl hX hxk hia hxo
   go_wp2_with fail
   obtain ⟨wa, hwa⟩ : ∃ wa, wa = wr.alloc (.cells #[.int .u8 (x.op : Int), .int .i64 x.a, .int .i64 x.b, .int .i64 x.c] 66) := ⟨_, rfl⟩
   have HWA : Hid (Below wr.heap.size wr wa) := by rw [hwa]; exact (Below.refl _ _).alloc (Nat.le_refl _) _
   have HRa := Lib.hid (HRk.out.alloc (.cells #[.int .u8 (x.op : Int), .int .i64 x.a, .int .i64 x.b, .int .i64 x.c] 66))
   rw [← hwa] at HRa
   have HB2 : Hid (Below w0.heap.size w0 wa) := HBk.out.trans (HWA.out.mono hBr)
   have hBa : w0.heap.size ≤ wa.heap.size := HB2.out.size
   have HLa : Hid (Lc w0.heap.size wa) := HL0.out.on HB2.out
   first | rw [← hwa] | skip
   clear hwa c0 c1 c2 c3
   refine (addInstr_any HRa.out hBa HLa.out HXO.out.1 (fun n hn => by
    rcases List.mem_cons.1 hn with h | hn
    ·exact h ▸ HXO.out.2.1
    rcases List.mem_cons.1 hn with h | hn
    ·exact h ▸ HXO.out.2.2.1
    rcases List.mem_cons.1 hn with h | hn
    ·exact h ▸ HXO.out.2.2.2
    ·cases hn) (by omega)).mono ?_
   rintro e w3 ⟨v3, rfl, h3, g3⟩
   obtain ⟨Y, hY⟩ : ∃ Y, insT x.op x.a x.b x.c = Y := ⟨_, rfl⟩
   have hyl : Y.length ≤ 72 := by rw [← hY]; exact hxl
   rw [hY] at h3
   have HY := Lib.hid hY
   have H3 := Lib.hid h3
   have hb3 : Below w0.heap.size wa w3 := HRa.out.bel g3 hBa
   clear h3 g3 hxl hY
   go_wp2_with (at_builtin; refine wpList_app_row rfl (.tmp 29) (.tmp 30) rfl rfl H3.out (Nat.le_trans hBa hb3.size) [10] rfl rfl rfl (by decide) (by simp; omega) ?_)
   intro v4 w4 h4 g4
   have HF : Hid (Bt w0.heap.size w4 v4 (HD ++ linesT (xs.take (k + 1))) ∧ Below w0.heap.size w0 w4) := ⟨by rw [HTK.out, ← List.append_assoc, ← List.append_assoc, HX.out, show x.t = Y from HY.out]; simpa [List.append_assoc] using h4, HB2.out.trans (hb3.trans (H3.out.bel g4 (Nat.le_trans hBa hb3.size)))⟩
   clear h4 g4 hb3
   go_wp2_with fail
   go_roundw
   case rel => exact ⟨k + 1, by go_num, by omega, HF.out.2, HF.out.1⟩
   case measure => simp [intOf]; omega
  ·obtain rfl : k = xs.length := by omega
   rw [List.take_length] at HRk
   have hcv := run_text HRk.out
   have HB2 : Hid (Below w.heap.size w wr) := HW0.out.trans (HBk.out.mono (Nat.le_of_lt hB3))
   go_wp2
   go_ret
   exact ⟨by rw [HHD.out]; rfl, HB2.out⟩
end Go.Proofs.YtenfphbhofibjaaGreatDoor
namespace Go.Proofs.YtenfphbhofibjaaGreatDoor
open Go.RowKit LM TM PM
theorem bytes_key (x y : ByteArray) (h : x.data.toList = y.data.toList) : x = y := by cases x; cases y; congr 1; exact Array.toList_inj.1 h
theorem head_text {p h r : Int} : ⟨#[102, 110, 32]⟩ ++ ⟨(Lib.itoa p).toArray⟩ ++ ⟨#[32]⟩ ++ ⟨(Lib.itoa h).toArray⟩ ++ ⟨#[32]⟩ ++ ⟨(Lib.itoa r).toArray⟩ ++ ⟨#[10]⟩ = (⟨(headT p h r).toArray⟩ : ByteArray) := by
 apply bytes_key
 simp [headT, numsT]
theorem headT_len {p h r : Int} (hp : InZ p) (hh : InZ h) (hr : InZ r) : (headT p h r).length ≤ 100 := by
 have := itoa_len p hp.1 hp.2
 have := itoa_len h hh.1 hh.2
 have := itoa_len r hr.1 hr.2
 simp [headT, numsT]
 omega
theorem bytes_add (a b t : Bs) : (⟨(a ++ b).toArray⟩ : ByteArray) ++ (⟨t.toArray⟩ ++ ⟨#[10]⟩) = ⟨(a ++ (b ++ t ++ [10])).toArray⟩ := by
 apply bytes_key
 simp
theorem codePrints_any {p r : Int} {ha : Option Addr} {hel hc : Nat} {cv iv : Value} {xs : List Ins} (w : World) (hL : Lt w) (hp : InZ p) (hr : InZ r) (hh : hel ≤ maxLen) (hI : ISl w iv xs) (hok : ∀ x ∈ xs, x.ok) :
 Calls Tryz.prog 12 #[.agg #[.int .i64 p, .slice ha hel hc, .int .i64 r, cv, iv]] w fun e w' => e = .returned (.bool true) ∧ Below w.heap.size w w' := by
 have HL := Lib.hid hL
 have HOK := Lib.hid hok
 have hI0 := hI
 obtain ⟨ad, cap, rfl, hcap, hmax, hat⟩ := hI
 have HI := Lib.hid hI0
 have hhz : InZ (hel : Int) := by unfold InZ; simp [maxLen] at hh; omega
 have HP := Lib.hid hp
 have HR := Lib.hid hr
 have HH := Lib.hid hh
 clear hL hok hat hI0
 go_enter Tryz.func12, Tryz.ntmps12
 go_wp2_with fail
 refine (awake9 _ (HL.out.lz.below ((Below.refl _ _).alloc (Nat.le_refl _) _))).mono ?_
 rintro e w0 ⟨rfl, b1⟩
 have HBF : Hid (w0.heap[w.heap.size]? = some (.cells #[.int .i64 p, .slice ha hel hc, .int .i64 r, cv, .slice ad xs.length cap] 73 (0, 0))) := (b1.block _ (by simp)).trans (heap_alloc_new _ _)
 have HB0 : Hid (Below w.heap.size w w0) := ((Below.refl _ _).alloc (Nat.le_refl _) _).trans (b1.mono (by simp))
 have HL0 : Hid (Lt w0) := HL.out.below HB0.out
 have HI0 : Hid (ISl w0 (.slice ad xs.length cap) xs) := HI.out.up HB0.out
 have hgl := lt_of_block HBF.out
 have hf1 : w0.cell? ⟨w.heap.size, 1, none⟩ = some (.slice ha hel hc) := by simp [World.cell?, HBF.out]
 have hf4 : w0.cell? ⟨w.heap.size, 4, none⟩ = some (.slice ad xs.length cap) := by simp [World.cell?, HBF.out]
 clear b1
 by_cases h60 : 60 < xs.length
 ·have hg : (60 : Int) < (xs.length : Int) := by omega
  go_wp2
  go_ret
  exact ⟨rfl, HB0.out⟩
 have hg : ¬ ((60 : Int) < (xs.length : Int)) := by omega
 by_cases hh60 : 60 < hel
 ·have hg2 : (60 : Int) < (hel : Int) := by omega
  go_wp2
  go_ret
  exact ⟨rfl, HB0.out⟩
 have hg2 : ¬ ((60 : Int) < (hel : Int)) := by omega
 have HIsp : Hid (∀ W, Below w0.heap.size w0 W → Calls Tryz.prog 44 #[.int .i64 p] W fun e w' => e = .returned (.string ⟨(Lib.itoa p).toArray⟩) ∧ Below W.heap.size W w') := fun W hW => itoa_run HP.out (HL0.out.lz.c.tab W hW)
 have HIsh : Hid (∀ W, Below w0.heap.size w0 W → Calls Tryz.prog 44 #[.int .i64 (hel : Int)] W fun e w' => e = .returned (.string ⟨(Lib.itoa (hel : Int)).toArray⟩) ∧ Below W.heap.size W w') := fun W hW => itoa_run hhz (HL0.out.lz.c.tab W hW)
 have HIsr : Hid (∀ W, Below w0.heap.size w0 W → Calls Tryz.prog 44 #[.int .i64 r] W fun e w' => e = .returned (.string ⟨(Lib.itoa r).toArray⟩) ∧ Below W.heap.size W w') := fun W hW => itoa_run HR.out (HL0.out.lz.c.tab W hW)
 have hsa : (⟨(Lib.itoa p).toArray⟩ : ByteArray).size ≤ 21 := by show (Lib.itoa p).toArray.size ≤ 21; rw [List.size_toArray]; exact itoa_len p hp.1 hp.2
 have hsb : (⟨(Lib.itoa (hel : Int)).toArray⟩ : ByteArray).size ≤ 21 := by show (Lib.itoa (hel : Int)).toArray.size ≤ 21; rw [List.size_toArray]; exact itoa_len _ hhz.1 hhz.2
 have hsc : (⟨(Lib.itoa r).toArray⟩ : ByteArray).size ≤ 21 := by show (Lib.itoa r).toArray.size ≤ 21; rw [List.size_toArray]; exact itoa_len r hr.1 hr.2
 have HTX := Lib.hid (head_text (p := p) (h := (hel : Int)) (r := r))
 generalize (⟨(Lib.itoa p).toArray⟩ : ByteArray) = sp at HIsp HTX hsa
 generalize (⟨(Lib.itoa (hel : Int)).toArray⟩ : ByteArray) = sh at HIsh HTX hsb
 generalize (⟨(Lib.itoa r).toArray⟩ : ByteArray) = sr at HIsr HTX hsc
 go_wp2_with fail
 refine region_sh (fun | 0 => some (.pointer (some ⟨w.heap.size, 0, none⟩)) | 1 => some (.int .i64 p) | 2 => some (.string sp) | 3 => some (.string (⟨#[102, 110, 32]⟩ ++ sp)) | 4 => some (.string (⟨#[102, 110, 32]⟩ ++ sp ++ ⟨#[32]⟩)) | 5 => some (.pointer (some ⟨w.heap.size, 1, none⟩)) | 6 => some (.slice ha hel hc) | 7 => some (.int .i64 (hel : Int)) | 8 => some (.string sh) | 9 => some (.string (⟨#[102, 110, 32]⟩ ++ sp ++ ⟨#[32]⟩ ++ sh)) | 10 => some (.string (⟨#[102, 110, 32]⟩ ++ sp ++ ⟨#[32]⟩ ++ sh ++ ⟨#[32]⟩)) | 11 => some (.pointer (some ⟨w.heap.size, 2, none⟩)) | 12 => some (.int .i64 r) | 13 => some (.string sr) | 14 => some (.string (⟨#[102, 110, 32]⟩ ++ sp ++ ⟨#[32]⟩ ++ sh ++ ⟨#[32]⟩ ++ sr)) | 15 => some (.string (⟨#[102, 110, 32]⟩ ++ sp ++ ⟨#[32]⟩ ++ sh ++ ⟨#[32]⟩ ++ sr ++ ⟨#[10]⟩)) | 16 => some (.string (⟨#[102, 110, 32]⟩ ++ sp ++ ⟨#[32]⟩ ++ sh ++ ⟨#[32]⟩ ++ sr ++ ⟨#[10]⟩)) | _ => none) (fun _ _ W => Below w0.heap.size w0 W) (by kernel_rfl) (by kernel_rfl) (by kernel_rfl) ((Below.refl _ _).drew) ?_ ?_
 ·intro hon q hq L a1 W hC hl hBh hS hJ K hK
  have hqn : q < 17 := hq
  clear hq
  rcases (show q = 0 ∨ q = 1 ∨ q = 2 ∨ q = 3 ∨ q = 4 ∨ q = 5 ∨ q = 6 ∨ q = 7 ∨ q = 8 ∨ q = 9 ∨ q = 10 ∨ q = 11 ∨ q = 12 ∨ q = 13 ∨ q = 14 ∨ q = 15 ∨ q = 16 from by omega) with rfl | rfl | rfl | rfl | rfl | rfl | rfl | rfl | rfl | rfl | rfl | rfl | rfl | rfl | rfl | rfl | rfl
  ·have e1 := (eval_tmp a1 1).symm.trans ((hS.kept 1 (by kernel_rfl)).trans rfl)
   refine wpOp_step rfl (fun K' hK' => ?_)
   go_simp
   exact hK' _ _ (hK _ _ (hS.put hon (i := 0) rfl rfl (fun u hu => by cases hu; rfl)) hJ)
  ·have e18 := (eval_tmp a1 18).symm.trans (hS.get hBh (i := 1) rfl 0 (by simp) rfl rfl rfl)
   have hbx : W.heap[w.heap.size]? = _ := (hJ.block w.heap.size hgl).trans HBF.out
   have hcl : W.cell? ⟨w.heap.size, 0, none⟩ = some (.int .i64 p) := by simp [World.cell?, hbx]
   refine wpOp_step rfl (fun K' hK' => ?_)
   go_simp
   exact hK' _ _ (hK _ _ (hS.put hon (i := 1) rfl rfl (fun u hu => by cases hu; rfl)) hJ)
  ·have e19 := (eval_tmp a1 19).symm.trans (hS.get hBh (i := 2) rfl 1 (by simp) rfl rfl rfl)
   refine wpOp_call (f := 44) (args := #[.int .i64 p]) (R := fun u W2 => u = .string sp ∧ Below W.heap.size W W2) rfl rfl (by simp [execOp, resolve, invoke, e19, go_sem]) (((HIsp).out W hJ).mono fun e W2 ⟨h1, h2⟩ => ⟨_, h1, rfl, h2⟩) ?_
   rintro u W2 ⟨rfl, r2⟩
   exact hK _ _ (hS.put hon (i := 2) rfl rfl (fun u hu => by cases hu; rfl)) (hJ.trans (r2.mono hJ.size))
  ·have e20 := (eval_tmp a1 20).symm.trans (hS.get hBh (i := 3) rfl 2 (by simp) rfl rfl rfl)
   refine wpOp_step rfl (fun K' hK' => ?_)
   go_simp
   rw [if_neg (by omega)]
   exact hK' _ _ (hK _ _ (hS.put hon (i := 3) rfl rfl (fun u hu => by cases hu; rfl)) hJ)
  ·have e21 := (eval_tmp a1 21).symm.trans (hS.get hBh (i := 4) rfl 3 (by simp) rfl rfl rfl)
   refine wpOp_step rfl (fun K' hK' => ?_)
   go_simp
   rw [if_neg (by omega)]
   exact hK' _ _ (hK _ _ (hS.put hon (i := 4) rfl rfl (fun u hu => by cases hu; rfl)) hJ)
  ·have e1 := (eval_tmp a1 1).symm.trans ((hS.kept 1 (by kernel_rfl)).trans rfl)
   refine wpOp_step rfl (fun K' hK' => ?_)
   go_simp
   exact hK' _ _ (hK _ _ (hS.put hon (i := 5) rfl rfl (fun u hu => by cases hu; rfl)) hJ)
  ·have e23 := (eval_tmp a1 23).symm.trans (hS.get hBh (i := 6) rfl 5 (by simp) rfl rfl rfl)
   have hbx : W.heap[w.heap.size]? = _ := (hJ.block w.heap.size hgl).trans HBF.out
   have hcl : W.cell? ⟨w.heap.size, 1, none⟩ = some (.slice ha hel hc) := by simp [World.cell?, hbx]
   refine wpOp_step rfl (fun K' hK' => ?_)
   go_simp
   exact hK' _ _ (hK _ _ (hS.put hon (i := 6) rfl rfl (fun u hu => by cases hu; rfl)) hJ)
  ·have e24 := (eval_tmp a1 24).symm.trans (hS.get hBh (i := 7) rfl 6 (by simp) rfl rfl rfl)
   refine wpOp_step rfl (fun K' hK' => ?_)
   go_simp
   exact hK' _ _ (hK _ _ (hS.put hon (i := 7) rfl rfl (fun u hu => by cases hu; rfl)) hJ)
  ·have e25 := (eval_tmp a1 25).symm.trans (hS.get hBh (i := 8) rfl 7 (by simp) rfl rfl rfl)
   refine wpOp_call (f := 44) (args := #[.int .i64 (hel : Int)]) (R := fun u W2 => u = .string sh ∧ Below W.heap.size W W2) rfl rfl (by simp [execOp, resolve, invoke, e25, go_sem]) (((HIsh).out W hJ).mono fun e W2 ⟨h1, h2⟩ => ⟨_, h1, rfl, h2⟩) ?_
   rintro u W2 ⟨rfl, r2⟩
   exact hK _ _ (hS.put hon (i := 8) rfl rfl (fun u hu => by cases hu; rfl)) (hJ.trans (r2.mono hJ.size))
  ·have e22 := (eval_tmp a1 22).symm.trans (hS.get hBh (i := 9) rfl 4 (by simp) rfl rfl rfl)
   have e26 := (eval_tmp a1 26).symm.trans (hS.get hBh (i := 9) rfl 8 (by simp) rfl rfl rfl)
   refine wpOp_step rfl (fun K' hK' => ?_)
   go_simp
   rw [if_neg (by omega)]
   exact hK' _ _ (hK _ _ (hS.put hon (i := 9) rfl rfl (fun u hu => by cases hu; rfl)) hJ)
  ·have e27 := (eval_tmp a1 27).symm.trans (hS.get hBh (i := 10) rfl 9 (by simp) rfl rfl rfl)
   refine wpOp_step rfl (fun K' hK' => ?_)
   go_simp
   rw [if_neg (by omega)]
   exact hK' _ _ (hK _ _ (hS.put hon (i := 10) rfl rfl (fun u hu => by cases hu; rfl)) hJ)
  ·have e1 := (eval_tmp a1 1).symm.trans ((hS.kept 1 (by kernel_rfl)).trans rfl)
   refine wpOp_step rfl (fun K' hK' => ?_)
   go_simp
   exact hK' _ _ (hK _ _ (hS.put hon (i := 11) rfl rfl (fun u hu => by cases hu; rfl)) hJ)
  ·have e29 := (eval_tmp a1 29).symm.trans (hS.get hBh (i := 12) rfl 11 (by simp) rfl rfl rfl)
   have hbx : W.heap[w.heap.size]? = _ := (hJ.block w.heap.size hgl).trans HBF.out
   have hcl : W.cell? ⟨w.heap.size, 2, none⟩ = some (.int .i64 r) := by simp [World.cell?, hbx]
   refine wpOp_step rfl (fun K' hK' => ?_)
   go_simp
   exact hK' _ _ (hK _ _ (hS.put hon (i := 12) rfl rfl (fun u hu => by cases hu; rfl)) hJ)
  ·have e30 := (eval_tmp a1 30).symm.trans (hS.get hBh (i := 13) rfl 12 (by simp) rfl rfl rfl)
   refine wpOp_call (f := 44) (args := #[.int .i64 r]) (R := fun u W2 => u = .string sr ∧ Below W.heap.size W W2) rfl rfl (by simp [execOp, resolve, invoke, e30, go_sem]) (((HIsr).out W hJ).mono fun e W2 ⟨h1, h2⟩ => ⟨_, h1, rfl, h2⟩) ?_
   rintro u W2 ⟨rfl, r2⟩
   exact hK _ _ (hS.put hon (i := 13) rfl rfl (fun u hu => by cases hu; rfl)) (hJ.trans (r2.mono hJ.size))
  ·have e28 := (eval_tmp a1 28).symm.trans (hS.get hBh (i := 14) rfl 10 (by simp) rfl rfl rfl)
   have e31 := (eval_tmp a1 31).symm.trans (hS.get hBh (i := 14) rfl 13 (by simp) rfl rfl rfl)
   refine wpOp_step rfl (fun K' hK' => ?_)
   go_simp
   rw [if_neg (by omega)]
   exact hK' _ _ (hK _ _ (hS.put hon (i := 14) rfl rfl (fun u hu => by cases hu; rfl)) hJ)
  ·have e32 := (eval_tmp a1 32).symm.trans (hS.get hBh (i := 15) rfl 14 (by simp) rfl rfl rfl)
   refine wpOp_step rfl (fun K' hK' => ?_)
   go_simp
   rw [if_neg (by omega)]
   exact hK' _ _ (hK _ _ (hS.put hon (i := 15) rfl rfl (fun u hu => by cases hu; rfl)) hJ)
  ·have e33 := (eval_tmp a1 33).symm.trans (hS.get hBh (i := 16) rfl 15 (by simp) rfl rfl rfl)
   refine wpOp_step rfl (fun K' hK' => ?_)
   go_simp
   exact hK' _ _ (hK _ _ (hS.put hon (i := 16) rfl rfl (fun u hu => by cases hu; rfl)) hJ)
 ·intro L a1 wz hl hS hJ
  have hfr := hS.frame [18, 19, 20, 21, 22, 23, 24, 25, 26, 27, 28, 29, 30, 31, 32, 33, 3] rfl
  obtain ⟨zz, hz⟩ : ∃ z : Nat → Value, z = fun k => a1.eval (.tmp k) := ⟨_, rfl⟩
  rw [← hz] at hfr
  have z3 : zz 3 = .string (⟨#[102, 110, 32]⟩ ++ sp ++ ⟨#[32]⟩ ++ sh ++ ⟨#[32]⟩ ++ sr ++ ⟨#[10]⟩) := by rw [hz]; exact hS.val 16 _ 3 _ rfl rfl rfl (hl 16 (by decide))
  rw [HTX.out] at z3
  refine (‹∀ (a : Act) (w : World), Code.wp Tryz.prog _ _ a w → _› a1 wz ?_)
  rw [hfr]
  have HBZ : Hid (Below w0.heap.size w0 wz) := hJ
  clear hfr hz hS hJ hl
  simp only [over, List.setIfInBounds_toArray, List.set_cons_zero, List.set_cons_succ, z3]
  clear z3
  have hgz : w.heap.size < wz.heap.size := Nat.lt_of_lt_of_le hgl HBZ.out.size
  have HZF : Hid (wz.heap[w.heap.size]? = some (.cells #[.int .i64 p, .slice ha hel hc, .int .i64 r, cv, .slice ad xs.length cap] 73 (0, 0))) := (HBZ.out.block w.heap.size hgl).trans HBF.out
  have hz4 : wz.cell? ⟨w.heap.size, 4, none⟩ = some (.slice ad xs.length cap) := by simp [World.cell?, HZF.out]
  have HBWz : Hid (Below w.heap.size w wz) := HB0.out.trans (HBZ.out.mono HB0.out.size)
  have HLz : Hid (Lt wz) := HL0.out.below HBZ.out
  have HIz : Hid (ISl wz (.slice ad xs.length cap) xs) := HI0.out.up HBZ.out
  obtain ⟨WT, hWT⟩ : ∃ WT, (⟨(headT p hel r).toArray⟩ : ByteArray) = WT := ⟨_, rfl⟩
  have HWT := Lib.hid hWT
  have hwl : WT.size ≤ 100 := by rw [← hWT]; show (headT p hel r).toArray.size ≤ 100; rw [List.size_toArray]; exact headT_len hp hhz hr
  rw [hWT]
  clear hWT
  go_wp2_with fail
  go_loopw [37, 3] (fun i u wr => ∃ (k : Nat) (S : ByteArray), i = .int .i64 (k : Int) ∧ u = .string S ∧ k ≤ xs.length ∧ S.size ≤ 100 + 73 * k ∧ Hid (Below wz.heap.size wz wr) ∧ Hid (S = ⟨(headT p hel r ++ linesT (xs.take k)).toArray⟩))
   (fun i _ _ => xs.length - (intOf i).toNat)
  case atStart => exact ⟨0, WT, rfl, rfl, Nat.zero_le _, by omega, Below.refl _ _, by refine Lib.hid ?_; rw [← HWT.out]; simp [linesT]⟩
  case round =>
   obtain ⟨k, S, rfl, rfl, hk, hsl, HBk, HSk⟩ := hrel
   by_cases hlt : k < xs.length
   ·obtain ⟨x, hxk⟩ : ∃ x, xs[k]? = some x := ⟨_, List.getElem?_eq_getElem hlt⟩
    have hxo := HOK.out x (List.mem_of_getElem? hxk)
    obtain ⟨ad1, cap1, hv, _, _, hat⟩ := HIz.out
    injection hv with hv1 hv2 hv3
    subst hv1
    obtain ⟨g, o, rfl, hg, hia⟩ := hat (by omega)
    obtain ⟨c0, c1, c2, c3⟩ := (hia.kept (HBk.out.block g hg)) k x hxk
    have hidx : 0 ≤ (k : Int) ∧ (k : Int) < (xs.length : Int) := ⟨by omega, by omega⟩
    have HTK : Hid (linesT (xs.take (k + 1)) = linesT (xs.take k) ++ x.t ++ [10]) := linesT_take hxk
    have HXO : Hid x.ok := hxo
    have hxl := insT_len x hxo
    clear hxk hia hxo hv2 hv3 hat
    go_wp2_with fail
    obtain ⟨wa, hwa⟩ : ∃ wa, wa = wr.alloc (.cells #[.int .u8 (x.op : Int), .int .i64 x.a, .int .i64 x.b, .int .i64 x.c] 66) := ⟨_, rfl⟩
    have HWA : Hid (Below wz.heap.size wz wa) := by rw [hwa]; exact HBk.out.alloc HBk.out.size _
    have HLa : Hid (Lt wa) := HLz.out.below HWA.out
    first | rw [← hwa] | skip
    clear hwa c0 c1 c2 c3
    have hIL := insLaw_any wa HLa.out HXO.out.1 HXO.out.2.1 HXO.out.2.2.1 HXO.out.2.2.2
    obtain ⟨Y, hY⟩ : ∃ Y : ByteArray, (⟨(insT x.op x.a x.b x.c).toArray⟩ : ByteArray) = Y := ⟨_, rfl⟩
    have hyl : Y.size ≤ 72 := by rw [← hY]; show (insT x.op x.a x.b x.c).toArray.size ≤ 72; rw [List.size_toArray]; exact hxl
    rw [hY] at hIL
    have HY := Lib.hid hY
    clear hY hxl
    refine hIL.mono ?_
    clear hIL
    rintro e w3 ⟨rfl, b3⟩
    have HB3 : Hid (Below wz.heap.size wz w3) := HWA.out.trans (b3.mono HWA.out.size)
    clear b3
    go_wp2_with fail
    go_roundw
    case rel => exact ⟨k + 1, S ++ (Y ++ ⟨#[10]⟩), by go_num, rfl, by omega, by rw [ByteArray.size_append, ByteArray.size_append, show (⟨#[10]⟩ : ByteArray).size = 1 from rfl]; omega, HB3.out, by rw [HSk.out, ← HY.out, HTK.out]; exact bytes_add _ _ _⟩
    case measure => simp [intOf]; omega
   ·obtain rfl : k = xs.length := by omega
    have hbx : wr.heap[w.heap.size]? = _ := (HBk.out.block _ hgz).trans HZF.out
    have d0 : wr.cell? ⟨w.heap.size, 0, none⟩ = some (.int .i64 p) := by simp [World.cell?, hbx]
    have d1 : wr.cell? ⟨w.heap.size, 1, none⟩ = some (.slice ha hel hc) := by simp [World.cell?, hbx]
    have d2 : wr.cell? ⟨w.heap.size, 2, none⟩ = some (.int .i64 r) := by simp [World.cell?, hbx]
    have d3 : wr.cell? ⟨w.heap.size, 3, none⟩ = some cv := by simp [World.cell?, hbx]
    have d4 : wr.cell? ⟨w.heap.size, 4, none⟩ = some (.slice ad xs.length cap) := by simp [World.cell?, hbx]
    have HPR := print_code (ha := ha) (hc := hc) (cv := cv) wr (HLz.out.below HBk.out).lz.c HP.out HR.out HH.out (HIz.out.up HBk.out) (by omega) HOK.out
    rw [List.take_length] at HSk
    rw [← HSk.out] at HPR
    have HBB : Hid (Below w.heap.size w wr) := HBWz.out.trans (HBk.out.mono HBWz.out.size)
    clear hbx
    go_wp2_with fail
    refine HPR.mono ?_
    clear HPR
    rintro e w3 ⟨rfl, b3⟩
    have HBE : Hid (Below w.heap.size w w3) := HBB.out.trans (b3.mono HBB.out.size)
    clear b3 d0 d1 d2 d3 d4
    go_wp2
    go_ret
    exact ⟨rfl, HBE.out⟩
end Go.Proofs.YtenfphbhofibjaaGreatDoor

/-
 The laws' text of an instruction; the law CodeTexts.
 Conditions: as each theorem says (the library's variables and the project's tables as they are laid).
-/
import Derived.Test.YtenfphbhofibjaaGreatDoorZAw9
import Derived.Test.YtenfphbhofibjaaGreatDoorZSm
namespace Go.Proofs.YtenfphbhofibjaaGreatDoor
open Go.RowKit LM TM PM
set_option linter.unusedVariables false
set_option linter.unusedSimpArgs false
def opBs : List ByteArray := opT.map fun s => ⟨s.toArray⟩
structure Lt (w : World) : Prop where
 lz : Lz w
 r : RowVar 2 opBs w
theorem Lt.below {w w' : World} (h : Lt w) (hb : Below w.heap.size w w') : Lt w' := ⟨h.lz.below hb, h.r.below hb⟩
theorem itoa_run {n : Int} (hn : InZ n) {W : World} (ht : Lib.TabIs Tryz.prog W "internal/strconv.uint64pow10" .u64 Lib.pow10Tab) : Calls Tryz.prog 44 #[.int .i64 n] W fun e w' => e = .returned (.string ⟨(Lib.itoa n).toArray⟩) ∧ Below W.heap.size W w' := by
 refine (Tryz.strconv_Itoa n hn.1 hn.2 W ht).mono ?_
 rintro e w' ⟨rfl, k, os, rfl⟩
 exact ⟨rfl, Lib.below_grow W.heap.size W (Nat.le_refl _) k os⟩
theorem ins_text {op : Nat} {a b c : Int} (h : op < 22) : (opB op) ++ ⟨#[32]⟩ ++ ⟨(Lib.itoa a).toArray⟩ ++ ⟨#[32]⟩ ++ ⟨(Lib.itoa b).toArray⟩ ++ ⟨#[32]⟩ ++ ⟨(Lib.itoa c).toArray⟩ = (⟨(insT op a b c).toArray⟩ : ByteArray) := by
 have key : ∀ x y : ByteArray, x.data.toList = y.data.toList → x = y := fun x y h => by cases x; cases y; congr 1; exact Array.toList_inj.1 h
 apply key
 simp [insT, h, numsT, opB]
set_option maxRecDepth 100000 in
set_option maxHeartbeats 4000000 in
theorem insLaw_any {op : Nat} {a b c : Int} (w : World) (hL : Lt w) (hop : op < 256) (ha : InZ a) (hb : InZ b) (hc : InZ c) :
 Calls Tryz.prog 43 #[.agg #[.int .u8 (op : Int), .int .i64 a, .int .i64 b, .int .i64 c]] w fun e w' => e = .returned (.string ⟨(insT op a b c).toArray⟩) ∧ Below w.heap.size w w' := by
 have HL := Lib.hid hL
 have HBA : Hid (∀ o, Below w.heap.size w (w.alloc o)) := fun o => (Below.refl _ _).alloc (Nat.le_refl _) o
 obtain ⟨hgv0, g, o, cap, hv0, hc1, hc2, hgg0, hst⟩ := hL.r
 clear hL
 by_cases h22 : op < 22
 ·have hge : ¬ ((22 : Int) ≤ (op : Int)) := by omega
  have HTX : Hid ((opB op) ++ ⟨#[32]⟩ ++ ⟨(Lib.itoa a).toArray⟩ ++ ⟨#[32]⟩ ++ ⟨(Lib.itoa b).toArray⟩ ++ ⟨#[32]⟩ ++ ⟨(Lib.itoa c).toArray⟩ = (⟨(insT op a b c).toArray⟩ : ByteArray)) := ins_text h22
  have hcw0 : w.cell? ⟨g, o + op, none⟩ = some (.string (opB op)) := by
   refine hst.get (j := op) ?_
   rw [show opBs[op]? = (opT[op]?).map fun s => ⟨s.toArray⟩ from List.getElem?_map .., opB, List.getD_eq_getElem?_getD, List.getElem?_eq_getElem (by exact h22)]
   rfl
  have hv00 : w.cell? ⟨2, 0, none⟩ = some (.slice (some ⟨g, o, none⟩) 22 cap) := hv0
  have hw0 : ∀ q, (w.alloc q).cell? ⟨2, 0, none⟩ = some (.slice (some ⟨g, o, none⟩) 22 cap) := fun q => (cell_kept (Below.heap_alloc _ _ _ hgv0)).trans hv00
  clear hst hv0
  go_enter Tryz.func43, Tryz.ntmps43
  go_wp2_with fail
  obtain ⟨w1, hw1⟩ : ∃ w1, w1 = w.alloc (.cells #[.int .u8 (op : Int), .int .i64 a, .int .i64 b, .int .i64 c] 66) := ⟨_, rfl⟩
  obtain ⟨gb, hgb⟩ : ∃ gb, gb = w.heap.size := ⟨_, rfl⟩
  have HBX : Hid (w1.heap[gb]? = some (.cells #[.int .u8 (op : Int), .int .i64 a, .int .i64 b, .int .i64 c] 66 (0, 0))) := by rw [hw1, hgb]; exact heap_alloc_new _ _
  have HBW : Hid (Below w.heap.size w w1) := by rw [hw1]; exact HBA.out _
  have hgl : gb < w1.heap.size := lt_of_block HBX.out
  have hgv : 2 < w1.heap.size := Nat.lt_of_lt_of_le hgv0 HBW.out.size
  have hgg : g < w1.heap.size := Nat.lt_of_lt_of_le hgg0 HBW.out.size
  have hv : w1.cell? ⟨2, 0, none⟩ = some (.slice (some ⟨g, o, none⟩) 22 cap) := (cell_kept (HBW.out.block _ hgv0)).trans hv00
  have hcw : w1.cell? ⟨g, o + op, none⟩ = some (.string (opB op)) := (cell_kept (HBW.out.block _ hgg0)).trans hcw0
  have HIa : Hid (∀ W, Below w1.heap.size w1 W → Calls Tryz.prog 44 #[.int .i64 a] W fun e w' => e = .returned (.string ⟨(Lib.itoa a).toArray⟩) ∧ Below W.heap.size W w') := fun W hW => itoa_run ha (HL.out.lz.c.tab W (HBW.out.trans (hW.mono HBW.out.size)))
  have HIb : Hid (∀ W, Below w1.heap.size w1 W → Calls Tryz.prog 44 #[.int .i64 b] W fun e w' => e = .returned (.string ⟨(Lib.itoa b).toArray⟩) ∧ Below W.heap.size W w') := fun W hW => itoa_run hb (HL.out.lz.c.tab W (HBW.out.trans (hW.mono HBW.out.size)))
  have HIc : Hid (∀ W, Below w1.heap.size w1 W → Calls Tryz.prog 44 #[.int .i64 c] W fun e w' => e = .returned (.string ⟨(Lib.itoa c).toArray⟩) ∧ Below W.heap.size W w') := fun W hW => itoa_run hc (HL.out.lz.c.tab W (HBW.out.trans (hW.mono HBW.out.size)))
  rw [← hw1, ← hgb]
  clear hw1 hgb hv00 hcw0 hw0
  have hsa : (⟨(Lib.itoa a).toArray⟩ : ByteArray).size ≤ 21 := by show (Lib.itoa a).toArray.size ≤ 21; rw [List.size_toArray]; exact itoa_len a ha.1 ha.2
  have hsb : (⟨(Lib.itoa b).toArray⟩ : ByteArray).size ≤ 21 := by show (Lib.itoa b).toArray.size ≤ 21; rw [List.size_toArray]; exact itoa_len b hb.1 hb.2
  have hsc : (⟨(Lib.itoa c).toArray⟩ : ByteArray).size ≤ 21 := by show (Lib.itoa c).toArray.size ≤ 21; rw [List.size_toArray]; exact itoa_len c hc.1 hc.2
  have hsw : (opB op).size ≤ 6 := by
   have : ∀ i, i < 22 → (opB i).size ≤ 6 := by decide
   exact this op h22
  generalize (⟨(Lib.itoa a).toArray⟩ : ByteArray) = ia at HIa HTX hsa
  generalize (⟨(Lib.itoa b).toArray⟩ : ByteArray) = ib at HIb HTX hsb
  generalize (⟨(Lib.itoa c).toArray⟩ : ByteArray) = ic at HIc HTX hsc
  generalize opB op = wd at hcw HTX hsw
  refine region_sh (fun | 0 => some (.slice (some ⟨g, o, none⟩) 22 cap) | 1 => some (.pointer (some ⟨gb, 0, none⟩)) | 2 => some (.int .u8 (op : Int)) | 3 => some (.pointer (some ⟨g, o + op, none⟩)) | 4 => some (.string wd) | 5 => some (.string (wd ++ ⟨#[32]⟩)) | 6 => some (.pointer (some ⟨gb, 1, none⟩)) | 7 => some (.int .i64 a) | 8 => some (.string ia) | 9 => some (.string (wd ++ ⟨#[32]⟩ ++ ia)) | 10 => some (.string (wd ++ ⟨#[32]⟩ ++ ia ++ ⟨#[32]⟩)) | 11 => some (.pointer (some ⟨gb, 2, none⟩)) | 12 => some (.int .i64 b) | 13 => some (.string ib) | 14 => some (.string (wd ++ ⟨#[32]⟩ ++ ia ++ ⟨#[32]⟩ ++ ib)) | 15 => some (.string (wd ++ ⟨#[32]⟩ ++ ia ++ ⟨#[32]⟩ ++ ib ++ ⟨#[32]⟩)) | 16 => some (.pointer (some ⟨gb, 3, none⟩)) | 17 => some (.int .i64 c) | 18 => some (.string ic) | 19 => some (.string (wd ++ ⟨#[32]⟩ ++ ia ++ ⟨#[32]⟩ ++ ib ++ ⟨#[32]⟩ ++ ic)) | 20 => some (.string (wd ++ ⟨#[32]⟩ ++ ia ++ ⟨#[32]⟩ ++ ib ++ ⟨#[32]⟩ ++ ic)) | _ => none) (fun _ _ W => Below w1.heap.size w1 W) (by kernel_rfl) (by kernel_rfl) (by kernel_rfl) ((Below.refl _ _).drew) ?_ ?_
  ·intro hon q hq L a1 W hC hl hBh hS hJ K hK
   have hqn : q < 21 := hq
   clear hq
   rcases (show q = 0 ∨ q = 1 ∨ q = 2 ∨ q = 3 ∨ q = 4 ∨ q = 5 ∨ q = 6 ∨ q = 7 ∨ q = 8 ∨ q = 9 ∨ q = 10 ∨ q = 11 ∨ q = 12 ∨ q = 13 ∨ q = 14 ∨ q = 15 ∨ q = 16 ∨ q = 17 ∨ q = 18 ∨ q = 19 ∨ q = 20 from by omega) with rfl | rfl | rfl | rfl | rfl | rfl | rfl | rfl | rfl | rfl | rfl | rfl | rfl | rfl | rfl | rfl | rfl | rfl | rfl | rfl | rfl
   ·have hcl : W.cell? ⟨2, 0, none⟩ = some (.slice (some ⟨g, o, none⟩) 22 cap) := (cell_kept (hJ.block _ hgv)).trans hv
    refine wpOp_step rfl (fun K' hK' => ?_)
    go_simp
    exact hK' _ _ (hK _ _ (hS.put hon (i := 0) rfl rfl (fun u hu => by cases hu; rfl)) hJ)
   ·have e1 := (eval_tmp a1 1).symm.trans ((hS.kept 1 (by kernel_rfl)).trans rfl)
    refine wpOp_step rfl (fun K' hK' => ?_)
    go_simp
    exact hK' _ _ (hK _ _ (hS.put hon (i := 1) rfl rfl (fun u hu => by cases hu; rfl)) hJ)
   ·have e10 := (eval_tmp a1 10).symm.trans (hS.get hBh (i := 2) rfl 1 (by simp) rfl rfl rfl)
    have hbx : W.heap[gb]? = _ := (hJ.block gb hgl).trans HBX.out
    have hcl : W.cell? ⟨gb, 0, none⟩ = some (.int .u8 (op : Int)) := by simp [World.cell?, hbx]
    refine wpOp_step rfl (fun K' hK' => ?_)
    go_simp
    exact hK' _ _ (hK _ _ (hS.put hon (i := 2) rfl rfl (fun u hu => by cases hu; rfl)) hJ)
   ·have e9 := (eval_tmp a1 9).symm.trans (hS.get hBh (i := 3) rfl 0 (by simp) rfl rfl rfl)
    have e11 := (eval_tmp a1 11).symm.trans (hS.get hBh (i := 3) rfl 2 (by simp) rfl rfl rfl)
    have hidx : 0 ≤ (op : Int) ∧ (op : Int) < 22 := ⟨by omega, by omega⟩
    refine wpOp_step rfl (fun K' hK' => ?_)
    go_simp
    exact hK' _ _ (hK _ _ (hS.put hon (i := 3) rfl rfl (fun u hu => by cases hu; rfl)) hJ)
   ·have e12 := (eval_tmp a1 12).symm.trans (hS.get hBh (i := 4) rfl 3 (by simp) rfl rfl rfl)
    have hcl : W.cell? ⟨g, o + op, none⟩ = some (.string wd) := (cell_kept (hJ.block _ hgg)).trans hcw
    refine wpOp_step rfl (fun K' hK' => ?_)
    go_simp
    exact hK' _ _ (hK _ _ (hS.put hon (i := 4) rfl rfl (fun u hu => by cases hu; rfl)) hJ)
   ·have e13 := (eval_tmp a1 13).symm.trans (hS.get hBh (i := 5) rfl 4 (by simp) rfl rfl rfl)
    refine wpOp_step rfl (fun K' hK' => ?_)
    go_simp
    rw [if_neg (by omega)]
    exact hK' _ _ (hK _ _ (hS.put hon (i := 5) rfl rfl (fun u hu => by cases hu; rfl)) hJ)
   ·have e1 := (eval_tmp a1 1).symm.trans ((hS.kept 1 (by kernel_rfl)).trans rfl)
    refine wpOp_step rfl (fun K' hK' => ?_)
    go_simp
    exact hK' _ _ (hK _ _ (hS.put hon (i := 6) rfl rfl (fun u hu => by cases hu; rfl)) hJ)
   ·have e15 := (eval_tmp a1 15).symm.trans (hS.get hBh (i := 7) rfl 6 (by simp) rfl rfl rfl)
    have hbx : W.heap[gb]? = _ := (hJ.block gb hgl).trans HBX.out
    have hcl : W.cell? ⟨gb, 1, none⟩ = some (.int .i64 a) := by simp [World.cell?, hbx]
    refine wpOp_step rfl (fun K' hK' => ?_)
    go_simp
    exact hK' _ _ (hK _ _ (hS.put hon (i := 7) rfl rfl (fun u hu => by cases hu; rfl)) hJ)
   ·have e16 := (eval_tmp a1 16).symm.trans (hS.get hBh (i := 8) rfl 7 (by simp) rfl rfl rfl)
    refine wpOp_call (f := 44) (args := #[.int .i64 a]) (R := fun u W2 => u = .string ia ∧ Below W.heap.size W W2) rfl rfl (by simp [execOp, resolve, invoke, e16, go_sem]) (((HIa).out W hJ).mono fun e W2 ⟨h1, h2⟩ => ⟨_, h1, rfl, h2⟩) ?_
    rintro u W2 ⟨rfl, r2⟩
    exact hK _ _ (hS.put hon (i := 8) rfl rfl (fun u hu => by cases hu; rfl)) (hJ.trans (r2.mono hJ.size))
   ·have e14 := (eval_tmp a1 14).symm.trans (hS.get hBh (i := 9) rfl 5 (by simp) rfl rfl rfl)
    have e17 := (eval_tmp a1 17).symm.trans (hS.get hBh (i := 9) rfl 8 (by simp) rfl rfl rfl)
    refine wpOp_step rfl (fun K' hK' => ?_)
    go_simp
    rw [if_neg (by omega)]
    exact hK' _ _ (hK _ _ (hS.put hon (i := 9) rfl rfl (fun u hu => by cases hu; rfl)) hJ)
   ·have e18 := (eval_tmp a1 18).symm.trans (hS.get hBh (i := 10) rfl 9 (by simp) rfl rfl rfl)
    refine wpOp_step rfl (fun K' hK' => ?_)
    go_simp
    rw [if_neg (by omega)]
    exact hK' _ _ (hK _ _ (hS.put hon (i := 10) rfl rfl (fun u hu => by cases hu; rfl)) hJ)
   ·have e1 := (eval_tmp a1 1).symm.trans ((hS.kept 1 (by kernel_rfl)).trans rfl)
    refine wpOp_step rfl (fun K' hK' => ?_)
    go_simp
    exact hK' _ _ (hK _ _ (hS.put hon (i := 11) rfl rfl (fun u hu => by cases hu; rfl)) hJ)
   ·have e20 := (eval_tmp a1 20).symm.trans (hS.get hBh (i := 12) rfl 11 (by simp) rfl rfl rfl)
    have hbx : W.heap[gb]? = _ := (hJ.block gb hgl).trans HBX.out
    have hcl : W.cell? ⟨gb, 2, none⟩ = some (.int .i64 b) := by simp [World.cell?, hbx]
    refine wpOp_step rfl (fun K' hK' => ?_)
    go_simp
    exact hK' _ _ (hK _ _ (hS.put hon (i := 12) rfl rfl (fun u hu => by cases hu; rfl)) hJ)
   ·have e21 := (eval_tmp a1 21).symm.trans (hS.get hBh (i := 13) rfl 12 (by simp) rfl rfl rfl)
    refine wpOp_call (f := 44) (args := #[.int .i64 b]) (R := fun u W2 => u = .string ib ∧ Below W.heap.size W W2) rfl rfl (by simp [execOp, resolve, invoke, e21, go_sem]) (((HIb).out W hJ).mono fun e W2 ⟨h1, h2⟩ => ⟨_, h1, rfl, h2⟩) ?_
    rintro u W2 ⟨rfl, r2⟩
    exact hK _ _ (hS.put hon (i := 13) rfl rfl (fun u hu => by cases hu; rfl)) (hJ.trans (r2.mono hJ.size))
   ·have e19 := (eval_tmp a1 19).symm.trans (hS.get hBh (i := 14) rfl 10 (by simp) rfl rfl rfl)
    have e22 := (eval_tmp a1 22).symm.trans (hS.get hBh (i := 14) rfl 13 (by simp) rfl rfl rfl)
    refine wpOp_step rfl (fun K' hK' => ?_)
    go_simp
    rw [if_neg (by omega)]
    exact hK' _ _ (hK _ _ (hS.put hon (i := 14) rfl rfl (fun u hu => by cases hu; rfl)) hJ)
   ·have e23 := (eval_tmp a1 23).symm.trans (hS.get hBh (i := 15) rfl 14 (by simp) rfl rfl rfl)
    refine wpOp_step rfl (fun K' hK' => ?_)
    go_simp
    rw [if_neg (by omega)]
    exact hK' _ _ (hK _ _ (hS.put hon (i := 15) rfl rfl (fun u hu => by cases hu; rfl)) hJ)
   ·have e1 := (eval_tmp a1 1).symm.trans ((hS.kept 1 (by kernel_rfl)).trans rfl)
    refine wpOp_step rfl (fun K' hK' => ?_)
    go_simp
    exact hK' _ _ (hK _ _ (hS.put hon (i := 16) rfl rfl (fun u hu => by cases hu; rfl)) hJ)
   ·have e25 := (eval_tmp a1 25).symm.trans (hS.get hBh (i := 17) rfl 16 (by simp) rfl rfl rfl)
    have hbx : W.heap[gb]? = _ := (hJ.block gb hgl).trans HBX.out
    have hcl : W.cell? ⟨gb, 3, none⟩ = some (.int .i64 c) := by simp [World.cell?, hbx]
    refine wpOp_step rfl (fun K' hK' => ?_)
    go_simp
    exact hK' _ _ (hK _ _ (hS.put hon (i := 17) rfl rfl (fun u hu => by cases hu; rfl)) hJ)
   ·have e26 := (eval_tmp a1 26).symm.trans (hS.get hBh (i := 18) rfl 17 (by simp) rfl rfl rfl)
    refine wpOp_call (f := 44) (args := #[.int .i64 c]) (R := fun u W2 => u = .string ic ∧ Below W.heap.size W W2) rfl rfl (by simp [execOp, resolve, invoke, e26, go_sem]) (((HIc).out W hJ).mono fun e W2 ⟨h1, h2⟩ => ⟨_, h1, rfl, h2⟩) ?_
    rintro u W2 ⟨rfl, r2⟩
    exact hK _ _ (hS.put hon (i := 18) rfl rfl (fun u hu => by cases hu; rfl)) (hJ.trans (r2.mono hJ.size))
   ·have e24 := (eval_tmp a1 24).symm.trans (hS.get hBh (i := 19) rfl 15 (by simp) rfl rfl rfl)
    have e27 := (eval_tmp a1 27).symm.trans (hS.get hBh (i := 19) rfl 18 (by simp) rfl rfl rfl)
    refine wpOp_step rfl (fun K' hK' => ?_)
    go_simp
    rw [if_neg (by omega)]
    exact hK' _ _ (hK _ _ (hS.put hon (i := 19) rfl rfl (fun u hu => by cases hu; rfl)) hJ)
   ·have e28 := (eval_tmp a1 28).symm.trans (hS.get hBh (i := 20) rfl 19 (by simp) rfl rfl rfl)
    refine wpOp_step rfl (fun K' hK' => ?_)
    go_simp
    exact hK' _ _ (hK _ _ (hS.put hon (i := 20) rfl rfl (fun u hu => by cases hu; rfl)) hJ)
  ·intro L a1 wz hl hS hJ
   have hfr := hS.frame [9, 10, 11, 12, 13, 14, 15, 16, 17, 18, 19, 20, 21, 22, 23, 24, 25, 26, 27, 28, 2] rfl
   obtain ⟨zz, hz⟩ : ∃ z : Nat → Value, z = fun k => a1.eval (.tmp k) := ⟨_, rfl⟩
   rw [← hz] at hfr
   have z2 : zz 2 = .string (wd ++ ⟨#[32]⟩ ++ ia ++ ⟨#[32]⟩ ++ ib ++ ⟨#[32]⟩ ++ ic) := by rw [hz]; exact hS.val 20 _ 2 _ rfl rfl rfl (hl 20 (by decide))
   refine (‹∀ (a : Act) (w : World), Code.wp Tryz.prog _ _ a w → _› a1 wz ?_)
   rw [hfr]
   have HBZ2 : Hid (Below w.heap.size w wz) := HBW.out.trans (hJ.mono HBW.out.size)
   clear hfr hz hS hJ hl
   simp only [over, List.setIfInBounds_toArray, List.set_cons_zero, List.set_cons_succ, z2]
   clear z2
   go_wp2
   go_ret
   exact ⟨congrArg (fun t => Ending.returned (.string t)) HTX.out, HBZ2.out⟩
 ·have hge : (22 : Int) ≤ (op : Int) := by omega
  have hI : insT op a b c = [63] := by unfold insT; rw [if_neg h22]
  rw [hI]
  have hw0 : ∀ q, (w.alloc q).cell? ⟨2, 0, none⟩ = some (.slice (some ⟨g, o, none⟩) 22 cap) := fun q => (cell_kept (Below.heap_alloc _ _ _ hgv0)).trans hv0
  clear hst hv0 hI
  go_enter Tryz.func43, Tryz.ntmps43
  go_wp2
  go_ret
  exact ⟨rfl, HBA.out _⟩
set_option maxRecDepth 100000 in
set_option maxHeartbeats 4000000 in
theorem codeTexts_any {op : Nat} {a b c : Int} (w : World) (hL : Lt w) (hop : op ≤ 255) (ha : InZ a) (hb : InZ b) (hc : InZ c) :
 Calls Tryz.prog 11 #[.int .u8 (op : Int), .int .i64 a, .int .i64 b, .int .i64 c] w fun e w' => e = .returned (.bool true) ∧ Below w.heap.size w w' := by
 have HL : Hid (Lt w) := hL
 clear hL
 go_enter Tryz.func11, Tryz.ntmps11
 go_wp2_with fail
 refine (awake9 _ HL.out.lz).mono ?_
 rintro e w0 ⟨rfl, b1⟩
 have HB0 : Hid (Below w.heap.size w w0) := b1
 have HL0 : Hid (Lt w0) := HL.out.below b1
 clear b1 HL
 go_wp2_with fail
 obtain ⟨w1, hw1⟩ : ∃ w1, w1 = w0.alloc (.cells #[.int .u8 (op : Int), .int .i64 a, .int .i64 b, .int .i64 c] 66) := ⟨_, rfl⟩
 obtain ⟨gb, hgb⟩ : ∃ gb, gb = w0.heap.size := ⟨_, rfl⟩
 have HBX : Hid (w1.heap[gb]? = some (.cells #[.int .u8 (op : Int), .int .i64 a, .int .i64 b, .int .i64 c] 66 (0, 0))) := by rw [hw1, hgb]; exact heap_alloc_new _ _
 have HBW : Hid (Below w.heap.size w w1) := by rw [hw1]; exact HB0.out.alloc HB0.out.size _
 have HL1 : Hid (Lt w1) := by rw [hw1]; exact HL0.out.below ((Below.refl _ _).alloc (Nat.le_refl _) _)
 have hgl : gb < w1.heap.size := lt_of_block HBX.out
 obtain ⟨T, hT⟩ : ∃ T : ByteArray, T = ⟨(insT op a b c).toArray⟩ := ⟨_, rfl⟩
 have HS1 : Hid (∀ W, Below w1.heap.size w1 W → Calls Tryz.prog 42 #[.agg #[.int .u8 (op : Int), .int .i64 a, .int .i64 b, .int .i64 c]] W fun e w' => e = .returned (.string T) ∧ Below W.heap.size W w') := fun W hW => by rw [hT]; exact insString_any W (HL1.out.below hW).lz.c (by omega) ha hb hc
 have HS2 : Hid (∀ W, Below w1.heap.size w1 W → Calls Tryz.prog 43 #[.agg #[.int .u8 (op : Int), .int .i64 a, .int .i64 b, .int .i64 c]] W fun e w' => e = .returned (.string T) ∧ Below W.heap.size W w') := fun W hW => by rw [hT]; exact insLaw_any W (HL1.out.below hW) (by omega) ha hb hc
 rw [← hw1, ← hgb]
 clear hw1 hgb hT
 refine region_sh (fun | 0 => some (.agg #[.int .u8 (op : Int), .int .i64 a, .int .i64 b, .int .i64 c]) | 1 => some (.string T) | 2 => some (.agg #[.int .u8 (op : Int), .int .i64 a, .int .i64 b, .int .i64 c]) | 3 => some (.string T) | 4 => some (.bool true) | 5 => some (.bool true) | _ => none) (fun _ _ W => Below w1.heap.size w1 W) (by kernel_rfl) (by kernel_rfl) (by kernel_rfl) ((Below.refl _ _).drew) ?_ ?_
 ·intro hon q hq L a1 W hC hl hBh hS hJ K hK
  have hqn : q < 6 := hq
  clear hq
  rcases (show q = 0 ∨ q = 1 ∨ q = 2 ∨ q = 3 ∨ q = 4 ∨ q = 5 from by omega) with rfl | rfl | rfl | rfl | rfl | rfl
  ·have e9 := (eval_tmp a1 9).symm.trans ((hS.kept 9 (by kernel_rfl)).trans rfl)
   have hbx : W.heap[gb]? = _ := (hJ.block gb hgl).trans HBX.out
   have hc0 : W.cell? ⟨gb, 0, none⟩ = some (.int .u8 (op : Int)) := by simp [World.cell?, hbx]
   have hc1 : W.cell? ⟨gb, 1, none⟩ = some (.int .i64 a) := by simp [World.cell?, hbx]
   have hc2 : W.cell? ⟨gb, 2, none⟩ = some (.int .i64 b) := by simp [World.cell?, hbx]
   have hc3 : W.cell? ⟨gb, 3, none⟩ = some (.int .i64 c) := by simp [World.cell?, hbx]
   refine wpOp_step rfl (fun K' hK' => ?_)
   go_simp
   exact hK' _ _ (hK _ _ (hS.put hon (i := 0) rfl rfl (fun u hu => by cases hu; rfl)) hJ)
  ·have e17 := (eval_tmp a1 17).symm.trans (hS.get hBh (i := 1) rfl 0 (by simp) rfl rfl rfl)
   refine wpOp_call (f := 42) (args := #[.agg #[.int .u8 (op : Int), .int .i64 a, .int .i64 b, .int .i64 c]]) (R := fun u W2 => u = .string T ∧ Below W.heap.size W W2) rfl rfl (by simp [execOp, resolve, invoke, e17, go_sem]) (((HS1).out W hJ).mono fun e W2 ⟨h1, h2⟩ => ⟨_, h1, rfl, h2⟩) ?_
   rintro u W2 ⟨rfl, r2⟩
   exact hK _ _ (hS.put hon (i := 1) rfl rfl (fun u hu => by cases hu; rfl)) (hJ.trans (r2.mono hJ.size))
  ·have e9 := (eval_tmp a1 9).symm.trans ((hS.kept 9 (by kernel_rfl)).trans rfl)
   have hbx : W.heap[gb]? = _ := (hJ.block gb hgl).trans HBX.out
   have hc0 : W.cell? ⟨gb, 0, none⟩ = some (.int .u8 (op : Int)) := by simp [World.cell?, hbx]
   have hc1 : W.cell? ⟨gb, 1, none⟩ = some (.int .i64 a) := by simp [World.cell?, hbx]
   have hc2 : W.cell? ⟨gb, 2, none⟩ = some (.int .i64 b) := by simp [World.cell?, hbx]
   have hc3 : W.cell? ⟨gb, 3, none⟩ = some (.int .i64 c) := by simp [World.cell?, hbx]
   refine wpOp_step rfl (fun K' hK' => ?_)
   go_simp
   exact hK' _ _ (hK _ _ (hS.put hon (i := 2) rfl rfl (fun u hu => by cases hu; rfl)) hJ)
  ·have e19 := (eval_tmp a1 19).symm.trans (hS.get hBh (i := 3) rfl 2 (by simp) rfl rfl rfl)
   refine wpOp_call (f := 43) (args := #[.agg #[.int .u8 (op : Int), .int .i64 a, .int .i64 b, .int .i64 c]]) (R := fun u W2 => u = .string T ∧ Below W.heap.size W W2) rfl rfl (by simp [execOp, resolve, invoke, e19, go_sem]) (((HS2).out W hJ).mono fun e W2 ⟨h1, h2⟩ => ⟨_, h1, rfl, h2⟩) ?_
   rintro u W2 ⟨rfl, r2⟩
   exact hK _ _ (hS.put hon (i := 3) rfl rfl (fun u hu => by cases hu; rfl)) (hJ.trans (r2.mono hJ.size))
  ·have e18 := (eval_tmp a1 18).symm.trans (hS.get hBh (i := 4) rfl 1 (by simp) rfl rfl rfl)
   have e20 := (eval_tmp a1 20).symm.trans (hS.get hBh (i := 4) rfl 3 (by simp) rfl rfl rfl)
   refine wpOp_step rfl (fun K' hK' => ?_)
   go_simp
   exact hK' _ _ (hK _ _ (hS.put hon (i := 4) rfl rfl (fun u hu => by cases hu; rfl)) hJ)
  ·have e21 := (eval_tmp a1 21).symm.trans (hS.get hBh (i := 5) rfl 4 (by simp) rfl rfl rfl)
   refine wpOp_step rfl (fun K' hK' => ?_)
   go_simp
   exact hK' _ _ (hK _ _ (hS.put hon (i := 5) rfl rfl (fun u hu => by cases hu; rfl)) hJ)
 ·intro L a1 wz hl hS hJ
  have hfr := hS.frame [17, 18, 19, 20, 21, 8] rfl
  obtain ⟨zz, hz⟩ : ∃ z : Nat → Value, z = fun k => a1.eval (.tmp k) := ⟨_, rfl⟩
  rw [← hz] at hfr
  have z8 : zz 8 = .bool true := by rw [hz]; exact hS.val 5 _ 8 _ rfl rfl rfl (hl 5 (by decide))
  refine (‹∀ (a : Act) (w : World), Code.wp Tryz.prog _ _ a w → _› a1 wz ?_)
  rw [hfr]
  have HBZ2 : Hid (Below w.heap.size w wz) := HBW.out.trans (hJ.mono HBW.out.size)
  clear hfr hz hS hJ hl
  simp only [over, List.setIfInBounds_toArray, List.set_cons_zero, List.set_cons_succ, z8]
  clear z8
  go_wp2
  go_ret
  exact ⟨rfl, HBZ2.out⟩
end Go.Proofs.YtenfphbhofibjaaGreatDoor

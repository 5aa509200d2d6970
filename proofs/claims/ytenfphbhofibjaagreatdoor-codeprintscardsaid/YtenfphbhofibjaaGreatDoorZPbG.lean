/-
 Pa7, Pa8, joined.
 Conditions: as each theorem says.
-/
import Derived.Test.YtenfphbhofibjaaGreatDoorZPbE
import Derived.Test.YtenfphbhofibjaaGreatDoorZPbD
set_option maxRecDepth 100000
set_option maxHeartbeats 4000000
set_option linter.unusedVariables false
set_option linter.unusedSimpArgs false
namespace Go.Proofs.YtenfphbhofibjaaGreatDoor
open Go.RowKit LM TM PM
theorem binLoop_end {lower : List Tok → PR TE} {t k : Nat} {x : TE} {tk : List Tok} (h : pOp t tk = none) : binLoop lower t (k + 1) x tk = .ok x tk := by rw [binLoop, h]
theorem binLoop_bad {lower : List Tok → PR TE} {t k op a e : Nat} {x : TE} {tk : List Tok} (h : pOp t tk = some op) (hx : lower tk.tail = .bad a e) : binLoop lower t (k + 1) x tk = .bad a e := by rw [binLoop, h]; simp only [hx, PR.bind]
theorem binLoop_one {lower : List Tok → PR TE} {k op : Nat} {x y : TE} {tk tk1 : List Tok} (h : pOp 0 tk = some op) (hx : lower tk.tail = .ok y tk1) : binLoop lower 0 (k + 1) x tk = .ok (mkE op [x, y]) tk1 := by rw [binLoop, h]; simp only [hx, PR.bind, if_pos]
theorem binLoop_ok {lower : List Tok → PR TE} {t k op : Nat} {x y : TE} {tk tk1 : List Tok} (ht : t ≠ 0) (h : pOp t tk = some op) (hx : lower tk.tail = .ok y tk1) : binLoop lower t (k + 1) x tk = binLoop lower t k (mkE op [x, y]) tk1 := by rw [binLoop, h]; simp only [hx, PR.bind, if_neg ht]
theorem binary3_ok {pb d : Nat} {U : List Tok → PR TE} (hU : OkU pb d U) (hUE : Eats U) : OkBin pb d 3 U := by
 intro w ts hP hG
 have hpl := hP.lt
 have HP := Lib.hid hP
 have HGD := Lib.hid hG
 clear hP hG
 go_enter Tryz.func176, Tryz.ntmps176
 go_wp2_with fail
 refine (hU _ _ (HP.out.alloc _) HGD.out).mono ?_
 rintro en W1 hR
 cases hx : U ts with
 | bad a e =>
  rw [hx] at hR
  obtain ⟨rfl, hb⟩ := hR
  exact ⟨rfl, ret_bad (by simp only [hx, PR.bind, ↓reduceIte, Bool.false_eq_true]) ((grown_to_below (gr_alloc (gr_refl _ _) _) (Nat.le_of_lt hpl)).trans hb)⟩
 | ok x1 ts1 =>
  rw [hx] at hR
  have K1 : Hid (GoodT ts1) := (hUE _ HGD.out _ _ hx).1
  obtain ⟨⟨va, vb, vc, rfl, hL⟩, h, g⟩ := hR
  obtain ⟨op1, num1, text1, ps1, pm1, bd1⟩ := x1
  obtain ⟨pa1, pc1, na1, nc1, ba1, bc1, rfl, rfl, rfl⟩ := hL.at'.slices
  have X1 := Lib.hid hx
  clear hx
  have hL2 : Hid (Lie (XE (.mk op1 num1 text1 ps1 pm1 bd1) (.slice pa1 ps1.length pc1) (.slice na1 pm1.length nc1) (.slice ba1 bd1.length bc1)) (w.heap.size + 1) W1.heap.size W1) := by have h9 := hL; simp only [World.size_alloc] at h9; exact h9
  clear hL
  have H1 := Lib.hid h
  have G1 : Hid (w.grownBy W1 (some pb)) := gr_trans (gr_alloc (gr_refl _ _) _) g
  have hs1 : w.heap.size ≤ W1.heap.size := G1.out.size
  have hm1 : w.heap.size + 1 ≤ W1.heap.size := by have := g.size; simpa using this
  have B1_0 : Hid (W1.heap[w.heap.size]? = some (.cells #[.int .i64 0, .int .i64 0, .string ⟨#[]⟩, .slice none 0 0, .slice none 0 0, .slice none 0 0] 35 (0, 0))) := blk_new g (by omega)
  clear h g
  have L1_0 : Hid (Lie (XE (.mk op1 num1 text1 ps1 pm1 bd1) (.slice pa1 ps1.length pc1) (.slice na1 pm1.length nc1) (.slice ba1 bd1.length bc1)) (w.heap.size + 1) W1.heap.size W1) := hL2
  clear hL2
  unfold exV
  have rh := B1_0.out
  have r0 : W1.cell? ⟨w.heap.size, 0, none⟩ = some (.int .i64 0) := by simp [World.cell?, rh]
  have r1 : W1.cell? ⟨w.heap.size, 1, none⟩ = some (.int .i64 0) := by simp [World.cell?, rh]
  have r2 : W1.cell? ⟨w.heap.size, 2, none⟩ = some (.string ⟨#[]⟩) := by simp [World.cell?, rh]
  have r3 : W1.cell? ⟨w.heap.size, 3, none⟩ = some (.slice none 0 0) := by simp [World.cell?, rh]
  have r4 : W1.cell? ⟨w.heap.size, 4, none⟩ = some (.slice none 0 0) := by simp [World.cell?, rh]
  have r5 : W1.cell? ⟨w.heap.size, 5, none⟩ = some (.slice none 0 0) := by simp [World.cell?, rh]
  have rf : ∀ i, W1.frozen? ⟨w.heap.size, i, none⟩ = false := fun i => by simp [World.frozen?, rh]
  have rl : w.heap.size < W1.heap.size := lt_of_block rh
  clear rh
  go_wp2_with fail
  obtain ⟨y0, y1, y2, y3, y4, y5⟩ := six7_cell (a := .int .i64 (op1 : Int)) (b := .int .i64 num1) (c := .string text1) (d := .slice pa1 ps1.length pc1) (e := .slice na1 pm1.length nc1) (f := .slice ba1 bd1.length bc1) B1_0.out
  have hsz9 : (six7 W1 w.heap.size (.int .i64 (op1 : Int)) (.int .i64 num1) (.string text1) (.slice pa1 ps1.length pc1) (.slice na1 pm1.length nc1) (.slice ba1 bd1.length bc1)).heap.size = W1.heap.size := six7_size
  have f1 : PAt (six7 W1 w.heap.size (.int .i64 (op1 : Int)) (.int .i64 num1) (.string text1) (.slice pa1 ps1.length pc1) (.slice na1 pm1.length nc1) (.slice ba1 bd1.length bc1)) pb ts1 d := six_pat H1.out (by omega)
  have f2 : w.grownBy (six7 W1 w.heap.size (.int .i64 (op1 : Int)) (.int .i64 num1) (.string text1) (.slice pa1 ps1.length pc1) (.slice na1 pm1.length nc1) (.slice ba1 bd1.length bc1)) (some pb) := six_gr (G1.out) (by omega)
  have f3_0 : Lie (XE (.mk op1 num1 text1 ps1 pm1 bd1) (.slice pa1 ps1.length pc1) (.slice na1 pm1.length nc1) (.slice ba1 bd1.length bc1)) (w.heap.size + 1) W1.heap.size (six7 W1 w.heap.size (.int .i64 (op1 : Int)) (.int .i64 num1) (.string text1) (.slice pa1 ps1.length pc1) (.slice na1 pm1.length nc1) (.slice ba1 bd1.length bc1)) := six_lie L1_0.out (by omega)
  obtain ⟨W9, hW9⟩ : ∃ W9, six7 W1 w.heap.size (.int .i64 (op1 : Int)) (.int .i64 num1) (.string text1) (.slice pa1 ps1.length pc1) (.slice na1 pm1.length nc1) (.slice ba1 bd1.length bc1) = W9 := ⟨_, rfl⟩
  rw [hW9] at y0 y1 y2 y3 y4 y5 hsz9 f1 f2 f3_0
  unfold six7 at hW9
  rw [hW9]
  clear hW9
  have f4 := f3_0.wider (s' := w.heap.size) (e' := W9.heap.size) (by omega) f3_0.lt (Nat.le_refl _)
  have HF := Lib.hid f4
  clear f4 f3_0
  refine bodyPost_ret (v := exV (.mk op1 num1 text1 ps1 pm1 bd1) (.slice pa1 ps1.length pc1) (.slice na1 pm1.length nc1) (.slice ba1 bd1.length bc1)) (by simp [results, Tryz.results176, go_sem, exV, y0, y1, y2, y3, y4, y5, hsz9]) rfl (ret_ok (x := (.mk op1 num1 text1 ps1 pm1 bd1)) (by simp only [X1.out, PR.bind, ↓reduceIte, Bool.false_eq_true]) ⟨_, _, _, rfl, HF.out⟩ f1 f2)
theorem binary2_ok {pb d : Nat} {lower : List Tok → PR TE} (hL : OkBin pb d 3 lower) (hLE : Eats lower) : OkBin pb d 2 (pBin lower 2) := by
 intro w ts hP hG
 have hpl := hP.lt
 have HP := Lib.hid hP
 have HGD := Lib.hid hG
 clear hP hG
 go_enter Tryz.func176, Tryz.ntmps176
 go_wp2_with fail
 refine (hL _ _ (HP.out.alloc _) HGD.out).mono ?_
 rintro en W1 hR
 cases hx : lower ts with
 | bad a e =>
  rw [hx] at hR
  obtain ⟨rfl, hb⟩ := hR
  exact ⟨rfl, ret_bad (by simp only [pBin, hx, PR.bind, ↓reduceIte, Bool.false_eq_true]) ((grown_to_below (gr_alloc (gr_refl _ _) _) (Nat.le_of_lt hpl)).trans hb)⟩
 | ok x1 ts1 =>
  rw [hx] at hR
  have K1 : Hid (GoodT ts1) := (hLE _ HGD.out _ _ hx).1
  obtain ⟨⟨va, vb, vc, rfl, hL⟩, h, g⟩ := hR
  obtain ⟨op1, num1, text1, ps1, pm1, bd1⟩ := x1
  obtain ⟨pa1, pc1, na1, nc1, ba1, bc1, rfl, rfl, rfl⟩ := hL.at'.slices
  have X1 := Lib.hid hx
  clear hx
  have hL2 : Hid (Lie (XE (.mk op1 num1 text1 ps1 pm1 bd1) (.slice pa1 ps1.length pc1) (.slice na1 pm1.length nc1) (.slice ba1 bd1.length bc1)) (w.heap.size + 1) W1.heap.size W1) := by have h9 := hL; simp only [World.size_alloc] at h9; exact h9
  clear hL
  have H1 := Lib.hid h
  have G1 : Hid (w.grownBy W1 (some pb)) := gr_trans (gr_alloc (gr_refl _ _) _) g
  have hs1 : w.heap.size ≤ W1.heap.size := G1.out.size
  have hm1 : w.heap.size + 1 ≤ W1.heap.size := by have := g.size; simpa using this
  have B1_0 : Hid (W1.heap[w.heap.size]? = some (.cells #[.int .i64 0, .int .i64 0, .string ⟨#[]⟩, .slice none 0 0, .slice none 0 0, .slice none 0 0] 35 (0, 0))) := blk_new g (by omega)
  clear h g
  have L1_0 : Hid (Lie (XE (.mk op1 num1 text1 ps1 pm1 bd1) (.slice pa1 ps1.length pc1) (.slice na1 pm1.length nc1) (.slice ba1 bd1.length bc1)) (w.heap.size + 1) W1.heap.size W1) := hL2
  clear hL2
  unfold exV
  go_wp2_with fail
  have HRR : Hid (pBin lower 2 ts = binLoop lower 2 (ts1.length + 1) (.mk op1 num1 text1 ps1 pm1 bd1) ts1) := by show _ = _; simp only [pBin, X1.out, PR.bind]
  have hn01 : w.heap.size + 1 ≤ W1.heap.size := hm1
  go_loopw [] (fun wr => ∃ (k : Nat) (tk : List Tok) (op0 : Nat) (num0 : Int) (text0 : ByteArray) (ps0 : List TE) (pm0 : List ByteArray) (bd0 : List TS) (pa0 : Option Addr) (pc0 : Nat) (na0 : Option Addr) (nc0 : Nat) (ba0 : Option Addr) (bc0 : Nat), Hid (wr.heap[W1.heap.size]? = some (.cells #[.int .i64 (op0 : Int), .int .i64 num0, .string text0, .slice pa0 ps0.length pc0, .slice na0 pm0.length nc0, .slice ba0 bd0.length bc0] 35 (0, 0))) ∧ Hid (wr.heap[w.heap.size]? = some (.cells #[.int .i64 0, .int .i64 0, .string ⟨#[]⟩, .slice none 0 0, .slice none 0 0, .slice none 0 0] 35 (0, 0))) ∧ Hid (LieN (XE (.mk op0 num0 text0 ps0 pm0 bd0) (.slice pa0 ps0.length pc0) (.slice na0 pm0.length nc0) (.slice ba0 bd0.length bc0)) (w.heap.size + 1) W1.heap.size wr) ∧ Hid (PAt wr pb tk d) ∧ Hid (w.grownBy wr (some pb)) ∧ Hid (GoodT tk) ∧ Hid (tk.length ≤ k) ∧ Hid (pBin lower 2 ts = binLoop lower 2 (k + 1) (.mk op0 num0 text0 ps0 pm0 bd0) tk))
   (fun wr => restLen wr pb)
  case atStart => exact ⟨ts1.length, ts1, _, _, _, _, _, _, _, _, _, _, _, _, heap_alloc_new _ _, block_alloc B1_0.out _, (LieN.of L1_0.out (Nat.le_refl _) (.inr (Nat.le_refl _))).alloc _, H1.out.alloc _, gr_alloc G1.out _, K1, Nat.le_refl _, HRR⟩
  case round =>
   obtain ⟨k, tk, op0, num0, text0, ps0, pm0, bd0, pa0, pc0, na0, nc0, ba0, bc0, HB1, HB0, HLX, HPR, HGR, HGK, HLE, HEQ⟩ := hrel
   have HM0 : Hid (restLen wr pb = tk.length) := restLen_of HPR.out
   have hl1 : W1.heap.size < wr.heap.size := lt_of_block HB1.out
   clear H1 G1 B1_0 L1_0 HRR X1 K1 hs1 hm1
   go_wp2_with fail
   refine (op_any HPR.out HGK.out 2 (by decide)).mono ?_
   rintro en Wm ⟨rfl, h, g⟩
   have hsm : wr.heap.size ≤ Wm.heap.size := g.size
   have HB1m : Hid (Wm.heap[W1.heap.size]? = some (.cells #[.int .i64 (op0 : Int), .int .i64 num0, .string text0, .slice pa0 ps0.length pc0, .slice na0 pm0.length nc0, .slice ba0 bd0.length bc0] 35 (0, 0))) := blk_next HB1.out (Below.refl _ _) g (by omega)
   have HB0m : Hid (Wm.heap[w.heap.size]? = some (.cells #[.int .i64 0, .int .i64 0, .string ⟨#[]⟩, .slice none 0 0, .slice none 0 0, .slice none 0 0] 35 (0, 0))) := blk_next HB0.out (Below.refl _ _) g (by omega)
   have HLXm := Lib.hid (HLX.out.gr g (by omega))
   have HGm : Hid (w.grownBy Wm (some pb)) := gr_trans HGR.out g
   rcases op_cases (pOp 2 tk) with ho | ⟨op, ho⟩
   ·rw [ho] at h ⊢
    rw [if_neg (by simp)] at h
    have HPm := Lib.hid h
    have HO := Lib.hid ho
    clear h g ho HB1 HB0 HLX HPR HGR
    have rh := HB0m.out
    have r0 : Wm.cell? ⟨w.heap.size, 0, none⟩ = some (.int .i64 0) := by simp [World.cell?, rh]
    have r1 : Wm.cell? ⟨w.heap.size, 1, none⟩ = some (.int .i64 0) := by simp [World.cell?, rh]
    have r2 : Wm.cell? ⟨w.heap.size, 2, none⟩ = some (.string ⟨#[]⟩) := by simp [World.cell?, rh]
    have r3 : Wm.cell? ⟨w.heap.size, 3, none⟩ = some (.slice none 0 0) := by simp [World.cell?, rh]
    have r4 : Wm.cell? ⟨w.heap.size, 4, none⟩ = some (.slice none 0 0) := by simp [World.cell?, rh]
    have r5 : Wm.cell? ⟨w.heap.size, 5, none⟩ = some (.slice none 0 0) := by simp [World.cell?, rh]
    have rf : ∀ i, Wm.frozen? ⟨w.heap.size, i, none⟩ = false := fun i => by simp [World.frozen?, rh]
    have rl : w.heap.size < Wm.heap.size := lt_of_block rh
    clear rh
    have qh := HB1m.out
    have q0 : Wm.cell? ⟨W1.heap.size, 0, none⟩ = some (.int .i64 (op0 : Int)) := by simp [World.cell?, qh]
    have q1 : Wm.cell? ⟨W1.heap.size, 1, none⟩ = some (.int .i64 num0) := by simp [World.cell?, qh]
    have q2 : Wm.cell? ⟨W1.heap.size, 2, none⟩ = some (.string text0) := by simp [World.cell?, qh]
    have q3 : Wm.cell? ⟨W1.heap.size, 3, none⟩ = some (.slice pa0 ps0.length pc0) := by simp [World.cell?, qh]
    have q4 : Wm.cell? ⟨W1.heap.size, 4, none⟩ = some (.slice na0 pm0.length nc0) := by simp [World.cell?, qh]
    have q5 : Wm.cell? ⟨W1.heap.size, 5, none⟩ = some (.slice ba0 bd0.length bc0) := by simp [World.cell?, qh]
    have qf : ∀ i, Wm.frozen? ⟨W1.heap.size, i, none⟩ = false := fun i => by simp [World.frozen?, qh]
    have ql : W1.heap.size < Wm.heap.size := lt_of_block qh
    clear qh
    go_wp2_with fail
    obtain ⟨y0, y1, y2, y3, y4, y5⟩ := six7_cell (a := .int .i64 (op0 : Int)) (b := .int .i64 num0) (c := .string text0) (d := .slice pa0 ps0.length pc0) (e := .slice na0 pm0.length nc0) (f := .slice ba0 bd0.length bc0) HB0m.out
    have f1 : PAt (six7 Wm w.heap.size (.int .i64 (op0 : Int)) (.int .i64 num0) (.string text0) (.slice pa0 ps0.length pc0) (.slice na0 pm0.length nc0) (.slice ba0 bd0.length bc0)) pb tk d := six_pat HPm.out (by omega)
    have f2 : w.grownBy (six7 Wm w.heap.size (.int .i64 (op0 : Int)) (.int .i64 num0) (.string text0) (.slice pa0 ps0.length pc0) (.slice na0 pm0.length nc0) (.slice ba0 bd0.length bc0)) (some pb) := six_gr HGm.out (by omega)
    have f3 := HLXm.out.six2 (g := w.heap.size) (a := .int .i64 (op0 : Int)) (b := .int .i64 num0) (c := .string text0) (d := .slice pa0 ps0.length pc0) (e1 := .slice na0 pm0.length nc0) (f := .slice ba0 bd0.length bc0) (by omega)
    have f4 := f3.lie (s' := w.heap.size) (by omega) f2.size
    obtain ⟨W9, hW9⟩ : ∃ W9, six7 Wm w.heap.size (.int .i64 (op0 : Int)) (.int .i64 num0) (.string text0) (.slice pa0 ps0.length pc0) (.slice na0 pm0.length nc0) (.slice ba0 bd0.length bc0) = W9 := ⟨_, rfl⟩
    rw [hW9] at y0 y1 y2 y3 y4 y5 f1 f2 f4
    unfold six7 at hW9
    rw [hW9]
    clear hW9 f3
    have HF := Lib.hid f4
    clear f4
    refine bodyPost_ret (v := exV (.mk op0 num0 text0 ps0 pm0 bd0) (.slice pa0 ps0.length pc0) (.slice na0 pm0.length nc0) (.slice ba0 bd0.length bc0)) (by simp [results, Tryz.results176, go_sem, exV, mkE, y0, y1, y2, y3, y4, y5]) rfl (ret_ok (x := (.mk op0 num0 text0 ps0 pm0 bd0)) (HEQ.out.trans (binLoop_end HO.out)) ⟨_, _, _, rfl, HF.out⟩ f1 f2)
   ·rw [ho] at h ⊢
    rw [if_pos (by simp)] at h
    have hop := pOp_le ho
    have HPm := Lib.hid h
    have HO := Lib.hid ho
    have HKT : Hid (GoodT tk.tail) := (keep_tail HGK.out (pOp_kind ho) (by decide)).1
    have HKL : Hid (tk.tail.length < tk.length) := HGK.out.len
    clear h g ho HB1 HB0 HLX HPR HGR
    have hl1m : W1.heap.size < Wm.heap.size := by omega
    have hpm : pb ≤ Wm.heap.size := by omega
    go_wp2_with fail
    refine region_sh (fun | 0 => some (.int .i64 (op : Int)) | 1 => some (.agg #[.int .i64 (op0 : Int), .int .i64 num0, .string text0, .slice pa0 ps0.length pc0, .slice na0 pm0.length nc0, .slice ba0 bd0.length bc0]) | 2 => some (.pointer (some ⟨pb, 0, none⟩)) | 3 => some (.int .i64 2) | 4 => some (.int .i64 3) | _ => none) (JG Wm 4 (fun | 0 => 5 | 1 => 6 | 2 => 7 | _ => 8) (fun | 0 => 30 | 1 => 31 | 2 => 32 | _ => 0) (SB (lower tk.tail) Wm pb d W1.heap.size [.int .i64 (op0 : Int), .int .i64 num0, .string text0, .slice pa0 ps0.length pc0, .slice na0 pm0.length nc0, .slice ba0 bd0.length bc0] (op : Int))) (by kernel_rfl) (by kernel_rfl) (by kernel_rfl) (JG.start _) ?_ ?_
    ·intro hon q hq L a1 W hC hl hBh hS hJ K hK
     have hqn : q < 9 := hq
     clear hq
     rcases (show q = 0 ∨ q = 1 ∨ q = 2 ∨ q = 3 ∨ q = 4 ∨ q = 5 ∨ q = 6 ∨ q = 7 ∨ q = 8 from by omega) with rfl | rfl | rfl | rfl | rfl | rfl | rfl | rfl | rfl
     ·have e6 := (eval_tmp a1 6).symm.trans ((hS.kept 6 (by kernel_rfl)).trans rfl)
      refine wpOp_step rfl (fun K' hK' => ?_)
      go_simp
      exact hK' _ _ (hK _ _ (hS.put hon (i := 0) rfl rfl (fun u hu => by cases hu; rfl)) (hJ.pure (by decide) (by decide) (by decide)))
     ·have e5 : a1.eval (.tmp 5) = .pointer (some ⟨W1.heap.size, 0, none⟩) := (hS.kept 5 (by kernel_rfl)).trans rfl
      have n1 : L 6 = false := closed_not hC hl (i := 6) (j := 1) rfl (g := .data) (by simp) rfl
      have hbW : W.heap[W1.heap.size]? = some (.cells #[.int .i64 (op0 : Int), .int .i64 num0, .string text0, .slice pa0 ps0.length pc0, .slice na0 pm0.length nc0, .slice ba0 bd0.length bc0] 35 (0, 0)) := hJ.read (by decide) (fun W => W.heap[W1.heap.size]? = some (.cells #[.int .i64 (op0 : Int), .int .i64 num0, .string text0, .slice pa0 ps0.length pc0, .slice na0 pm0.length nc0, .slice ba0 bd0.length bc0] 35 (0, 0))) 1 (by decide) (fun _ => n1) HB1m.out (fun k v W hk hS2 => SB.blk (by omega) hS2 HB1m.out (by omega))
      refine wpOp_run rfl rfl (v := .agg #[.int .i64 (op0 : Int), .int .i64 num0, .string text0, .slice pa0 ps0.length pc0, .slice na0 pm0.length nc0, .slice ba0 bd0.length bc0]) (w' := W) (by simp [execOp, e5, ld6E hbW, Result.andThen]) (hK _ _ (hS.put hon (i := 1) rfl rfl (fun u hu => by cases hu; rfl)) (hJ.pure (by decide) (by decide) (by decide)))
     ·have e0 := (eval_tmp a1 0).symm.trans ((hS.kept 0 (by kernel_rfl)).trans rfl)
      refine wpOp_step rfl (fun K' hK' => ?_)
      go_simp
      exact hK' _ _ (hK _ _ (hS.put hon (i := 2) rfl rfl (fun u hu => by cases hu; rfl)) (hJ.pure (by decide) (by decide) (by decide)))
     ·have e1 := (eval_tmp a1 1).symm.trans ((hS.kept 1 (by kernel_rfl)).trans rfl)
      refine wpOp_step rfl (fun K' hK' => ?_)
      go_simp
      exact hK' _ _ (hK _ _ (hS.put hon (i := 3) rfl rfl (fun u hu => by cases hu; rfl)) (hJ.pure (by decide) (by decide) (by decide)))
     ·have e28 := (eval_tmp a1 28).symm.trans (hS.get hBh (i := 4) rfl 3 (by simp) rfl rfl rfl)
      refine wpOp_step rfl (fun K' hK' => ?_)
      go_simp
      exact hK' _ _ (hK _ _ (hS.put hon (i := 4) rfl rfl (fun u hu => by cases hu; rfl)) (hJ.pure (by decide) (by decide) (by decide)))
     ·have e27 := (eval_tmp a1 27).symm.trans (hS.get hBh (i := 5) rfl 2 (by simp) rfl rfl rfl)
      have e29 := (eval_tmp a1 29).symm.trans (hS.get hBh (i := 5) rfl 4 (by simp) rfl rfl rfl)
      obtain rfl := hJ.n0 hl
      refine wpOp_callP (f := 176) (args := #[.pointer (some ⟨pb, 0, none⟩), .int .i64 3]) (R := fun en W2 => Ret (lower tk.tail) Wm pb d (VE Wm) en W2) rfl rfl (by simp [execOp, resolve, invoke, e27, e29, go_sem]) ((hL _ _ HPm.out.drew HKT.out).mono fun en W2 h => ret_drew (V := VE) (fun _ _ _ h => h) h) ?_ ?_ (fun W2 => ret_out VE_o)
      ·intro v W2 hR
       obtain ⟨y, ts', a, b, c, h1, h2, h3, h4, h5⟩ := ret_E hR
       exact hK _ _ (hS.put hon (i := 5) rfl rfl (fun u hu => by cases hu)) (hJ.eff 0 (by decide) (fun j hj => by omega) hl (by decide) (a1.put (some 30) v) (by show SB (lower tk.tail) Wm pb d W1.heap.size [.int .i64 (op0 : Int), .int .i64 num0, .string text0, .slice pa0 ps0.length pc0, .slice na0 pm0.length nc0, .slice ba0 bd0.length bc0] (op : Int) 0 ((a1.put (some 30) v).eval (.tmp 30)) _; rw [eval_put _ _ _ _ (by rw [hS.size]; exact (by decide : (30 : Nat) < 36)), if_pos rfl]; exact ⟨y, ts', a, b, c, h2, h1, h3, h4, h5⟩))
      ·intro ch W2 hR
       obtain ⟨pa, pe, h1, rfl, h3⟩ := ret_panic VE_p hR
       exact ⟨hS.defers.trans rfl, ret_bad (HEQ.out.trans (binLoop_bad HO.out h1)) ((grown_to_below HGm.out (Nat.le_of_lt hpl)).trans h3)⟩
     ·have d0 : L 5 = true := hBh _ rfl ⟨5, .data⟩ (by simp) rfl
      have e26 := (hS.get hBh (i := 6) rfl 1 (by simp) rfl rfl rfl)
      obtain ⟨y, ts', a, b, c, hv, hY⟩ := hJ.cur 0 (by decide) d0 (fun _ => hl)
      obtain ⟨op9, num9, text9, ps9, pm9, bd9⟩ := y
      obtain ⟨pa9, pc9, na9, nc9, ba9, bc9, rfl, rfl, rfl⟩ := hY.lie.at'.slices
      have hv2 : a1.eval (.tmp 30) = .agg #[.int .i64 (op9 : Int), .int .i64 num9, .string text9, .slice pa9 ps9.length pc9, .slice na9 pm9.length nc9, .slice ba9 bd9.length bc9] := hv
      refine wpOp_run rfl rfl (v := .slice (some ⟨W.heap.size, 0, none⟩) 2 2) (w' := W.alloc (.cells #[.int .i64 (op0 : Int), .int .i64 num0, .string text0, .slice pa0 ps0.length pc0, .slice na0 pm0.length nc0, .slice ba0 bd0.length bc0, .int .i64 (op9 : Int), .int .i64 num9, .string text9, .slice pa9 ps9.length pc9, .slice na9 pm9.length nc9, .slice ba9 bd9.length bc9] 35)) (by simp [execOp, e26, hv2, lay2E, Result.andThen]) (hK _ _ (hS.put hon (i := 6) rfl rfl (fun u hu => by cases hu)) (hJ.eff 1 (by decide) (fun j hj => by obtain rfl : j = 0 := (by omega); exact d0) hl (by decide) (a1.put (some 31) (.slice (some ⟨W.heap.size, 0, none⟩) 2 2)) (by show SB (lower tk.tail) Wm pb d W1.heap.size [.int .i64 (op0 : Int), .int .i64 num0, .string text0, .slice pa0 ps0.length pc0, .slice na0 pm0.length nc0, .slice ba0 bd0.length bc0] (op : Int) 1 ((a1.put (some 31) (.slice (some ⟨W.heap.size, 0, none⟩) 2 2)).eval (.tmp 31)) _; rw [eval_put _ _ _ _ (by rw [hS.size]; exact (by decide : (31 : Nat) < 36)), if_pos rfl]; exact ⟨_, _, _, _, _, W, rfl, rfl, hY⟩)))
     ·have d1 : L 6 = true := hBh _ rfl ⟨6, .data⟩ (by simp) rfl
      have e25 := (hS.get hBh (i := 7) rfl 0 (by simp) rfl rfl rfl)
      obtain ⟨y, ts', a, b, c, Wc, hv, rfl, hY⟩ := hJ.cur 1 (by decide) d1 (fun _ => hl)
      have hv2 : a1.eval (.tmp 31) = .slice (some ⟨Wc.heap.size, 0, none⟩) 2 2 := hv
      refine wpOp_run rfl rfl (v := .agg #[.int .i64 (op : Int), .int .i64 0, .string ⟨#[]⟩, .slice (some ⟨Wc.heap.size, 0, none⟩) 2 2, .slice none 0 0, .slice none 0 0]) (w' := Wc.alloc (rowO [.int .i64 (op0 : Int), .int .i64 num0, .string text0, .slice pa0 ps0.length pc0, .slice na0 pm0.length nc0, .slice ba0 bd0.length bc0] y a b c)) (by simp [execOp, e25, hv2, bldE, Result.andThen]) (hK _ _ (hS.put hon (i := 7) rfl rfl (fun u hu => by cases hu)) (hJ.eff 2 (by decide) (fun j hj => by obtain rfl : j = 1 := (by omega); exact d1) hl (by decide) (a1.put (some 32) (.agg #[.int .i64 (op : Int), .int .i64 0, .string ⟨#[]⟩, .slice (some ⟨Wc.heap.size, 0, none⟩) 2 2, .slice none 0 0, .slice none 0 0])) (by show SB (lower tk.tail) Wm pb d W1.heap.size [.int .i64 (op0 : Int), .int .i64 num0, .string text0, .slice pa0 ps0.length pc0, .slice na0 pm0.length nc0, .slice ba0 bd0.length bc0] (op : Int) 2 ((a1.put (some 32) (.agg #[.int .i64 (op : Int), .int .i64 0, .string ⟨#[]⟩, .slice (some ⟨Wc.heap.size, 0, none⟩) 2 2, .slice none 0 0, .slice none 0 0])).eval (.tmp 32)) _; rw [eval_put _ _ _ _ (by rw [hS.size]; exact (by decide : (32 : Nat) < 36)), if_pos rfl]; exact ⟨_, _, _, _, _, Wc, rfl, rfl, hY⟩)))
     ·have d2 : L 7 = true := hBh _ rfl ⟨7, .data⟩ (by simp) rfl
      have e5 : a1.eval (.tmp 5) = .pointer (some ⟨W1.heap.size, 0, none⟩) := (hS.kept 5 (by kernel_rfl)).trans rfl
      have hS2 := hJ.cur 2 (by decide) d2 (fun _ => hl)
      have hbW := SB.blk (by decide) hS2 HB1m.out (by omega)
      obtain ⟨y, ts', a, b, c, Wc, hv, rfl, hY⟩ := hS2
      have hv2 : a1.eval (.tmp 32) = .agg #[.int .i64 (op : Int), .int .i64 0, .string ⟨#[]⟩, .slice (some ⟨Wc.heap.size, 0, none⟩) 2 2, .slice none 0 0, .slice none 0 0] := hv
      refine wpOp_skip rfl rfl rfl (w' := six7 (Wc.alloc (rowO [.int .i64 (op0 : Int), .int .i64 num0, .string text0, .slice pa0 ps0.length pc0, .slice na0 pm0.length nc0, .slice ba0 bd0.length bc0] y a b c)) W1.heap.size (.int .i64 (op : Int)) (.int .i64 0) (.string ⟨#[]⟩) (.slice (some ⟨Wc.heap.size, 0, none⟩) 2 2) (.slice none 0 0) (.slice none 0 0)) (by simp [execOp, e5, hv2, st6E hbW, Result.andThen]) (hK _ _ (hS.none (i := 8) rfl rfl) (hJ.eff 3 (by decide) (fun j hj => by obtain rfl : j = 2 := (by omega); exact d2) hl (by decide) _ ⟨_, _, _, _, _, Wc, rfl, hY⟩))
    ·intro L a1 wz hl hS hJ
     obtain ⟨y, ts', ya, yb, yc, Wc, hwz, hY⟩ := hJ.cur 3 (by decide) (hl 8 (by decide)) (fun h => absurd h (by decide))
     have hfr := hS.frame [25, 26, 27, 28, 29, 30, 31, 32] rfl
     refine (‹∀ (a : Act) (w : World), Code.wp Tryz.prog _ _ a w → _› a1 wz ?_)
     obtain ⟨zz, hz⟩ : ∃ z : Nat → Value, z = fun k => a1.eval (.tmp k) := ⟨_, rfl⟩
     rw [← hz] at hfr
     rw [hfr]
     clear hfr hz hS hJ hl
     simp only [over, List.setIfInBounds_toArray, List.set_cons_zero, List.set_cons_succ]
     obtain ⟨hGy, hly⟩ := hLE _ HKT.out _ _ hY.eq
     have HGY := Lib.hid hGy
     have hsc : Wm.heap.size ≤ Wc.heap.size := hY.gr.size
     have HB1z : Hid (wz.heap[W1.heap.size]? = some (.cells #[.int .i64 (op : Int), .int .i64 0, .string ⟨#[]⟩, .slice (some ⟨Wc.heap.size, 0, none⟩) 2 2, .slice none 0 0, .slice none 0 0] 35 (0, 0))) := by show _ = _; rw [hwz]; exact six7_block (block_alloc (blk_next HB1m.out (Below.refl _ _) hY.gr (by omega)) _)
     have HB0z : Hid (wz.heap[w.heap.size]? = some (.cells #[.int .i64 0, .int .i64 0, .string ⟨#[]⟩, .slice none 0 0, .slice none 0 0, .slice none 0 0] 35 (0, 0))) := by show _ = _; rw [hwz, six7_other (by omega)]; exact block_alloc (blk_next HB0m.out (Below.refl _ _) hY.gr (by omega)) _
     have HLXz : Hid (LieN (XE (mkE op [(.mk op0 num0 text0 ps0 pm0 bd0), y]) (.slice (some ⟨Wc.heap.size, 0, none⟩) 2 2) (.slice none 0 0) (.slice none 0 0)) (w.heap.size + 1) W1.heap.size wz) := by show LieN _ _ _ _; rw [hwz]; exact (mkE_N (m := 2) (escN2 (HLXm.out.gr hY.gr (by omega)) (LieN.of hY.lie (by omega) (.inl (by omega)))) (by omega) (by omega) rfl (by decide) (by decide) (by omega) (fun _ => rfl)).six
     have HPz : Hid (PAt wz pb ts' d) := by show PAt _ _ _ _; rw [hwz]; exact six_pat (hY.pat.alloc _) (by omega)
     have HGz : Hid (w.grownBy wz (some pb)) := by show World.grownBy _ _ _; rw [hwz]; exact six_gr (gr_alloc (gr_trans HGm.out hY.gr) _) (by omega)
     have HEY := Lib.hid hY.eq
     have hlz : W1.heap.size < wz.heap.size := lt_of_block HB1z.out
     obtain ⟨k1, hk1⟩ : ∃ k1, k = k1 + 1 := ⟨k - 1, by have := HLE.out; have := HKL.out; omega⟩
     have HLE1 : Hid (ts'.length ≤ k1) := by show _ ≤ _; have := HLE.out; have := HKL.out; omega
     have HLT : Hid (ts'.length < tk.length) := by show _ < _; have := HKL.out; omega
     have HEQ1 : Hid (pBin lower 2 ts = binLoop lower 2 (k1 + 1) (mkE op [(.mk op0 num0 text0 ps0 pm0 bd0), y]) ts') := by show _ = _; rw [HEQ.out, hk1]; exact binLoop_ok (by decide) HO.out HEY.out
     have HM1 : Hid (restLen wz pb = ts'.length) := restLen_of HPz.out
     clear hY hwz hGy hly hk1
     go_wp2_with fail
     go_roundw
     case rel => exact ⟨k1, ts', _, _, _, _, _, _, _, _, _, _, _, _, HB1z, HB0z, HLXz, HPz, HGz, HGY, HLE1, HEQ1⟩
     case measure => rw [HM1.out, HM0.out]; exact HLT.out
theorem binary1_ok {pb d : Nat} {lower : List Tok → PR TE} (hL : OkBin pb d 2 lower) (hLE : Eats lower) : OkBin pb d 1 (pBin lower 1) := by
 intro w ts hP hG
 have hpl := hP.lt
 have HP := Lib.hid hP
 have HGD := Lib.hid hG
 clear hP hG
 go_enter Tryz.func176, Tryz.ntmps176
 go_wp2_with fail
 refine (hL _ _ (HP.out.alloc _) HGD.out).mono ?_
 rintro en W1 hR
 cases hx : lower ts with
 | bad a e =>
  rw [hx] at hR
  obtain ⟨rfl, hb⟩ := hR
  exact ⟨rfl, ret_bad (by simp only [pBin, hx, PR.bind, ↓reduceIte, Bool.false_eq_true]) ((grown_to_below (gr_alloc (gr_refl _ _) _) (Nat.le_of_lt hpl)).trans hb)⟩
 | ok x1 ts1 =>
  rw [hx] at hR
  have K1 : Hid (GoodT ts1) := (hLE _ HGD.out _ _ hx).1
  obtain ⟨⟨va, vb, vc, rfl, hL⟩, h, g⟩ := hR
  obtain ⟨op1, num1, text1, ps1, pm1, bd1⟩ := x1
  obtain ⟨pa1, pc1, na1, nc1, ba1, bc1, rfl, rfl, rfl⟩ := hL.at'.slices
  have X1 := Lib.hid hx
  clear hx
  have hL2 : Hid (Lie (XE (.mk op1 num1 text1 ps1 pm1 bd1) (.slice pa1 ps1.length pc1) (.slice na1 pm1.length nc1) (.slice ba1 bd1.length bc1)) (w.heap.size + 1) W1.heap.size W1) := by have h9 := hL; simp only [World.size_alloc] at h9; exact h9
  clear hL
  have H1 := Lib.hid h
  have G1 : Hid (w.grownBy W1 (some pb)) := gr_trans (gr_alloc (gr_refl _ _) _) g
  have hs1 : w.heap.size ≤ W1.heap.size := G1.out.size
  have hm1 : w.heap.size + 1 ≤ W1.heap.size := by have := g.size; simpa using this
  have B1_0 : Hid (W1.heap[w.heap.size]? = some (.cells #[.int .i64 0, .int .i64 0, .string ⟨#[]⟩, .slice none 0 0, .slice none 0 0, .slice none 0 0] 35 (0, 0))) := blk_new g (by omega)
  clear h g
  have L1_0 : Hid (Lie (XE (.mk op1 num1 text1 ps1 pm1 bd1) (.slice pa1 ps1.length pc1) (.slice na1 pm1.length nc1) (.slice ba1 bd1.length bc1)) (w.heap.size + 1) W1.heap.size W1) := hL2
  clear hL2
  unfold exV
  go_wp2_with fail
  have HRR : Hid (pBin lower 1 ts = binLoop lower 1 (ts1.length + 1) (.mk op1 num1 text1 ps1 pm1 bd1) ts1) := by show _ = _; simp only [pBin, X1.out, PR.bind]
  have hn01 : w.heap.size + 1 ≤ W1.heap.size := hm1
  go_loopw [] (fun wr => ∃ (k : Nat) (tk : List Tok) (op0 : Nat) (num0 : Int) (text0 : ByteArray) (ps0 : List TE) (pm0 : List ByteArray) (bd0 : List TS) (pa0 : Option Addr) (pc0 : Nat) (na0 : Option Addr) (nc0 : Nat) (ba0 : Option Addr) (bc0 : Nat), Hid (wr.heap[W1.heap.size]? = some (.cells #[.int .i64 (op0 : Int), .int .i64 num0, .string text0, .slice pa0 ps0.length pc0, .slice na0 pm0.length nc0, .slice ba0 bd0.length bc0] 35 (0, 0))) ∧ Hid (wr.heap[w.heap.size]? = some (.cells #[.int .i64 0, .int .i64 0, .string ⟨#[]⟩, .slice none 0 0, .slice none 0 0, .slice none 0 0] 35 (0, 0))) ∧ Hid (LieN (XE (.mk op0 num0 text0 ps0 pm0 bd0) (.slice pa0 ps0.length pc0) (.slice na0 pm0.length nc0) (.slice ba0 bd0.length bc0)) (w.heap.size + 1) W1.heap.size wr) ∧ Hid (PAt wr pb tk d) ∧ Hid (w.grownBy wr (some pb)) ∧ Hid (GoodT tk) ∧ Hid (tk.length ≤ k) ∧ Hid (pBin lower 1 ts = binLoop lower 1 (k + 1) (.mk op0 num0 text0 ps0 pm0 bd0) tk))
   (fun wr => restLen wr pb)
  case atStart => exact ⟨ts1.length, ts1, _, _, _, _, _, _, _, _, _, _, _, _, heap_alloc_new _ _, block_alloc B1_0.out _, (LieN.of L1_0.out (Nat.le_refl _) (.inr (Nat.le_refl _))).alloc _, H1.out.alloc _, gr_alloc G1.out _, K1, Nat.le_refl _, HRR⟩
  case round =>
   obtain ⟨k, tk, op0, num0, text0, ps0, pm0, bd0, pa0, pc0, na0, nc0, ba0, bc0, HB1, HB0, HLX, HPR, HGR, HGK, HLE, HEQ⟩ := hrel
   have HM0 : Hid (restLen wr pb = tk.length) := restLen_of HPR.out
   have hl1 : W1.heap.size < wr.heap.size := lt_of_block HB1.out
   clear H1 G1 B1_0 L1_0 HRR X1 K1 hs1 hm1
   go_wp2_with fail
   refine (op_any HPR.out HGK.out 1 (by decide)).mono ?_
   rintro en Wm ⟨rfl, h, g⟩
   have hsm : wr.heap.size ≤ Wm.heap.size := g.size
   have HB1m : Hid (Wm.heap[W1.heap.size]? = some (.cells #[.int .i64 (op0 : Int), .int .i64 num0, .string text0, .slice pa0 ps0.length pc0, .slice na0 pm0.length nc0, .slice ba0 bd0.length bc0] 35 (0, 0))) := blk_next HB1.out (Below.refl _ _) g (by omega)
   have HB0m : Hid (Wm.heap[w.heap.size]? = some (.cells #[.int .i64 0, .int .i64 0, .string ⟨#[]⟩, .slice none 0 0, .slice none 0 0, .slice none 0 0] 35 (0, 0))) := blk_next HB0.out (Below.refl _ _) g (by omega)
   have HLXm := Lib.hid (HLX.out.gr g (by omega))
   have HGm : Hid (w.grownBy Wm (some pb)) := gr_trans HGR.out g
   rcases op_cases (pOp 1 tk) with ho | ⟨op, ho⟩
   ·rw [ho] at h ⊢
    rw [if_neg (by simp)] at h
    have HPm := Lib.hid h
    have HO := Lib.hid ho
    clear h g ho HB1 HB0 HLX HPR HGR
    have rh := HB0m.out
    have r0 : Wm.cell? ⟨w.heap.size, 0, none⟩ = some (.int .i64 0) := by simp [World.cell?, rh]
    have r1 : Wm.cell? ⟨w.heap.size, 1, none⟩ = some (.int .i64 0) := by simp [World.cell?, rh]
    have r2 : Wm.cell? ⟨w.heap.size, 2, none⟩ = some (.string ⟨#[]⟩) := by simp [World.cell?, rh]
    have r3 : Wm.cell? ⟨w.heap.size, 3, none⟩ = some (.slice none 0 0) := by simp [World.cell?, rh]
    have r4 : Wm.cell? ⟨w.heap.size, 4, none⟩ = some (.slice none 0 0) := by simp [World.cell?, rh]
    have r5 : Wm.cell? ⟨w.heap.size, 5, none⟩ = some (.slice none 0 0) := by simp [World.cell?, rh]
    have rf : ∀ i, Wm.frozen? ⟨w.heap.size, i, none⟩ = false := fun i => by simp [World.frozen?, rh]
    have rl : w.heap.size < Wm.heap.size := lt_of_block rh
    clear rh
    have qh := HB1m.out
    have q0 : Wm.cell? ⟨W1.heap.size, 0, none⟩ = some (.int .i64 (op0 : Int)) := by simp [World.cell?, qh]
    have q1 : Wm.cell? ⟨W1.heap.size, 1, none⟩ = some (.int .i64 num0) := by simp [World.cell?, qh]
    have q2 : Wm.cell? ⟨W1.heap.size, 2, none⟩ = some (.string text0) := by simp [World.cell?, qh]
    have q3 : Wm.cell? ⟨W1.heap.size, 3, none⟩ = some (.slice pa0 ps0.length pc0) := by simp [World.cell?, qh]
    have q4 : Wm.cell? ⟨W1.heap.size, 4, none⟩ = some (.slice na0 pm0.length nc0) := by simp [World.cell?, qh]
    have q5 : Wm.cell? ⟨W1.heap.size, 5, none⟩ = some (.slice ba0 bd0.length bc0) := by simp [World.cell?, qh]
    have qf : ∀ i, Wm.frozen? ⟨W1.heap.size, i, none⟩ = false := fun i => by simp [World.frozen?, qh]
    have ql : W1.heap.size < Wm.heap.size := lt_of_block qh
    clear qh
    go_wp2_with fail
    obtain ⟨y0, y1, y2, y3, y4, y5⟩ := six7_cell (a := .int .i64 (op0 : Int)) (b := .int .i64 num0) (c := .string text0) (d := .slice pa0 ps0.length pc0) (e := .slice na0 pm0.length nc0) (f := .slice ba0 bd0.length bc0) HB0m.out
    have f1 : PAt (six7 Wm w.heap.size (.int .i64 (op0 : Int)) (.int .i64 num0) (.string text0) (.slice pa0 ps0.length pc0) (.slice na0 pm0.length nc0) (.slice ba0 bd0.length bc0)) pb tk d := six_pat HPm.out (by omega)
    have f2 : w.grownBy (six7 Wm w.heap.size (.int .i64 (op0 : Int)) (.int .i64 num0) (.string text0) (.slice pa0 ps0.length pc0) (.slice na0 pm0.length nc0) (.slice ba0 bd0.length bc0)) (some pb) := six_gr HGm.out (by omega)
    have f3 := HLXm.out.six2 (g := w.heap.size) (a := .int .i64 (op0 : Int)) (b := .int .i64 num0) (c := .string text0) (d := .slice pa0 ps0.length pc0) (e1 := .slice na0 pm0.length nc0) (f := .slice ba0 bd0.length bc0) (by omega)
    have f4 := f3.lie (s' := w.heap.size) (by omega) f2.size
    obtain ⟨W9, hW9⟩ : ∃ W9, six7 Wm w.heap.size (.int .i64 (op0 : Int)) (.int .i64 num0) (.string text0) (.slice pa0 ps0.length pc0) (.slice na0 pm0.length nc0) (.slice ba0 bd0.length bc0) = W9 := ⟨_, rfl⟩
    rw [hW9] at y0 y1 y2 y3 y4 y5 f1 f2 f4
    unfold six7 at hW9
    rw [hW9]
    clear hW9 f3
    have HF := Lib.hid f4
    clear f4
    refine bodyPost_ret (v := exV (.mk op0 num0 text0 ps0 pm0 bd0) (.slice pa0 ps0.length pc0) (.slice na0 pm0.length nc0) (.slice ba0 bd0.length bc0)) (by simp [results, Tryz.results176, go_sem, exV, mkE, y0, y1, y2, y3, y4, y5]) rfl (ret_ok (x := (.mk op0 num0 text0 ps0 pm0 bd0)) (HEQ.out.trans (binLoop_end HO.out)) ⟨_, _, _, rfl, HF.out⟩ f1 f2)
   ·rw [ho] at h ⊢
    rw [if_pos (by simp)] at h
    have hop := pOp_le ho
    have HPm := Lib.hid h
    have HO := Lib.hid ho
    have HKT : Hid (GoodT tk.tail) := (keep_tail HGK.out (pOp_kind ho) (by decide)).1
    have HKL : Hid (tk.tail.length < tk.length) := HGK.out.len
    clear h g ho HB1 HB0 HLX HPR HGR
    have hl1m : W1.heap.size < Wm.heap.size := by omega
    have hpm : pb ≤ Wm.heap.size := by omega
    go_wp2_with fail
    refine region_sh (fun | 0 => some (.int .i64 (op : Int)) | 1 => some (.agg #[.int .i64 (op0 : Int), .int .i64 num0, .string text0, .slice pa0 ps0.length pc0, .slice na0 pm0.length nc0, .slice ba0 bd0.length bc0]) | 2 => some (.pointer (some ⟨pb, 0, none⟩)) | 3 => some (.int .i64 1) | 4 => some (.int .i64 2) | _ => none) (JG Wm 4 (fun | 0 => 5 | 1 => 6 | 2 => 7 | _ => 8) (fun | 0 => 30 | 1 => 31 | 2 => 32 | _ => 0) (SB (lower tk.tail) Wm pb d W1.heap.size [.int .i64 (op0 : Int), .int .i64 num0, .string text0, .slice pa0 ps0.length pc0, .slice na0 pm0.length nc0, .slice ba0 bd0.length bc0] (op : Int))) (by kernel_rfl) (by kernel_rfl) (by kernel_rfl) (JG.start _) ?_ ?_
    ·intro hon q hq L a1 W hC hl hBh hS hJ K hK
     have hqn : q < 9 := hq
     clear hq
     rcases (show q = 0 ∨ q = 1 ∨ q = 2 ∨ q = 3 ∨ q = 4 ∨ q = 5 ∨ q = 6 ∨ q = 7 ∨ q = 8 from by omega) with rfl | rfl | rfl | rfl | rfl | rfl | rfl | rfl | rfl
     ·have e6 := (eval_tmp a1 6).symm.trans ((hS.kept 6 (by kernel_rfl)).trans rfl)
      refine wpOp_step rfl (fun K' hK' => ?_)
      go_simp
      exact hK' _ _ (hK _ _ (hS.put hon (i := 0) rfl rfl (fun u hu => by cases hu; rfl)) (hJ.pure (by decide) (by decide) (by decide)))
     ·have e5 : a1.eval (.tmp 5) = .pointer (some ⟨W1.heap.size, 0, none⟩) := (hS.kept 5 (by kernel_rfl)).trans rfl
      have n1 : L 6 = false := closed_not hC hl (i := 6) (j := 1) rfl (g := .data) (by simp) rfl
      have hbW : W.heap[W1.heap.size]? = some (.cells #[.int .i64 (op0 : Int), .int .i64 num0, .string text0, .slice pa0 ps0.length pc0, .slice na0 pm0.length nc0, .slice ba0 bd0.length bc0] 35 (0, 0)) := hJ.read (by decide) (fun W => W.heap[W1.heap.size]? = some (.cells #[.int .i64 (op0 : Int), .int .i64 num0, .string text0, .slice pa0 ps0.length pc0, .slice na0 pm0.length nc0, .slice ba0 bd0.length bc0] 35 (0, 0))) 1 (by decide) (fun _ => n1) HB1m.out (fun k v W hk hS2 => SB.blk (by omega) hS2 HB1m.out (by omega))
      refine wpOp_run rfl rfl (v := .agg #[.int .i64 (op0 : Int), .int .i64 num0, .string text0, .slice pa0 ps0.length pc0, .slice na0 pm0.length nc0, .slice ba0 bd0.length bc0]) (w' := W) (by simp [execOp, e5, ld6E hbW, Result.andThen]) (hK _ _ (hS.put hon (i := 1) rfl rfl (fun u hu => by cases hu; rfl)) (hJ.pure (by decide) (by decide) (by decide)))
     ·have e0 := (eval_tmp a1 0).symm.trans ((hS.kept 0 (by kernel_rfl)).trans rfl)
      refine wpOp_step rfl (fun K' hK' => ?_)
      go_simp
      exact hK' _ _ (hK _ _ (hS.put hon (i := 2) rfl rfl (fun u hu => by cases hu; rfl)) (hJ.pure (by decide) (by decide) (by decide)))
     ·have e1 := (eval_tmp a1 1).symm.trans ((hS.kept 1 (by kernel_rfl)).trans rfl)
      refine wpOp_step rfl (fun K' hK' => ?_)
      go_simp
      exact hK' _ _ (hK _ _ (hS.put hon (i := 3) rfl rfl (fun u hu => by cases hu; rfl)) (hJ.pure (by decide) (by decide) (by decide)))
     ·have e28 := (eval_tmp a1 28).symm.trans (hS.get hBh (i := 4) rfl 3 (by simp) rfl rfl rfl)
      refine wpOp_step rfl (fun K' hK' => ?_)
      go_simp
      exact hK' _ _ (hK _ _ (hS.put hon (i := 4) rfl rfl (fun u hu => by cases hu; rfl)) (hJ.pure (by decide) (by decide) (by decide)))
     ·have e27 := (eval_tmp a1 27).symm.trans (hS.get hBh (i := 5) rfl 2 (by simp) rfl rfl rfl)
      have e29 := (eval_tmp a1 29).symm.trans (hS.get hBh (i := 5) rfl 4 (by simp) rfl rfl rfl)
      obtain rfl := hJ.n0 hl
      refine wpOp_callP (f := 176) (args := #[.pointer (some ⟨pb, 0, none⟩), .int .i64 2]) (R := fun en W2 => Ret (lower tk.tail) Wm pb d (VE Wm) en W2) rfl rfl (by simp [execOp, resolve, invoke, e27, e29, go_sem]) ((hL _ _ HPm.out.drew HKT.out).mono fun en W2 h => ret_drew (V := VE) (fun _ _ _ h => h) h) ?_ ?_ (fun W2 => ret_out VE_o)
      ·intro v W2 hR
       obtain ⟨y, ts', a, b, c, h1, h2, h3, h4, h5⟩ := ret_E hR
       exact hK _ _ (hS.put hon (i := 5) rfl rfl (fun u hu => by cases hu)) (hJ.eff 0 (by decide) (fun j hj => by omega) hl (by decide) (a1.put (some 30) v) (by show SB (lower tk.tail) Wm pb d W1.heap.size [.int .i64 (op0 : Int), .int .i64 num0, .string text0, .slice pa0 ps0.length pc0, .slice na0 pm0.length nc0, .slice ba0 bd0.length bc0] (op : Int) 0 ((a1.put (some 30) v).eval (.tmp 30)) _; rw [eval_put _ _ _ _ (by rw [hS.size]; exact (by decide : (30 : Nat) < 36)), if_pos rfl]; exact ⟨y, ts', a, b, c, h2, h1, h3, h4, h5⟩))
      ·intro ch W2 hR
       obtain ⟨pa, pe, h1, rfl, h3⟩ := ret_panic VE_p hR
       exact ⟨hS.defers.trans rfl, ret_bad (HEQ.out.trans (binLoop_bad HO.out h1)) ((grown_to_below HGm.out (Nat.le_of_lt hpl)).trans h3)⟩
     ·have d0 : L 5 = true := hBh _ rfl ⟨5, .data⟩ (by simp) rfl
      have e26 := (hS.get hBh (i := 6) rfl 1 (by simp) rfl rfl rfl)
      obtain ⟨y, ts', a, b, c, hv, hY⟩ := hJ.cur 0 (by decide) d0 (fun _ => hl)
      obtain ⟨op9, num9, text9, ps9, pm9, bd9⟩ := y
      obtain ⟨pa9, pc9, na9, nc9, ba9, bc9, rfl, rfl, rfl⟩ := hY.lie.at'.slices
      have hv2 : a1.eval (.tmp 30) = .agg #[.int .i64 (op9 : Int), .int .i64 num9, .string text9, .slice pa9 ps9.length pc9, .slice na9 pm9.length nc9, .slice ba9 bd9.length bc9] := hv
      refine wpOp_run rfl rfl (v := .slice (some ⟨W.heap.size, 0, none⟩) 2 2) (w' := W.alloc (.cells #[.int .i64 (op0 : Int), .int .i64 num0, .string text0, .slice pa0 ps0.length pc0, .slice na0 pm0.length nc0, .slice ba0 bd0.length bc0, .int .i64 (op9 : Int), .int .i64 num9, .string text9, .slice pa9 ps9.length pc9, .slice na9 pm9.length nc9, .slice ba9 bd9.length bc9] 35)) (by simp [execOp, e26, hv2, lay2E, Result.andThen]) (hK _ _ (hS.put hon (i := 6) rfl rfl (fun u hu => by cases hu)) (hJ.eff 1 (by decide) (fun j hj => by obtain rfl : j = 0 := (by omega); exact d0) hl (by decide) (a1.put (some 31) (.slice (some ⟨W.heap.size, 0, none⟩) 2 2)) (by show SB (lower tk.tail) Wm pb d W1.heap.size [.int .i64 (op0 : Int), .int .i64 num0, .string text0, .slice pa0 ps0.length pc0, .slice na0 pm0.length nc0, .slice ba0 bd0.length bc0] (op : Int) 1 ((a1.put (some 31) (.slice (some ⟨W.heap.size, 0, none⟩) 2 2)).eval (.tmp 31)) _; rw [eval_put _ _ _ _ (by rw [hS.size]; exact (by decide : (31 : Nat) < 36)), if_pos rfl]; exact ⟨_, _, _, _, _, W, rfl, rfl, hY⟩)))
     ·have d1 : L 6 = true := hBh _ rfl ⟨6, .data⟩ (by simp) rfl
      have e25 := (hS.get hBh (i := 7) rfl 0 (by simp) rfl rfl rfl)
      obtain ⟨y, ts', a, b, c, Wc, hv, rfl, hY⟩ := hJ.cur 1 (by decide) d1 (fun _ => hl)
      have hv2 : a1.eval (.tmp 31) = .slice (some ⟨Wc.heap.size, 0, none⟩) 2 2 := hv
      refine wpOp_run rfl rfl (v := .agg #[.int .i64 (op : Int), .int .i64 0, .string ⟨#[]⟩, .slice (some ⟨Wc.heap.size, 0, none⟩) 2 2, .slice none 0 0, .slice none 0 0]) (w' := Wc.alloc (rowO [.int .i64 (op0 : Int), .int .i64 num0, .string text0, .slice pa0 ps0.length pc0, .slice na0 pm0.length nc0, .slice ba0 bd0.length bc0] y a b c)) (by simp [execOp, e25, hv2, bldE, Result.andThen]) (hK _ _ (hS.put hon (i := 7) rfl rfl (fun u hu => by cases hu)) (hJ.eff 2 (by decide) (fun j hj => by obtain rfl : j = 1 := (by omega); exact d1) hl (by decide) (a1.put (some 32) (.agg #[.int .i64 (op : Int), .int .i64 0, .string ⟨#[]⟩, .slice (some ⟨Wc.heap.size, 0, none⟩) 2 2, .slice none 0 0, .slice none 0 0])) (by show SB (lower tk.tail) Wm pb d W1.heap.size [.int .i64 (op0 : Int), .int .i64 num0, .string text0, .slice pa0 ps0.length pc0, .slice na0 pm0.length nc0, .slice ba0 bd0.length bc0] (op : Int) 2 ((a1.put (some 32) (.agg #[.int .i64 (op : Int), .int .i64 0, .string ⟨#[]⟩, .slice (some ⟨Wc.heap.size, 0, none⟩) 2 2, .slice none 0 0, .slice none 0 0])).eval (.tmp 32)) _; rw [eval_put _ _ _ _ (by rw [hS.size]; exact (by decide : (32 : Nat) < 36)), if_pos rfl]; exact ⟨_, _, _, _, _, Wc, rfl, rfl, hY⟩)))
     ·have d2 : L 7 = true := hBh _ rfl ⟨7, .data⟩ (by simp) rfl
      have e5 : a1.eval (.tmp 5) = .pointer (some ⟨W1.heap.size, 0, none⟩) := (hS.kept 5 (by kernel_rfl)).trans rfl
      have hS2 := hJ.cur 2 (by decide) d2 (fun _ => hl)
      have hbW := SB.blk (by decide) hS2 HB1m.out (by omega)
      obtain ⟨y, ts', a, b, c, Wc, hv, rfl, hY⟩ := hS2
      have hv2 : a1.eval (.tmp 32) = .agg #[.int .i64 (op : Int), .int .i64 0, .string ⟨#[]⟩, .slice (some ⟨Wc.heap.size, 0, none⟩) 2 2, .slice none 0 0, .slice none 0 0] := hv
      refine wpOp_skip rfl rfl rfl (w' := six7 (Wc.alloc (rowO [.int .i64 (op0 : Int), .int .i64 num0, .string text0, .slice pa0 ps0.length pc0, .slice na0 pm0.length nc0, .slice ba0 bd0.length bc0] y a b c)) W1.heap.size (.int .i64 (op : Int)) (.int .i64 0) (.string ⟨#[]⟩) (.slice (some ⟨Wc.heap.size, 0, none⟩) 2 2) (.slice none 0 0) (.slice none 0 0)) (by simp [execOp, e5, hv2, st6E hbW, Result.andThen]) (hK _ _ (hS.none (i := 8) rfl rfl) (hJ.eff 3 (by decide) (fun j hj => by obtain rfl : j = 2 := (by omega); exact d2) hl (by decide) _ ⟨_, _, _, _, _, Wc, rfl, hY⟩))
    ·intro L a1 wz hl hS hJ
     obtain ⟨y, ts', ya, yb, yc, Wc, hwz, hY⟩ := hJ.cur 3 (by decide) (hl 8 (by decide)) (fun h => absurd h (by decide))
     have hfr := hS.frame [25, 26, 27, 28, 29, 30, 31, 32] rfl
     refine (‹∀ (a : Act) (w : World), Code.wp Tryz.prog _ _ a w → _› a1 wz ?_)
     obtain ⟨zz, hz⟩ : ∃ z : Nat → Value, z = fun k => a1.eval (.tmp k) := ⟨_, rfl⟩
     rw [← hz] at hfr
     rw [hfr]
     clear hfr hz hS hJ hl
     simp only [over, List.setIfInBounds_toArray, List.set_cons_zero, List.set_cons_succ]
     obtain ⟨hGy, hly⟩ := hLE _ HKT.out _ _ hY.eq
     have HGY := Lib.hid hGy
     have hsc : Wm.heap.size ≤ Wc.heap.size := hY.gr.size
     have HB1z : Hid (wz.heap[W1.heap.size]? = some (.cells #[.int .i64 (op : Int), .int .i64 0, .string ⟨#[]⟩, .slice (some ⟨Wc.heap.size, 0, none⟩) 2 2, .slice none 0 0, .slice none 0 0] 35 (0, 0))) := by show _ = _; rw [hwz]; exact six7_block (block_alloc (blk_next HB1m.out (Below.refl _ _) hY.gr (by omega)) _)
     have HB0z : Hid (wz.heap[w.heap.size]? = some (.cells #[.int .i64 0, .int .i64 0, .string ⟨#[]⟩, .slice none 0 0, .slice none 0 0, .slice none 0 0] 35 (0, 0))) := by show _ = _; rw [hwz, six7_other (by omega)]; exact block_alloc (blk_next HB0m.out (Below.refl _ _) hY.gr (by omega)) _
     have HLXz : Hid (LieN (XE (mkE op [(.mk op0 num0 text0 ps0 pm0 bd0), y]) (.slice (some ⟨Wc.heap.size, 0, none⟩) 2 2) (.slice none 0 0) (.slice none 0 0)) (w.heap.size + 1) W1.heap.size wz) := by show LieN _ _ _ _; rw [hwz]; exact (mkE_N (m := 2) (escN2 (HLXm.out.gr hY.gr (by omega)) (LieN.of hY.lie (by omega) (.inl (by omega)))) (by omega) (by omega) rfl (by decide) (by decide) (by omega) (fun _ => rfl)).six
     have HPz : Hid (PAt wz pb ts' d) := by show PAt _ _ _ _; rw [hwz]; exact six_pat (hY.pat.alloc _) (by omega)
     have HGz : Hid (w.grownBy wz (some pb)) := by show World.grownBy _ _ _; rw [hwz]; exact six_gr (gr_alloc (gr_trans HGm.out hY.gr) _) (by omega)
     have HEY := Lib.hid hY.eq
     have hlz : W1.heap.size < wz.heap.size := lt_of_block HB1z.out
     obtain ⟨k1, hk1⟩ : ∃ k1, k = k1 + 1 := ⟨k - 1, by have := HLE.out; have := HKL.out; omega⟩
     have HLE1 : Hid (ts'.length ≤ k1) := by show _ ≤ _; have := HLE.out; have := HKL.out; omega
     have HLT : Hid (ts'.length < tk.length) := by show _ < _; have := HKL.out; omega
     have HEQ1 : Hid (pBin lower 1 ts = binLoop lower 1 (k1 + 1) (mkE op [(.mk op0 num0 text0 ps0 pm0 bd0), y]) ts') := by show _ = _; rw [HEQ.out, hk1]; exact binLoop_ok (by decide) HO.out HEY.out
     have HM1 : Hid (restLen wz pb = ts'.length) := restLen_of HPz.out
     clear hY hwz hGy hly hk1
     go_wp2_with fail
     go_roundw
     case rel => exact ⟨k1, ts', _, _, _, _, _, _, _, _, _, _, _, _, HB1z, HB0z, HLXz, HPz, HGz, HGY, HLE1, HEQ1⟩
     case measure => rw [HM1.out, HM0.out]; exact HLT.out
theorem binary0_ok {pb d : Nat} {lower : List Tok → PR TE} (hL : OkBin pb d 1 lower) (hLE : Eats lower) : OkBin pb d 0 (pBin lower 0) := by
 intro w ts hP hG
 have hpl := hP.lt
 have HP := Lib.hid hP
 have HGD := Lib.hid hG
 clear hP hG
 go_enter Tryz.func176, Tryz.ntmps176
 go_wp2_with fail
 refine (hL _ _ (HP.out.alloc _) HGD.out).mono ?_
 rintro en W1 hR
 cases hx : lower ts with
 | bad a e =>
  rw [hx] at hR
  obtain ⟨rfl, hb⟩ := hR
  exact ⟨rfl, ret_bad (by simp only [pBin, hx, PR.bind, ↓reduceIte, Bool.false_eq_true]) ((grown_to_below (gr_alloc (gr_refl _ _) _) (Nat.le_of_lt hpl)).trans hb)⟩
 | ok x1 ts1 =>
  rw [hx] at hR
  have K1 : Hid (GoodT ts1) := (hLE _ HGD.out _ _ hx).1
  obtain ⟨⟨va, vb, vc, rfl, hL⟩, h, g⟩ := hR
  obtain ⟨op1, num1, text1, ps1, pm1, bd1⟩ := x1
  obtain ⟨pa1, pc1, na1, nc1, ba1, bc1, rfl, rfl, rfl⟩ := hL.at'.slices
  have X1 := Lib.hid hx
  clear hx
  have hL2 : Hid (Lie (XE (.mk op1 num1 text1 ps1 pm1 bd1) (.slice pa1 ps1.length pc1) (.slice na1 pm1.length nc1) (.slice ba1 bd1.length bc1)) (w.heap.size + 1) W1.heap.size W1) := by have h9 := hL; simp only [World.size_alloc] at h9; exact h9
  clear hL
  have H1 := Lib.hid h
  have G1 : Hid (w.grownBy W1 (some pb)) := gr_trans (gr_alloc (gr_refl _ _) _) g
  have hs1 : w.heap.size ≤ W1.heap.size := G1.out.size
  have hm1 : w.heap.size + 1 ≤ W1.heap.size := by have := g.size; simpa using this
  have B1_0 : Hid (W1.heap[w.heap.size]? = some (.cells #[.int .i64 0, .int .i64 0, .string ⟨#[]⟩, .slice none 0 0, .slice none 0 0, .slice none 0 0] 35 (0, 0))) := blk_new g (by omega)
  clear h g
  have L1_0 : Hid (Lie (XE (.mk op1 num1 text1 ps1 pm1 bd1) (.slice pa1 ps1.length pc1) (.slice na1 pm1.length nc1) (.slice ba1 bd1.length bc1)) (w.heap.size + 1) W1.heap.size W1) := hL2
  clear hL2
  unfold exV
  go_wp2_with fail
  have HRR : Hid (pBin lower 0 ts = binLoop lower 0 (ts1.length + 1) (.mk op1 num1 text1 ps1 pm1 bd1) ts1) := by show _ = _; simp only [pBin, X1.out, PR.bind]
  have hn01 : w.heap.size + 1 ≤ W1.heap.size := hm1
  go_loopw [] (fun wr => ∃ (k : Nat) (tk : List Tok) (op0 : Nat) (num0 : Int) (text0 : ByteArray) (ps0 : List TE) (pm0 : List ByteArray) (bd0 : List TS) (pa0 : Option Addr) (pc0 : Nat) (na0 : Option Addr) (nc0 : Nat) (ba0 : Option Addr) (bc0 : Nat), Hid (wr.heap[W1.heap.size]? = some (.cells #[.int .i64 (op0 : Int), .int .i64 num0, .string text0, .slice pa0 ps0.length pc0, .slice na0 pm0.length nc0, .slice ba0 bd0.length bc0] 35 (0, 0))) ∧ Hid (wr.heap[w.heap.size]? = some (.cells #[.int .i64 0, .int .i64 0, .string ⟨#[]⟩, .slice none 0 0, .slice none 0 0, .slice none 0 0] 35 (0, 0))) ∧ Hid (LieN (XE (.mk op0 num0 text0 ps0 pm0 bd0) (.slice pa0 ps0.length pc0) (.slice na0 pm0.length nc0) (.slice ba0 bd0.length bc0)) (w.heap.size + 1) W1.heap.size wr) ∧ Hid (PAt wr pb tk d) ∧ Hid (w.grownBy wr (some pb)) ∧ Hid (GoodT tk) ∧ Hid (tk.length ≤ k) ∧ Hid (pBin lower 0 ts = binLoop lower 0 (k + 1) (.mk op0 num0 text0 ps0 pm0 bd0) tk))
   (fun wr => restLen wr pb)
  case atStart => exact ⟨ts1.length, ts1, _, _, _, _, _, _, _, _, _, _, _, _, heap_alloc_new _ _, block_alloc B1_0.out _, (LieN.of L1_0.out (Nat.le_refl _) (.inr (Nat.le_refl _))).alloc _, H1.out.alloc _, gr_alloc G1.out _, K1, Nat.le_refl _, HRR⟩
  case round =>
   obtain ⟨k, tk, op0, num0, text0, ps0, pm0, bd0, pa0, pc0, na0, nc0, ba0, bc0, HB1, HB0, HLX, HPR, HGR, HGK, HLE, HEQ⟩ := hrel
   have HM0 : Hid (restLen wr pb = tk.length) := restLen_of HPR.out
   have hl1 : W1.heap.size < wr.heap.size := lt_of_block HB1.out
   clear H1 G1 B1_0 L1_0 HRR X1 K1 hs1 hm1
   go_wp2_with fail
   refine (op_any HPR.out HGK.out 0 (by decide)).mono ?_
   rintro en Wm ⟨rfl, h, g⟩
   have hsm : wr.heap.size ≤ Wm.heap.size := g.size
   have HB1m : Hid (Wm.heap[W1.heap.size]? = some (.cells #[.int .i64 (op0 : Int), .int .i64 num0, .string text0, .slice pa0 ps0.length pc0, .slice na0 pm0.length nc0, .slice ba0 bd0.length bc0] 35 (0, 0))) := blk_next HB1.out (Below.refl _ _) g (by omega)
   have HB0m : Hid (Wm.heap[w.heap.size]? = some (.cells #[.int .i64 0, .int .i64 0, .string ⟨#[]⟩, .slice none 0 0, .slice none 0 0, .slice none 0 0] 35 (0, 0))) := blk_next HB0.out (Below.refl _ _) g (by omega)
   have HLXm := Lib.hid (HLX.out.gr g (by omega))
   have HGm : Hid (w.grownBy Wm (some pb)) := gr_trans HGR.out g
   rcases op_cases (pOp 0 tk) with ho | ⟨op, ho⟩
   ·rw [ho] at h ⊢
    rw [if_neg (by simp)] at h
    have HPm := Lib.hid h
    have HO := Lib.hid ho
    clear h g ho HB1 HB0 HLX HPR HGR
    have rh := HB0m.out
    have r0 : Wm.cell? ⟨w.heap.size, 0, none⟩ = some (.int .i64 0) := by simp [World.cell?, rh]
    have r1 : Wm.cell? ⟨w.heap.size, 1, none⟩ = some (.int .i64 0) := by simp [World.cell?, rh]
    have r2 : Wm.cell? ⟨w.heap.size, 2, none⟩ = some (.string ⟨#[]⟩) := by simp [World.cell?, rh]
    have r3 : Wm.cell? ⟨w.heap.size, 3, none⟩ = some (.slice none 0 0) := by simp [World.cell?, rh]
    have r4 : Wm.cell? ⟨w.heap.size, 4, none⟩ = some (.slice none 0 0) := by simp [World.cell?, rh]
    have r5 : Wm.cell? ⟨w.heap.size, 5, none⟩ = some (.slice none 0 0) := by simp [World.cell?, rh]
    have rf : ∀ i, Wm.frozen? ⟨w.heap.size, i, none⟩ = false := fun i => by simp [World.frozen?, rh]
    have rl : w.heap.size < Wm.heap.size := lt_of_block rh
    clear rh
    have qh := HB1m.out
    have q0 : Wm.cell? ⟨W1.heap.size, 0, none⟩ = some (.int .i64 (op0 : Int)) := by simp [World.cell?, qh]
    have q1 : Wm.cell? ⟨W1.heap.size, 1, none⟩ = some (.int .i64 num0) := by simp [World.cell?, qh]
    have q2 : Wm.cell? ⟨W1.heap.size, 2, none⟩ = some (.string text0) := by simp [World.cell?, qh]
    have q3 : Wm.cell? ⟨W1.heap.size, 3, none⟩ = some (.slice pa0 ps0.length pc0) := by simp [World.cell?, qh]
    have q4 : Wm.cell? ⟨W1.heap.size, 4, none⟩ = some (.slice na0 pm0.length nc0) := by simp [World.cell?, qh]
    have q5 : Wm.cell? ⟨W1.heap.size, 5, none⟩ = some (.slice ba0 bd0.length bc0) := by simp [World.cell?, qh]
    have qf : ∀ i, Wm.frozen? ⟨W1.heap.size, i, none⟩ = false := fun i => by simp [World.frozen?, qh]
    have ql : W1.heap.size < Wm.heap.size := lt_of_block qh
    clear qh
    go_wp2_with fail
    obtain ⟨y0, y1, y2, y3, y4, y5⟩ := six7_cell (a := .int .i64 (op0 : Int)) (b := .int .i64 num0) (c := .string text0) (d := .slice pa0 ps0.length pc0) (e := .slice na0 pm0.length nc0) (f := .slice ba0 bd0.length bc0) HB0m.out
    have f1 : PAt (six7 Wm w.heap.size (.int .i64 (op0 : Int)) (.int .i64 num0) (.string text0) (.slice pa0 ps0.length pc0) (.slice na0 pm0.length nc0) (.slice ba0 bd0.length bc0)) pb tk d := six_pat HPm.out (by omega)
    have f2 : w.grownBy (six7 Wm w.heap.size (.int .i64 (op0 : Int)) (.int .i64 num0) (.string text0) (.slice pa0 ps0.length pc0) (.slice na0 pm0.length nc0) (.slice ba0 bd0.length bc0)) (some pb) := six_gr HGm.out (by omega)
    have f3 := HLXm.out.six2 (g := w.heap.size) (a := .int .i64 (op0 : Int)) (b := .int .i64 num0) (c := .string text0) (d := .slice pa0 ps0.length pc0) (e1 := .slice na0 pm0.length nc0) (f := .slice ba0 bd0.length bc0) (by omega)
    have f4 := f3.lie (s' := w.heap.size) (by omega) f2.size
    obtain ⟨W9, hW9⟩ : ∃ W9, six7 Wm w.heap.size (.int .i64 (op0 : Int)) (.int .i64 num0) (.string text0) (.slice pa0 ps0.length pc0) (.slice na0 pm0.length nc0) (.slice ba0 bd0.length bc0) = W9 := ⟨_, rfl⟩
    rw [hW9] at y0 y1 y2 y3 y4 y5 f1 f2 f4
    unfold six7 at hW9
    rw [hW9]
    clear hW9 f3
    have HF := Lib.hid f4
    clear f4
    refine bodyPost_ret (v := exV (.mk op0 num0 text0 ps0 pm0 bd0) (.slice pa0 ps0.length pc0) (.slice na0 pm0.length nc0) (.slice ba0 bd0.length bc0)) (by simp [results, Tryz.results176, go_sem, exV, mkE, y0, y1, y2, y3, y4, y5]) rfl (ret_ok (x := (.mk op0 num0 text0 ps0 pm0 bd0)) (HEQ.out.trans (binLoop_end HO.out)) ⟨_, _, _, rfl, HF.out⟩ f1 f2)
   ·rw [ho] at h ⊢
    rw [if_pos (by simp)] at h
    have hop := pOp_le ho
    have HPm := Lib.hid h
    have HO := Lib.hid ho
    have HKT : Hid (GoodT tk.tail) := (keep_tail HGK.out (pOp_kind ho) (by decide)).1
    have HKL : Hid (tk.tail.length < tk.length) := HGK.out.len
    clear h g ho HB1 HB0 HLX HPR HGR
    have hl1m : W1.heap.size < Wm.heap.size := by omega
    have hpm : pb ≤ Wm.heap.size := by omega
    go_wp2_with fail
    refine region_sh (fun | 0 => some (.int .i64 (op : Int)) | 1 => some (.agg #[.int .i64 (op0 : Int), .int .i64 num0, .string text0, .slice pa0 ps0.length pc0, .slice na0 pm0.length nc0, .slice ba0 bd0.length bc0]) | 2 => some (.pointer (some ⟨pb, 0, none⟩)) | 3 => some (.int .i64 0) | 4 => some (.int .i64 1) | _ => none) (JG Wm 4 (fun | 0 => 5 | 1 => 6 | 2 => 7 | _ => 8) (fun | 0 => 30 | 1 => 31 | 2 => 32 | _ => 0) (SB (lower tk.tail) Wm pb d W1.heap.size [.int .i64 (op0 : Int), .int .i64 num0, .string text0, .slice pa0 ps0.length pc0, .slice na0 pm0.length nc0, .slice ba0 bd0.length bc0] (op : Int))) (by kernel_rfl) (by kernel_rfl) (by kernel_rfl) (JG.start _) ?_ ?_
    ·intro hon q hq L a1 W hC hl hBh hS hJ K hK
     have hqn : q < 9 := hq
     clear hq
     rcases (show q = 0 ∨ q = 1 ∨ q = 2 ∨ q = 3 ∨ q = 4 ∨ q = 5 ∨ q = 6 ∨ q = 7 ∨ q = 8 from by omega) with rfl | rfl | rfl | rfl | rfl | rfl | rfl | rfl | rfl
     ·have e6 := (eval_tmp a1 6).symm.trans ((hS.kept 6 (by kernel_rfl)).trans rfl)
      refine wpOp_step rfl (fun K' hK' => ?_)
      go_simp
      exact hK' _ _ (hK _ _ (hS.put hon (i := 0) rfl rfl (fun u hu => by cases hu; rfl)) (hJ.pure (by decide) (by decide) (by decide)))
     ·have e5 : a1.eval (.tmp 5) = .pointer (some ⟨W1.heap.size, 0, none⟩) := (hS.kept 5 (by kernel_rfl)).trans rfl
      have n1 : L 6 = false := closed_not hC hl (i := 6) (j := 1) rfl (g := .data) (by simp) rfl
      have hbW : W.heap[W1.heap.size]? = some (.cells #[.int .i64 (op0 : Int), .int .i64 num0, .string text0, .slice pa0 ps0.length pc0, .slice na0 pm0.length nc0, .slice ba0 bd0.length bc0] 35 (0, 0)) := hJ.read (by decide) (fun W => W.heap[W1.heap.size]? = some (.cells #[.int .i64 (op0 : Int), .int .i64 num0, .string text0, .slice pa0 ps0.length pc0, .slice na0 pm0.length nc0, .slice ba0 bd0.length bc0] 35 (0, 0))) 1 (by decide) (fun _ => n1) HB1m.out (fun k v W hk hS2 => SB.blk (by omega) hS2 HB1m.out (by omega))
      refine wpOp_run rfl rfl (v := .agg #[.int .i64 (op0 : Int), .int .i64 num0, .string text0, .slice pa0 ps0.length pc0, .slice na0 pm0.length nc0, .slice ba0 bd0.length bc0]) (w' := W) (by simp [execOp, e5, ld6E hbW, Result.andThen]) (hK _ _ (hS.put hon (i := 1) rfl rfl (fun u hu => by cases hu; rfl)) (hJ.pure (by decide) (by decide) (by decide)))
     ·have e0 := (eval_tmp a1 0).symm.trans ((hS.kept 0 (by kernel_rfl)).trans rfl)
      refine wpOp_step rfl (fun K' hK' => ?_)
      go_simp
      exact hK' _ _ (hK _ _ (hS.put hon (i := 2) rfl rfl (fun u hu => by cases hu; rfl)) (hJ.pure (by decide) (by decide) (by decide)))
     ·have e1 := (eval_tmp a1 1).symm.trans ((hS.kept 1 (by kernel_rfl)).trans rfl)
      refine wpOp_step rfl (fun K' hK' => ?_)
      go_simp
      exact hK' _ _ (hK _ _ (hS.put hon (i := 3) rfl rfl (fun u hu => by cases hu; rfl)) (hJ.pure (by decide) (by decide) (by decide)))
     ·have e28 := (eval_tmp a1 28).symm.trans (hS.get hBh (i := 4) rfl 3 (by simp) rfl rfl rfl)
      refine wpOp_step rfl (fun K' hK' => ?_)
      go_simp
      exact hK' _ _ (hK _ _ (hS.put hon (i := 4) rfl rfl (fun u hu => by cases hu; rfl)) (hJ.pure (by decide) (by decide) (by decide)))
     ·have e27 := (eval_tmp a1 27).symm.trans (hS.get hBh (i := 5) rfl 2 (by simp) rfl rfl rfl)
      have e29 := (eval_tmp a1 29).symm.trans (hS.get hBh (i := 5) rfl 4 (by simp) rfl rfl rfl)
      obtain rfl := hJ.n0 hl
      refine wpOp_callP (f := 176) (args := #[.pointer (some ⟨pb, 0, none⟩), .int .i64 1]) (R := fun en W2 => Ret (lower tk.tail) Wm pb d (VE Wm) en W2) rfl rfl (by simp [execOp, resolve, invoke, e27, e29, go_sem]) ((hL _ _ HPm.out.drew HKT.out).mono fun en W2 h => ret_drew (V := VE) (fun _ _ _ h => h) h) ?_ ?_ (fun W2 => ret_out VE_o)
      ·intro v W2 hR
       obtain ⟨y, ts', a, b, c, h1, h2, h3, h4, h5⟩ := ret_E hR
       exact hK _ _ (hS.put hon (i := 5) rfl rfl (fun u hu => by cases hu)) (hJ.eff 0 (by decide) (fun j hj => by omega) hl (by decide) (a1.put (some 30) v) (by show SB (lower tk.tail) Wm pb d W1.heap.size [.int .i64 (op0 : Int), .int .i64 num0, .string text0, .slice pa0 ps0.length pc0, .slice na0 pm0.length nc0, .slice ba0 bd0.length bc0] (op : Int) 0 ((a1.put (some 30) v).eval (.tmp 30)) _; rw [eval_put _ _ _ _ (by rw [hS.size]; exact (by decide : (30 : Nat) < 36)), if_pos rfl]; exact ⟨y, ts', a, b, c, h2, h1, h3, h4, h5⟩))
      ·intro ch W2 hR
       obtain ⟨pa, pe, h1, rfl, h3⟩ := ret_panic VE_p hR
       exact ⟨hS.defers.trans rfl, ret_bad (HEQ.out.trans (binLoop_bad HO.out h1)) ((grown_to_below HGm.out (Nat.le_of_lt hpl)).trans h3)⟩
     ·have d0 : L 5 = true := hBh _ rfl ⟨5, .data⟩ (by simp) rfl
      have e26 := (hS.get hBh (i := 6) rfl 1 (by simp) rfl rfl rfl)
      obtain ⟨y, ts', a, b, c, hv, hY⟩ := hJ.cur 0 (by decide) d0 (fun _ => hl)
      obtain ⟨op9, num9, text9, ps9, pm9, bd9⟩ := y
      obtain ⟨pa9, pc9, na9, nc9, ba9, bc9, rfl, rfl, rfl⟩ := hY.lie.at'.slices
      have hv2 : a1.eval (.tmp 30) = .agg #[.int .i64 (op9 : Int), .int .i64 num9, .string text9, .slice pa9 ps9.length pc9, .slice na9 pm9.length nc9, .slice ba9 bd9.length bc9] := hv
      refine wpOp_run rfl rfl (v := .slice (some ⟨W.heap.size, 0, none⟩) 2 2) (w' := W.alloc (.cells #[.int .i64 (op0 : Int), .int .i64 num0, .string text0, .slice pa0 ps0.length pc0, .slice na0 pm0.length nc0, .slice ba0 bd0.length bc0, .int .i64 (op9 : Int), .int .i64 num9, .string text9, .slice pa9 ps9.length pc9, .slice na9 pm9.length nc9, .slice ba9 bd9.length bc9] 35)) (by simp [execOp, e26, hv2, lay2E, Result.andThen]) (hK _ _ (hS.put hon (i := 6) rfl rfl (fun u hu => by cases hu)) (hJ.eff 1 (by decide) (fun j hj => by obtain rfl : j = 0 := (by omega); exact d0) hl (by decide) (a1.put (some 31) (.slice (some ⟨W.heap.size, 0, none⟩) 2 2)) (by show SB (lower tk.tail) Wm pb d W1.heap.size [.int .i64 (op0 : Int), .int .i64 num0, .string text0, .slice pa0 ps0.length pc0, .slice na0 pm0.length nc0, .slice ba0 bd0.length bc0] (op : Int) 1 ((a1.put (some 31) (.slice (some ⟨W.heap.size, 0, none⟩) 2 2)).eval (.tmp 31)) _; rw [eval_put _ _ _ _ (by rw [hS.size]; exact (by decide : (31 : Nat) < 36)), if_pos rfl]; exact ⟨_, _, _, _, _, W, rfl, rfl, hY⟩)))
     ·have d1 : L 6 = true := hBh _ rfl ⟨6, .data⟩ (by simp) rfl
      have e25 := (hS.get hBh (i := 7) rfl 0 (by simp) rfl rfl rfl)
      obtain ⟨y, ts', a, b, c, Wc, hv, rfl, hY⟩ := hJ.cur 1 (by decide) d1 (fun _ => hl)
      have hv2 : a1.eval (.tmp 31) = .slice (some ⟨Wc.heap.size, 0, none⟩) 2 2 := hv
      refine wpOp_run rfl rfl (v := .agg #[.int .i64 (op : Int), .int .i64 0, .string ⟨#[]⟩, .slice (some ⟨Wc.heap.size, 0, none⟩) 2 2, .slice none 0 0, .slice none 0 0]) (w' := Wc.alloc (rowO [.int .i64 (op0 : Int), .int .i64 num0, .string text0, .slice pa0 ps0.length pc0, .slice na0 pm0.length nc0, .slice ba0 bd0.length bc0] y a b c)) (by simp [execOp, e25, hv2, bldE, Result.andThen]) (hK _ _ (hS.put hon (i := 7) rfl rfl (fun u hu => by cases hu)) (hJ.eff 2 (by decide) (fun j hj => by obtain rfl : j = 1 := (by omega); exact d1) hl (by decide) (a1.put (some 32) (.agg #[.int .i64 (op : Int), .int .i64 0, .string ⟨#[]⟩, .slice (some ⟨Wc.heap.size, 0, none⟩) 2 2, .slice none 0 0, .slice none 0 0])) (by show SB (lower tk.tail) Wm pb d W1.heap.size [.int .i64 (op0 : Int), .int .i64 num0, .string text0, .slice pa0 ps0.length pc0, .slice na0 pm0.length nc0, .slice ba0 bd0.length bc0] (op : Int) 2 ((a1.put (some 32) (.agg #[.int .i64 (op : Int), .int .i64 0, .string ⟨#[]⟩, .slice (some ⟨Wc.heap.size, 0, none⟩) 2 2, .slice none 0 0, .slice none 0 0])).eval (.tmp 32)) _; rw [eval_put _ _ _ _ (by rw [hS.size]; exact (by decide : (32 : Nat) < 36)), if_pos rfl]; exact ⟨_, _, _, _, _, Wc, rfl, rfl, hY⟩)))
     ·have d2 : L 7 = true := hBh _ rfl ⟨7, .data⟩ (by simp) rfl
      have e5 : a1.eval (.tmp 5) = .pointer (some ⟨W1.heap.size, 0, none⟩) := (hS.kept 5 (by kernel_rfl)).trans rfl
      have hS2 := hJ.cur 2 (by decide) d2 (fun _ => hl)
      have hbW := SB.blk (by decide) hS2 HB1m.out (by omega)
      obtain ⟨y, ts', a, b, c, Wc, hv, rfl, hY⟩ := hS2
      have hv2 : a1.eval (.tmp 32) = .agg #[.int .i64 (op : Int), .int .i64 0, .string ⟨#[]⟩, .slice (some ⟨Wc.heap.size, 0, none⟩) 2 2, .slice none 0 0, .slice none 0 0] := hv
      refine wpOp_skip rfl rfl rfl (w' := six7 (Wc.alloc (rowO [.int .i64 (op0 : Int), .int .i64 num0, .string text0, .slice pa0 ps0.length pc0, .slice na0 pm0.length nc0, .slice ba0 bd0.length bc0] y a b c)) W1.heap.size (.int .i64 (op : Int)) (.int .i64 0) (.string ⟨#[]⟩) (.slice (some ⟨Wc.heap.size, 0, none⟩) 2 2) (.slice none 0 0) (.slice none 0 0)) (by simp [execOp, e5, hv2, st6E hbW, Result.andThen]) (hK _ _ (hS.none (i := 8) rfl rfl) (hJ.eff 3 (by decide) (fun j hj => by obtain rfl : j = 2 := (by omega); exact d2) hl (by decide) _ ⟨_, _, _, _, _, Wc, rfl, hY⟩))
    ·intro L a1 wz hl hS hJ
     obtain ⟨y, ts', ya, yb, yc, Wc, hwz, hY⟩ := hJ.cur 3 (by decide) (hl 8 (by decide)) (fun h => absurd h (by decide))
     have hfr := hS.frame [25, 26, 27, 28, 29, 30, 31, 32] rfl
     refine (‹∀ (a : Act) (w : World), Code.wp Tryz.prog _ _ a w → _› a1 wz ?_)
     obtain ⟨zz, hz⟩ : ∃ z : Nat → Value, z = fun k => a1.eval (.tmp k) := ⟨_, rfl⟩
     rw [← hz] at hfr
     rw [hfr]
     clear hfr hz hS hJ hl
     simp only [over, List.setIfInBounds_toArray, List.set_cons_zero, List.set_cons_succ]
     obtain ⟨hGy, hly⟩ := hLE _ HKT.out _ _ hY.eq
     have HGY := Lib.hid hGy
     have hsc : Wm.heap.size ≤ Wc.heap.size := hY.gr.size
     have HB1z : Hid (wz.heap[W1.heap.size]? = some (.cells #[.int .i64 (op : Int), .int .i64 0, .string ⟨#[]⟩, .slice (some ⟨Wc.heap.size, 0, none⟩) 2 2, .slice none 0 0, .slice none 0 0] 35 (0, 0))) := by show _ = _; rw [hwz]; exact six7_block (block_alloc (blk_next HB1m.out (Below.refl _ _) hY.gr (by omega)) _)
     have HB0z : Hid (wz.heap[w.heap.size]? = some (.cells #[.int .i64 0, .int .i64 0, .string ⟨#[]⟩, .slice none 0 0, .slice none 0 0, .slice none 0 0] 35 (0, 0))) := by show _ = _; rw [hwz, six7_other (by omega)]; exact block_alloc (blk_next HB0m.out (Below.refl _ _) hY.gr (by omega)) _
     have HLXz : Hid (LieN (XE (mkE op [(.mk op0 num0 text0 ps0 pm0 bd0), y]) (.slice (some ⟨Wc.heap.size, 0, none⟩) 2 2) (.slice none 0 0) (.slice none 0 0)) (w.heap.size + 1) W1.heap.size wz) := by show LieN _ _ _ _; rw [hwz]; exact (mkE_N (m := 2) (escN2 (HLXm.out.gr hY.gr (by omega)) (LieN.of hY.lie (by omega) (.inl (by omega)))) (by omega) (by omega) rfl (by decide) (by decide) (by omega) (fun _ => rfl)).six
     have HPz : Hid (PAt wz pb ts' d) := by show PAt _ _ _ _; rw [hwz]; exact six_pat (hY.pat.alloc _) (by omega)
     have HGz : Hid (w.grownBy wz (some pb)) := by show World.grownBy _ _ _; rw [hwz]; exact six_gr (gr_alloc (gr_trans HGm.out hY.gr) _) (by omega)
     have HEY := Lib.hid hY.eq
     have hlz : W1.heap.size < wz.heap.size := lt_of_block HB1z.out
     clear hY hwz hGy hly
     have rh := HB0z.out
     have r0 : wz.cell? ⟨w.heap.size, 0, none⟩ = some (.int .i64 0) := by simp [World.cell?, rh]
     have r1 : wz.cell? ⟨w.heap.size, 1, none⟩ = some (.int .i64 0) := by simp [World.cell?, rh]
     have r2 : wz.cell? ⟨w.heap.size, 2, none⟩ = some (.string ⟨#[]⟩) := by simp [World.cell?, rh]
     have r3 : wz.cell? ⟨w.heap.size, 3, none⟩ = some (.slice none 0 0) := by simp [World.cell?, rh]
     have r4 : wz.cell? ⟨w.heap.size, 4, none⟩ = some (.slice none 0 0) := by simp [World.cell?, rh]
     have r5 : wz.cell? ⟨w.heap.size, 5, none⟩ = some (.slice none 0 0) := by simp [World.cell?, rh]
     have rf : ∀ i, wz.frozen? ⟨w.heap.size, i, none⟩ = false := fun i => by simp [World.frozen?, rh]
     have rl : w.heap.size < wz.heap.size := lt_of_block rh
     clear rh
     have qh := HB1z.out
     have q0 : wz.cell? ⟨W1.heap.size, 0, none⟩ = some (.int .i64 (op : Int)) := by simp [World.cell?, qh]
     have q1 : wz.cell? ⟨W1.heap.size, 1, none⟩ = some (.int .i64 0) := by simp [World.cell?, qh]
     have q2 : wz.cell? ⟨W1.heap.size, 2, none⟩ = some (.string ⟨#[]⟩) := by simp [World.cell?, qh]
     have q3 : wz.cell? ⟨W1.heap.size, 3, none⟩ = some (.slice (some ⟨Wc.heap.size, 0, none⟩) 2 2) := by simp [World.cell?, qh]
     have q4 : wz.cell? ⟨W1.heap.size, 4, none⟩ = some (.slice none 0 0) := by simp [World.cell?, qh]
     have q5 : wz.cell? ⟨W1.heap.size, 5, none⟩ = some (.slice none 0 0) := by simp [World.cell?, qh]
     have qf : ∀ i, wz.frozen? ⟨W1.heap.size, i, none⟩ = false := fun i => by simp [World.frozen?, qh]
     have ql : W1.heap.size < wz.heap.size := lt_of_block qh
     clear qh
     go_wp2_with fail
     obtain ⟨y0, y1, y2, y3, y4, y5⟩ := six7_cell (a := .int .i64 (op : Int)) (b := .int .i64 0) (c := .string ⟨#[]⟩) (d := .slice (some ⟨Wc.heap.size, 0, none⟩) 2 2) (e := .slice none 0 0) (f := .slice none 0 0) HB0z.out
     have f1 : PAt (six7 wz w.heap.size (.int .i64 (op : Int)) (.int .i64 0) (.string ⟨#[]⟩) (.slice (some ⟨Wc.heap.size, 0, none⟩) 2 2) (.slice none 0 0) (.slice none 0 0)) pb ts' d := six_pat HPz.out (by omega)
     have f2 : w.grownBy (six7 wz w.heap.size (.int .i64 (op : Int)) (.int .i64 0) (.string ⟨#[]⟩) (.slice (some ⟨Wc.heap.size, 0, none⟩) 2 2) (.slice none 0 0) (.slice none 0 0)) (some pb) := six_gr HGz.out (by omega)
     have f3 := HLXz.out.six2 (g := w.heap.size) (a := .int .i64 (op : Int)) (b := .int .i64 0) (c := .string ⟨#[]⟩) (d := .slice (some ⟨Wc.heap.size, 0, none⟩) 2 2) (e1 := .slice none 0 0) (f := .slice none 0 0) (by omega)
     have f4 := f3.lie (s' := w.heap.size) (by omega) f2.size
     obtain ⟨W9, hW9⟩ : ∃ W9, six7 wz w.heap.size (.int .i64 (op : Int)) (.int .i64 0) (.string ⟨#[]⟩) (.slice (some ⟨Wc.heap.size, 0, none⟩) 2 2) (.slice none 0 0) (.slice none 0 0) = W9 := ⟨_, rfl⟩
     rw [hW9] at y0 y1 y2 y3 y4 y5 f1 f2 f4
     unfold six7 at hW9
     rw [hW9]
     clear hW9 f3
     have HF := Lib.hid f4
     clear f4
     refine bodyPost_ret (v := exV (mkE op [(.mk op0 num0 text0 ps0 pm0 bd0), y]) (.slice (some ⟨Wc.heap.size, 0, none⟩) 2 2) (.slice none 0 0) (.slice none 0 0)) (by simp [results, Tryz.results176, go_sem, exV, mkE, y0, y1, y2, y3, y4, y5]) rfl (ret_ok (x := (mkE op [(.mk op0 num0 text0 ps0 pm0 bd0), y])) (HEQ.out.trans (binLoop_one HO.out HEY.out)) ⟨_, _, _, rfl, HF.out⟩ f1 f2)
end Go.Proofs.YtenfphbhofibjaaGreatDoor
namespace Go.Proofs.YtenfphbhofibjaaGreatDoor
open Go.RowKit LM TM PM
theorem chainLoop_end {E : List Tok → PR TE} {k : Nat} {x : TE} {tk : List Tok} (h1 : isT 4 sLP tk = false) (h2 : isT 4 sLK tk = false) (h3 : isT 4 sPT tk = false) : chainLoop E (k + 1) x tk = .ok x tk := by rw [chainLoop, if_neg (by simp [h1]), if_neg (by simp [h2]), if_neg (by simp [h3])]
theorem chainLoop_call {E : List Tok → PR TE} {k : Nat} {x : TE} {tk : List Tok} (h1 : isT 4 sLP tk = true) : chainLoop E (k + 1) x tk = (pWith E x tk.tail).bind fun l ts' => chainLoop E k (mkE 15 l) ts' := by rw [chainLoop, if_pos h1]
theorem chainLoop_key {E : List Tok → PR TE} {k : Nat} {x : TE} {tk : List Tok} (h1 : isT 4 sLP tk = false) (h2 : isT 4 sLK tk = true) : chainLoop E (k + 1) x tk = (pKeyE E tk.tail).bind fun y ts' => chainLoop E k (mkE 14 [x, y]) ts' := by rw [chainLoop, if_neg (by simp [h1]), if_pos h2]
theorem chainLoop_point {E : List Tok → PR TE} {k : Nat} {x : TE} {tk : List Tok} (h1 : isT 4 sLP tk = false) (h2 : isT 4 sLK tk = false) (h3 : isT 4 sPT tk = true) : chainLoop E (k + 1) x tk = (pKeyW tk.tail).bind fun y ts' => chainLoop E k (mkE 14 [x, y]) ts' := by rw [chainLoop, if_neg (by simp [h1]), if_neg (by simp [h2]), if_pos h3]
def OkW (pb d : Nat) (E : List Tok → PR TE) : Prop := ∀ (w : World) (ts : List Tok) (x : TE) (a b c : Value) (s n : Nat), PAt w pb ts d → GoodT ts → pb < s → s ≤ w.heap.size → n < w.heap.size → LieN (XE x a b c) s n w → Calls Tryz.prog 219 #[.pointer (some ⟨pb, 0, none⟩), exV x a b c] w fun en w' => Ret (pWith E x ts) w pb d (fun l en w' => ∃ v, en = .returned v ∧ LieN (RE v l) s n w') en w'
theorem chain_ok {pb d : Nat} {E : List Tok → PR TE} {B : List Tok → PR (List TS)} (hT : ∀ (w : World) (ts : List Tok), PAt w pb ts d → GoodT ts → Calls Tryz.prog 218 #[.pointer (some ⟨pb, 0, none⟩)] w fun en w' => Ret (pThing E B ts) w pb d (VE w) en w') (hTE : Eats (pThing E B)) (hO : OkE pb d E) (hE : Eats E) (hW : OkW pb d E) : OkC pb d (pChain E B) := by
 intro w ts hP hG
 have hpl := hP.lt
 have HP := Lib.hid hP
 have HGD := Lib.hid hG
 clear hP hG
 go_enter Tryz.func208, Tryz.ntmps208
 go_wp2_with fail
 refine (hT _ _ (HP.out.alloc _) HGD.out).mono ?_
 rintro en W1 hR
 cases hx : pThing E B ts with
 | bad a e =>
  rw [hx] at hR
  obtain ⟨rfl, hb⟩ := hR
  exact ⟨rfl, ret_bad (by simp only [pChain, hx, PR.bind, ↓reduceIte, Bool.false_eq_true]) ((grown_to_below (gr_alloc (gr_refl _ _) _) (Nat.le_of_lt hpl)).trans hb)⟩
 | ok x1 ts1 =>
  rw [hx] at hR
  have K1 : Hid (GoodT ts1) := (hTE _ HGD.out _ _ hx).1
  obtain ⟨⟨va, vb, vc, rfl, hL⟩, h, g⟩ := hR
  obtain ⟨op1, num1, text1, ps1, pm1, bd1⟩ := x1
  obtain ⟨pa1, pc1, na1, nc1, ba1, bc1, rfl, rfl, rfl⟩ := hL.at'.slices
  have X1 := Lib.hid hx
  clear hx
  have hL2 : Hid (Lie (XE (.mk op1 num1 text1 ps1 pm1 bd1) (.slice pa1 ps1.length pc1) (.slice na1 pm1.length nc1) (.slice ba1 bd1.length bc1)) (w.heap.size + 1) W1.heap.size W1) := by have h9 := hL; simp only [World.size_alloc] at h9; exact h9
  clear hL
  have H1 := Lib.hid h
  have G1 : Hid (w.grownBy W1 (some pb)) := gr_trans (gr_alloc (gr_refl _ _) _) g
  have hs1 : w.heap.size ≤ W1.heap.size := G1.out.size
  have hm1 : w.heap.size + 1 ≤ W1.heap.size := by have := g.size; simpa using this
  have B1_0 : Hid (W1.heap[w.heap.size]? = some (.cells #[.int .i64 0, .int .i64 0, .string ⟨#[]⟩, .slice none 0 0, .slice none 0 0, .slice none 0 0] 35 (0, 0))) := blk_new g (by omega)
  clear h g
  have L1_0 : Hid (Lie (XE (.mk op1 num1 text1 ps1 pm1 bd1) (.slice pa1 ps1.length pc1) (.slice na1 pm1.length nc1) (.slice ba1 bd1.length bc1)) (w.heap.size + 1) W1.heap.size W1) := hL2
  clear hL2
  unfold exV
  go_wp2_with fail
  have HRR : Hid (pChain E B ts = chainLoop E (ts1.length + 1) (.mk op1 num1 text1 ps1 pm1 bd1) ts1) := by show _ = _; simp only [pChain, X1.out, PR.bind]
  have hn01 : w.heap.size + 1 ≤ W1.heap.size := hm1
  go_loopw [] (fun wr => ∃ (k : Nat) (tk : List Tok) (op0 : Nat) (num0 : Int) (text0 : ByteArray) (ps0 : List TE) (pm0 : List ByteArray) (bd0 : List TS) (pa0 : Option Addr) (pc0 : Nat) (na0 : Option Addr) (nc0 : Nat) (ba0 : Option Addr) (bc0 : Nat), Hid (wr.heap[W1.heap.size]? = some (.cells #[.int .i64 (op0 : Int), .int .i64 num0, .string text0, .slice pa0 ps0.length pc0, .slice na0 pm0.length nc0, .slice ba0 bd0.length bc0] 35 (0, 0))) ∧ Hid (wr.heap[w.heap.size]? = some (.cells #[.int .i64 0, .int .i64 0, .string ⟨#[]⟩, .slice none 0 0, .slice none 0 0, .slice none 0 0] 35 (0, 0))) ∧ Hid (LieN (XE (.mk op0 num0 text0 ps0 pm0 bd0) (.slice pa0 ps0.length pc0) (.slice na0 pm0.length nc0) (.slice ba0 bd0.length bc0)) (w.heap.size + 1) W1.heap.size wr) ∧ Hid (PAt wr pb tk d) ∧ Hid (w.grownBy wr (some pb)) ∧ Hid (GoodT tk) ∧ Hid (tk.length ≤ k) ∧ Hid (pChain E B ts = chainLoop E (k + 1) (.mk op0 num0 text0 ps0 pm0 bd0) tk))
   (fun wr => restLen wr pb)
  case atStart => exact ⟨ts1.length, ts1, _, _, _, _, _, _, _, _, _, _, _, _, heap_alloc_new _ _, block_alloc B1_0.out _, (LieN.of L1_0.out (Nat.le_refl _) (.inr (Nat.le_refl _))).alloc _, H1.out.alloc _, gr_alloc G1.out _, K1, Nat.le_refl _, HRR⟩
  case round =>
   obtain ⟨k, tk, op0, num0, text0, ps0, pm0, bd0, pa0, pc0, na0, nc0, ba0, bc0, HB1, HB0, HLX, HPR, HGR, HGK, HLE, HEQ⟩ := hrel
   have HM0 : Hid (restLen wr pb = tk.length) := restLen_of HPR.out
   have hl1 : W1.heap.size < wr.heap.size := lt_of_block HB1.out
   clear H1 G1 B1_0 L1_0 HRR X1 K1 hs1 hm1
   go_wp2_with fail
   refine (met_any HPR.out HGK.out 4 (by decide) sLP).mono ?_
   rintro en M2 ⟨rfl, h, g⟩
   have hsm2 : wr.heap.size ≤ M2.heap.size := g.size
   have B1_2 : Hid (M2.heap[W1.heap.size]? = some (.cells #[.int .i64 (op0 : Int), .int .i64 num0, .string text0, .slice pa0 ps0.length pc0, .slice na0 pm0.length nc0, .slice ba0 bd0.length bc0] 35 (0, 0))) := blk_next HB1.out (Below.refl _ _) g (by omega)
   have B0_2 : Hid (M2.heap[w.heap.size]? = some (.cells #[.int .i64 0, .int .i64 0, .string ⟨#[]⟩, .slice none 0 0, .slice none 0 0, .slice none 0 0] 35 (0, 0))) := blk_next HB0.out (Below.refl _ _) g (by omega)
   have LX_2 := Lib.hid (HLX.out.gr g (by omega))
   have G_2 : Hid (w.grownBy M2 (some pb)) := gr_trans HGR.out g
   rcases tf (isT 4 sLP tk) with hi | hi
   ·rw [hi] at h ⊢
    rw [if_pos rfl] at h
    have H_2 := Lib.hid h
    have D_2 := Lib.hid hi
    have HKT : Hid (GoodT tk.tail) := (keep_tail HGK.out (isT_kind hi) (by decide)).1
    have HKL : Hid (tk.tail.length < tk.length) := HGK.out.len
    have hl1m : W1.heap.size < M2.heap.size := lt_of_block B1_2.out
    clear h g hi
    have qh := B1_2.out
    have q0 : M2.cell? ⟨W1.heap.size, 0, none⟩ = some (.int .i64 (op0 : Int)) := by simp [World.cell?, qh]
    have q1 : M2.cell? ⟨W1.heap.size, 1, none⟩ = some (.int .i64 num0) := by simp [World.cell?, qh]
    have q2 : M2.cell? ⟨W1.heap.size, 2, none⟩ = some (.string text0) := by simp [World.cell?, qh]
    have q3 : M2.cell? ⟨W1.heap.size, 3, none⟩ = some (.slice pa0 ps0.length pc0) := by simp [World.cell?, qh]
    have q4 : M2.cell? ⟨W1.heap.size, 4, none⟩ = some (.slice na0 pm0.length nc0) := by simp [World.cell?, qh]
    have q5 : M2.cell? ⟨W1.heap.size, 5, none⟩ = some (.slice ba0 bd0.length bc0) := by simp [World.cell?, qh]
    have qf : ∀ i, M2.frozen? ⟨W1.heap.size, i, none⟩ = false := fun i => by simp [World.frozen?, qh]
    have ql : W1.heap.size < M2.heap.size := lt_of_block qh
    clear qh
    go_wp2_with fail
    refine (hW _ _ (.mk op0 num0 text0 ps0 pm0 bd0) _ _ _ (w.heap.size + 1) W1.heap.size H_2.out HKT.out (by omega) (by omega) hl1m LX_2.out).mono ?_
    rintro en Wc hR
    cases hx : pWith E (.mk op0 num0 text0 ps0 pm0 bd0) tk.tail with
    | bad a e =>
     rw [hx] at hR
     obtain ⟨rfl, hb⟩ := hR
     exact ⟨rfl, ret_bad (HEQ.out.trans (by rw [chainLoop_call D_2.out]; simp only [hx, PR.bind])) ((grown_to_below G_2.out (Nat.le_of_lt hpl)).trans hb)⟩
    | ok l ts' =>
     rw [hx] at hR
     obtain ⟨⟨v, rfl, hL⟩, h, g⟩ := hR
     obtain ⟨hGy, hly⟩ := eats_with hE (.mk op0 num0 text0 ps0 pm0 bd0) _ HKT.out _ _ hx
     have HGY := Lib.hid hGy
     obtain ⟨pa9, pc9, rfl, _⟩ := hL.at'
     have HEY := Lib.hid hx
     have HL9 := Lib.hid hL
     have HP9 := Lib.hid h
     have hsc : M2.heap.size ≤ Wc.heap.size := g.size
     have HG9 : Hid (w.grownBy Wc (some pb)) := gr_trans G_2.out g
     have B1c : Hid (Wc.heap[W1.heap.size]? = some (.cells #[.int .i64 (op0 : Int), .int .i64 num0, .string text0, .slice pa0 ps0.length pc0, .slice na0 pm0.length nc0, .slice ba0 bd0.length bc0] 35 (0, 0))) := blk_next B1_2.out (Below.refl _ _) g (by omega)
     have B0c : Hid (Wc.heap[w.heap.size]? = some (.cells #[.int .i64 0, .int .i64 0, .string ⟨#[]⟩, .slice none 0 0, .slice none 0 0, .slice none 0 0] 35 (0, 0))) := blk_next B0_2.out (Below.refl _ _) g (by omega)
     clear hx hL h g hGy q0 q1 q2 q3 q4 q5 qf ql
     have qh := B1c.out
     have q0 : Wc.cell? ⟨W1.heap.size, 0, none⟩ = some (.int .i64 (op0 : Int)) := by simp [World.cell?, qh]
     have q1 : Wc.cell? ⟨W1.heap.size, 1, none⟩ = some (.int .i64 num0) := by simp [World.cell?, qh]
     have q2 : Wc.cell? ⟨W1.heap.size, 2, none⟩ = some (.string text0) := by simp [World.cell?, qh]
     have q3 : Wc.cell? ⟨W1.heap.size, 3, none⟩ = some (.slice pa0 ps0.length pc0) := by simp [World.cell?, qh]
     have q4 : Wc.cell? ⟨W1.heap.size, 4, none⟩ = some (.slice na0 pm0.length nc0) := by simp [World.cell?, qh]
     have q5 : Wc.cell? ⟨W1.heap.size, 5, none⟩ = some (.slice ba0 bd0.length bc0) := by simp [World.cell?, qh]
     have qf : ∀ i, Wc.frozen? ⟨W1.heap.size, i, none⟩ = false := fun i => by simp [World.frozen?, qh]
     have ql : W1.heap.size < Wc.heap.size := lt_of_block qh
     clear qh
     go_wp2_with fail
     have z1 : (six7 Wc W1.heap.size (.int .i64 15) (.int .i64 0) (.string ⟨#[]⟩) (.slice pa9 l.length pc9) (.slice none 0 0) (.slice none 0 0)).heap[W1.heap.size]? = some (.cells #[.int .i64 15, .int .i64 0, .string ⟨#[]⟩, .slice pa9 l.length pc9, .slice none 0 0, .slice none 0 0] 35 (0, 0)) := six7_block B1c.out
     have z2 : (six7 Wc W1.heap.size (.int .i64 15) (.int .i64 0) (.string ⟨#[]⟩) (.slice pa9 l.length pc9) (.slice none 0 0) (.slice none 0 0)).heap[w.heap.size]? = some (.cells #[.int .i64 0, .int .i64 0, .string ⟨#[]⟩, .slice none 0 0, .slice none 0 0, .slice none 0 0] 35 (0, 0)) := (six7_other (by omega)).trans B0c.out
     have z3 : LieN (XE (mkE 15 l) (.slice pa9 l.length pc9) (.slice none 0 0) (.slice none 0 0)) (w.heap.size + 1) W1.heap.size (six7 Wc W1.heap.size (.int .i64 15) (.int .i64 0) (.string ⟨#[]⟩) (.slice pa9 l.length pc9) (.slice none 0 0) (.slice none 0 0)) := (mkE_rowN HL9.out (by decide) (by decide)).six
     have z4 : PAt (six7 Wc W1.heap.size (.int .i64 15) (.int .i64 0) (.string ⟨#[]⟩) (.slice pa9 l.length pc9) (.slice none 0 0) (.slice none 0 0)) pb ts' d := six_pat HP9.out (by omega)
     have z5 : w.grownBy (six7 Wc W1.heap.size (.int .i64 15) (.int .i64 0) (.string ⟨#[]⟩) (.slice pa9 l.length pc9) (.slice none 0 0) (.slice none 0 0)) (some pb) := six_gr HG9.out (by omega)
     obtain ⟨W9, hW9⟩ : ∃ W9, six7 Wc W1.heap.size (.int .i64 15) (.int .i64 0) (.string ⟨#[]⟩) (.slice pa9 l.length pc9) (.slice none 0 0) (.slice none 0 0) = W9 := ⟨_, rfl⟩
     rw [hW9] at z1 z2 z3 z4 z5
     unfold six7 at hW9
     rw [hW9]
     clear hW9 q0 q1 q2 q3 q4 q5 qf ql
     have HB1z := Lib.hid z1
     have HB0z := Lib.hid z2
     have HLXz := Lib.hid z3
     have HPz := Lib.hid z4
     have HGz := Lib.hid z5
     clear z1 z2 z3 z4 z5
     obtain ⟨k1, hk1⟩ : ∃ k1, k = k1 + 1 := ⟨k - 1, by have := HLE.out; have := HKL.out; omega⟩
     have HLE1 : Hid (ts'.length ≤ k1) := by show _ ≤ _; have := HLE.out; have := HKL.out; omega
     have HLT : Hid (ts'.length < tk.length) := by show _ < _; have := HKL.out; omega
     have HEQ1 : Hid (pChain E B ts = chainLoop E (k1 + 1) (mkE 15 l) ts') := by show _ = _; rw [HEQ.out, hk1, chainLoop_call D_2.out]; simp only [HEY.out, PR.bind]
     have HM1 : Hid (restLen W9 pb = ts'.length) := restLen_of HPz.out
     clear hk1 hly
     go_wp2_with fail
     go_roundw
     case rel => exact ⟨k1, ts', _, _, _, _, _, _, _, _, _, _, _, _, HB1z, HB0z, HLXz, HPz, HGz, HGY, HLE1, HEQ1⟩
     case measure => rw [HM1.out, HM0.out]; exact HLT.out
   ·rw [hi] at h ⊢
    rw [if_neg (by simp)] at h
    have H_2 := Lib.hid h
    have D_2 := Lib.hid hi
    clear h g hi
    go_wp2_with fail
    refine (met_any H_2.out HGK.out 4 (by decide) sLK).mono ?_
    rintro en M3 ⟨rfl, h, g⟩
    have hsm3 : M2.heap.size ≤ M3.heap.size := g.size
    have B1_3 : Hid (M3.heap[W1.heap.size]? = some (.cells #[.int .i64 (op0 : Int), .int .i64 num0, .string text0, .slice pa0 ps0.length pc0, .slice na0 pm0.length nc0, .slice ba0 bd0.length bc0] 35 (0, 0))) := blk_next B1_2.out (Below.refl _ _) g (by omega)
    have B0_3 : Hid (M3.heap[w.heap.size]? = some (.cells #[.int .i64 0, .int .i64 0, .string ⟨#[]⟩, .slice none 0 0, .slice none 0 0, .slice none 0 0] 35 (0, 0))) := blk_next B0_2.out (Below.refl _ _) g (by omega)
    have LX_3 := Lib.hid (LX_2.out.gr g (by omega))
    have G_3 : Hid (w.grownBy M3 (some pb)) := gr_trans G_2.out g
    rcases tf (isT 4 sLK tk) with hi | hi
    ·rw [hi] at h ⊢
     rw [if_pos rfl] at h
     have H_3 := Lib.hid h
     have D_3 := Lib.hid hi
     have HKT : Hid (GoodT tk.tail) := (keep_tail HGK.out (isT_kind hi) (by decide)).1
     have HKL : Hid (tk.tail.length < tk.length) := HGK.out.len
     have hl1m : W1.heap.size < M3.heap.size := lt_of_block B1_3.out
     clear h g hi
     go_wp2_with fail
     refine region_sh (fun | 0 => some (.agg #[.int .i64 (op0 : Int), .int .i64 num0, .string text0, .slice pa0 ps0.length pc0, .slice na0 pm0.length nc0, .slice ba0 bd0.length bc0]) | 1 => some (.pointer (some ⟨pb, 0, none⟩)) | _ => none) (JG M3 4 (fun | 0 => 2 | 1 => 3 | 2 => 4 | _ => 5) (fun | 0 => 19 | 1 => 20 | 2 => 21 | _ => 0) (SB (pKeyE E tk.tail) M3 pb d W1.heap.size [.int .i64 (op0 : Int), .int .i64 num0, .string text0, .slice pa0 ps0.length pc0, .slice na0 pm0.length nc0, .slice ba0 bd0.length bc0] 14)) (by kernel_rfl) (by kernel_rfl) (by kernel_rfl) (JG.start _) ?_ ?_
     ·intro hon q hq L a1 W hC hl hBh hS hJ K hK
      have hqn : q < 6 := hq
      clear hq
      rcases (show q = 0 ∨ q = 1 ∨ q = 2 ∨ q = 3 ∨ q = 4 ∨ q = 5 from by omega) with rfl | rfl | rfl | rfl | rfl | rfl
      ·have e3 : a1.eval (.tmp 3) = .pointer (some ⟨W1.heap.size, 0, none⟩) := (hS.kept 3 (by kernel_rfl)).trans rfl
       have n1 : L 3 = false := closed_not hC hl (i := 3) (j := 0) rfl (g := .data) (by simp) rfl
       have hbW : W.heap[W1.heap.size]? = some (.cells #[.int .i64 (op0 : Int), .int .i64 num0, .string text0, .slice pa0 ps0.length pc0, .slice na0 pm0.length nc0, .slice ba0 bd0.length bc0] 35 (0, 0)) := hJ.read (by decide) (fun W => W.heap[W1.heap.size]? = some (.cells #[.int .i64 (op0 : Int), .int .i64 num0, .string text0, .slice pa0 ps0.length pc0, .slice na0 pm0.length nc0, .slice ba0 bd0.length bc0] 35 (0, 0))) 1 (by decide) (fun _ => n1) B1_3.out (fun k v W hk hS2 => SB.blk (by omega) hS2 B1_3.out (by omega))
       refine wpOp_run rfl rfl (v := .agg #[.int .i64 (op0 : Int), .int .i64 num0, .string text0, .slice pa0 ps0.length pc0, .slice na0 pm0.length nc0, .slice ba0 bd0.length bc0]) (w' := W) (by simp [execOp, e3, ld6E hbW, Result.andThen]) (hK _ _ (hS.put hon (i := 0) rfl rfl (fun u hu => by cases hu; rfl)) (hJ.pure (by decide) (by decide) (by decide)))
      ·have e0 := (eval_tmp a1 0).symm.trans ((hS.kept 0 (by kernel_rfl)).trans rfl)
       refine wpOp_step rfl (fun K' hK' => ?_)
       go_simp
       exact hK' _ _ (hK _ _ (hS.put hon (i := 1) rfl rfl (fun u hu => by cases hu; rfl)) (hJ.pure (by decide) (by decide) (by decide)))
      ·have e18 := (eval_tmp a1 18).symm.trans (hS.get hBh (i := 2) rfl 1 (by simp) rfl rfl rfl)
       obtain rfl := hJ.n0 hl
       refine wpOp_callP (f := 220) (args := #[.pointer (some ⟨pb, 0, none⟩)]) (R := fun en W2 => Ret (pKeyE E tk.tail) M3 pb d (VE M3) en W2) rfl rfl (by simp [execOp, resolve, invoke, e18, go_sem]) ((key_ok hO hE _ _ H_3.out.drew HKT.out).mono fun en W2 h => ret_drew (V := VE) (fun _ _ _ h => h) h) ?_ ?_ (fun W2 => ret_out VE_o)
       ·intro v W2 hR
        obtain ⟨y, ts', a, b, c, h1, h2, h3, h4, h5⟩ := ret_E hR
        exact hK _ _ (hS.put hon (i := 2) rfl rfl (fun u hu => by cases hu)) (hJ.eff 0 (by decide) (fun j hj => by omega) hl (by decide) (a1.put (some 19) v) (by show SB (pKeyE E tk.tail) M3 pb d W1.heap.size [.int .i64 (op0 : Int), .int .i64 num0, .string text0, .slice pa0 ps0.length pc0, .slice na0 pm0.length nc0, .slice ba0 bd0.length bc0] 14 0 ((a1.put (some 19) v).eval (.tmp 19)) _; rw [eval_put _ _ _ _ (by rw [hS.size]; exact (by decide : (19 : Nat) < 30)), if_pos rfl]; exact ⟨y, ts', a, b, c, h2, h1, h3, h4, h5⟩))
       ·intro ch W2 hR
        obtain ⟨pa, pe, h1, rfl, h3⟩ := ret_panic VE_p hR
        exact ⟨hS.defers.trans rfl, ret_bad (HEQ.out.trans (by rw [chainLoop_key D_2.out D_3.out]; simp only [h1, PR.bind])) ((grown_to_below G_3.out (Nat.le_of_lt hpl)).trans h3)⟩
      ·have d0 : L 2 = true := hBh _ rfl ⟨2, .data⟩ (by simp) rfl
       have e17 := (hS.get hBh (i := 3) rfl 0 (by simp) rfl rfl rfl)
       obtain ⟨y, ts', a, b, c, hv, hY⟩ := hJ.cur 0 (by decide) d0 (fun _ => hl)
       obtain ⟨op9, num9, text9, ps9, pm9, bd9⟩ := y
       obtain ⟨pa9, pc9, na9, nc9, ba9, bc9, rfl, rfl, rfl⟩ := hY.lie.at'.slices
       have hv2 : a1.eval (.tmp 19) = .agg #[.int .i64 (op9 : Int), .int .i64 num9, .string text9, .slice pa9 ps9.length pc9, .slice na9 pm9.length nc9, .slice ba9 bd9.length bc9] := hv
       refine wpOp_run rfl rfl (v := .slice (some ⟨W.heap.size, 0, none⟩) 2 2) (w' := W.alloc (.cells #[.int .i64 (op0 : Int), .int .i64 num0, .string text0, .slice pa0 ps0.length pc0, .slice na0 pm0.length nc0, .slice ba0 bd0.length bc0, .int .i64 (op9 : Int), .int .i64 num9, .string text9, .slice pa9 ps9.length pc9, .slice na9 pm9.length nc9, .slice ba9 bd9.length bc9] 35)) (by simp [execOp, e17, hv2, lay2E, Result.andThen]) (hK _ _ (hS.put hon (i := 3) rfl rfl (fun u hu => by cases hu)) (hJ.eff 1 (by decide) (fun j hj => by obtain rfl : j = 0 := (by omega); exact d0) hl (by decide) (a1.put (some 20) (.slice (some ⟨W.heap.size, 0, none⟩) 2 2)) (by show SB (pKeyE E tk.tail) M3 pb d W1.heap.size [.int .i64 (op0 : Int), .int .i64 num0, .string text0, .slice pa0 ps0.length pc0, .slice na0 pm0.length nc0, .slice ba0 bd0.length bc0] 14 1 ((a1.put (some 20) (.slice (some ⟨W.heap.size, 0, none⟩) 2 2)).eval (.tmp 20)) _; rw [eval_put _ _ _ _ (by rw [hS.size]; exact (by decide : (20 : Nat) < 30)), if_pos rfl]; exact ⟨_, _, _, _, _, W, rfl, rfl, hY⟩)))
      ·have d1 : L 3 = true := hBh _ rfl ⟨3, .data⟩ (by simp) rfl
       obtain ⟨y, ts', a, b, c, Wc, hv, rfl, hY⟩ := hJ.cur 1 (by decide) d1 (fun _ => hl)
       have hv2 : a1.eval (.tmp 20) = .slice (some ⟨Wc.heap.size, 0, none⟩) 2 2 := hv
       refine wpOp_run rfl rfl (v := .agg #[.int .i64 14, .int .i64 0, .string ⟨#[]⟩, .slice (some ⟨Wc.heap.size, 0, none⟩) 2 2, .slice none 0 0, .slice none 0 0]) (w' := Wc.alloc (rowO [.int .i64 (op0 : Int), .int .i64 num0, .string text0, .slice pa0 ps0.length pc0, .slice na0 pm0.length nc0, .slice ba0 bd0.length bc0] y a b c)) (by simp [execOp, hv2, bldE, eval_const, Result.andThen]) (hK _ _ (hS.put hon (i := 4) rfl rfl (fun u hu => by cases hu)) (hJ.eff 2 (by decide) (fun j hj => by obtain rfl : j = 1 := (by omega); exact d1) hl (by decide) (a1.put (some 21) (.agg #[.int .i64 14, .int .i64 0, .string ⟨#[]⟩, .slice (some ⟨Wc.heap.size, 0, none⟩) 2 2, .slice none 0 0, .slice none 0 0])) (by show SB (pKeyE E tk.tail) M3 pb d W1.heap.size [.int .i64 (op0 : Int), .int .i64 num0, .string text0, .slice pa0 ps0.length pc0, .slice na0 pm0.length nc0, .slice ba0 bd0.length bc0] 14 2 ((a1.put (some 21) (.agg #[.int .i64 14, .int .i64 0, .string ⟨#[]⟩, .slice (some ⟨Wc.heap.size, 0, none⟩) 2 2, .slice none 0 0, .slice none 0 0])).eval (.tmp 21)) _; rw [eval_put _ _ _ _ (by rw [hS.size]; exact (by decide : (21 : Nat) < 30)), if_pos rfl]; exact ⟨_, _, _, _, _, Wc, rfl, rfl, hY⟩)))
      ·have d2 : L 4 = true := hBh _ rfl ⟨4, .data⟩ (by simp) rfl
       have e3 : a1.eval (.tmp 3) = .pointer (some ⟨W1.heap.size, 0, none⟩) := (hS.kept 3 (by kernel_rfl)).trans rfl
       have hS2 := hJ.cur 2 (by decide) d2 (fun _ => hl)
       have hbW := SB.blk (by decide) hS2 B1_3.out (by omega)
       obtain ⟨y, ts', a, b, c, Wc, hv, rfl, hY⟩ := hS2
       have hv2 : a1.eval (.tmp 21) = .agg #[.int .i64 14, .int .i64 0, .string ⟨#[]⟩, .slice (some ⟨Wc.heap.size, 0, none⟩) 2 2, .slice none 0 0, .slice none 0 0] := hv
       refine wpOp_skip rfl rfl rfl (w' := six7 (Wc.alloc (rowO [.int .i64 (op0 : Int), .int .i64 num0, .string text0, .slice pa0 ps0.length pc0, .slice na0 pm0.length nc0, .slice ba0 bd0.length bc0] y a b c)) W1.heap.size (.int .i64 14) (.int .i64 0) (.string ⟨#[]⟩) (.slice (some ⟨Wc.heap.size, 0, none⟩) 2 2) (.slice none 0 0) (.slice none 0 0)) (by simp [execOp, e3, hv2, st6E hbW, Result.andThen]) (hK _ _ (hS.none (i := 5) rfl rfl) (hJ.eff 3 (by decide) (fun j hj => by obtain rfl : j = 2 := (by omega); exact d2) hl (by decide) _ ⟨_, _, _, _, _, Wc, rfl, hY⟩))
     ·intro L a1 wz hl hS hJ
      obtain ⟨y, ts', ya, yb, yc, Wc, hwz, hY⟩ := hJ.cur 3 (by decide) (hl 5 (by decide)) (fun h => absurd h (by decide))
      have hfr := hS.frame [17, 18, 19, 20, 21] rfl
      obtain ⟨zz, hz⟩ : ∃ z : Nat → Value, z = fun k => a1.eval (.tmp k) := ⟨_, rfl⟩
      rw [← hz] at hfr
      rw [hfr]
      clear hfr hz hS hJ hl
      simp only [over, List.setIfInBounds_toArray, List.set_cons_zero, List.set_cons_succ]
      obtain ⟨hGy, hly⟩ := eats_keyE hE _ HKT.out _ _ hY.eq
      have HGY := Lib.hid hGy
      have hsc : M3.heap.size ≤ Wc.heap.size := hY.gr.size
      have HB1z : Hid (wz.heap[W1.heap.size]? = some (.cells #[.int .i64 14, .int .i64 0, .string ⟨#[]⟩, .slice (some ⟨Wc.heap.size, 0, none⟩) 2 2, .slice none 0 0, .slice none 0 0] 35 (0, 0))) := by show _ = _; rw [hwz]; exact six7_block (block_alloc (blk_next B1_3.out (Below.refl _ _) hY.gr (by omega)) _)
      have HB0z : Hid (wz.heap[w.heap.size]? = some (.cells #[.int .i64 0, .int .i64 0, .string ⟨#[]⟩, .slice none 0 0, .slice none 0 0, .slice none 0 0] 35 (0, 0))) := by show _ = _; rw [hwz, six7_other (by omega)]; exact block_alloc (blk_next B0_3.out (Below.refl _ _) hY.gr (by omega)) _
      have HLXz : Hid (LieN (XE (mkE 14 [(.mk op0 num0 text0 ps0 pm0 bd0), y]) (.slice (some ⟨Wc.heap.size, 0, none⟩) 2 2) (.slice none 0 0) (.slice none 0 0)) (w.heap.size + 1) W1.heap.size wz) := by show LieN _ _ _ _; rw [hwz]; exact (mkE_N (m := 2) (escN2 (LX_3.out.gr hY.gr (by omega)) (LieN.of hY.lie (by omega) (.inl (by omega)))) (by omega) (by omega) rfl (by decide) (by decide) (by omega) (fun _ => rfl)).six
      have HPz : Hid (PAt wz pb ts' d) := by show PAt _ _ _ _; rw [hwz]; exact six_pat (hY.pat.alloc _) (by omega)
      have HGz : Hid (w.grownBy wz (some pb)) := by show World.grownBy _ _ _; rw [hwz]; exact six_gr (gr_alloc (gr_trans G_3.out hY.gr) _) (by omega)
      have HEY := Lib.hid hY.eq
      have hlz : W1.heap.size < wz.heap.size := lt_of_block HB1z.out
      obtain ⟨k1, hk1⟩ : ∃ k1, k = k1 + 1 := ⟨k - 1, by have := HLE.out; have := HKL.out; omega⟩
      have HLE1 : Hid (ts'.length ≤ k1) := by show _ ≤ _; have := HLE.out; have := HKL.out; omega
      have HLT : Hid (ts'.length < tk.length) := by show _ < _; have := HKL.out; omega
      have HEQ1 : Hid (pChain E B ts = chainLoop E (k1 + 1) (mkE 14 [(.mk op0 num0 text0 ps0 pm0 bd0), y]) ts') := by show _ = _; rw [HEQ.out, hk1, chainLoop_key D_2.out D_3.out]; simp only [HEY.out, PR.bind]
      have HM1 : Hid (restLen wz pb = ts'.length) := restLen_of HPz.out
      clear hk1 hly hY hwz hGy
      go_wp2_with fail
      go_roundw
      case rel => exact ⟨k1, ts', _, _, _, _, _, _, _, _, _, _, _, _, HB1z, HB0z, HLXz, HPz, HGz, HGY, HLE1, HEQ1⟩
      case measure => rw [HM1.out, HM0.out]; exact HLT.out
    ·rw [hi] at h ⊢
     rw [if_neg (by simp)] at h
     have H_3 := Lib.hid h
     have D_3 := Lib.hid hi
     clear h g hi
     go_wp2_with fail
     refine (met_any H_3.out HGK.out 4 (by decide) sPT).mono ?_
     rintro en M4 ⟨rfl, h, g⟩
     have hsm4 : M3.heap.size ≤ M4.heap.size := g.size
     have B1_4 : Hid (M4.heap[W1.heap.size]? = some (.cells #[.int .i64 (op0 : Int), .int .i64 num0, .string text0, .slice pa0 ps0.length pc0, .slice na0 pm0.length nc0, .slice ba0 bd0.length bc0] 35 (0, 0))) := blk_next B1_3.out (Below.refl _ _) g (by omega)
     have B0_4 : Hid (M4.heap[w.heap.size]? = some (.cells #[.int .i64 0, .int .i64 0, .string ⟨#[]⟩, .slice none 0 0, .slice none 0 0, .slice none 0 0] 35 (0, 0))) := blk_next B0_3.out (Below.refl _ _) g (by omega)
     have LX_4 := Lib.hid (LX_3.out.gr g (by omega))
     have G_4 : Hid (w.grownBy M4 (some pb)) := gr_trans G_3.out g
     rcases tf (isT 4 sPT tk) with hi | hi
     ·rw [hi] at h ⊢
      rw [if_pos rfl] at h
      have H_4 := Lib.hid h
      have D_4 := Lib.hid hi
      have HKT : Hid (GoodT tk.tail) := (keep_tail HGK.out (isT_kind hi) (by decide)).1
      have HKL : Hid (tk.tail.length < tk.length) := HGK.out.len
      have hl1m : W1.heap.size < M4.heap.size := lt_of_block B1_4.out
      clear h g hi
      go_wp2_with fail
      refine region_sh (fun | 0 => some (.agg #[.int .i64 (op0 : Int), .int .i64 num0, .string text0, .slice pa0 ps0.length pc0, .slice na0 pm0.length nc0, .slice ba0 bd0.length bc0]) | 1 => some (.pointer (some ⟨pb, 0, none⟩)) | _ => none) (JG M4 4 (fun | 0 => 2 | 1 => 3 | 2 => 4 | _ => 5) (fun | 0 => 27 | 1 => 28 | 2 => 29 | _ => 0) (SB (pKeyW tk.tail) M4 pb d W1.heap.size [.int .i64 (op0 : Int), .int .i64 num0, .string text0, .slice pa0 ps0.length pc0, .slice na0 pm0.length nc0, .slice ba0 bd0.length bc0] 14)) (by kernel_rfl) (by kernel_rfl) (by kernel_rfl) (JG.start _) ?_ ?_
      ·intro hon q hq L a1 W hC hl hBh hS hJ K hK
       have hqn : q < 6 := hq
       clear hq
       rcases (show q = 0 ∨ q = 1 ∨ q = 2 ∨ q = 3 ∨ q = 4 ∨ q = 5 from by omega) with rfl | rfl | rfl | rfl | rfl | rfl
       ·have e3 : a1.eval (.tmp 3) = .pointer (some ⟨W1.heap.size, 0, none⟩) := (hS.kept 3 (by kernel_rfl)).trans rfl
        have n1 : L 3 = false := closed_not hC hl (i := 3) (j := 0) rfl (g := .data) (by simp) rfl
        have hbW : W.heap[W1.heap.size]? = some (.cells #[.int .i64 (op0 : Int), .int .i64 num0, .string text0, .slice pa0 ps0.length pc0, .slice na0 pm0.length nc0, .slice ba0 bd0.length bc0] 35 (0, 0)) := hJ.read (by decide) (fun W => W.heap[W1.heap.size]? = some (.cells #[.int .i64 (op0 : Int), .int .i64 num0, .string text0, .slice pa0 ps0.length pc0, .slice na0 pm0.length nc0, .slice ba0 bd0.length bc0] 35 (0, 0))) 1 (by decide) (fun _ => n1) B1_4.out (fun k v W hk hS2 => SB.blk (by omega) hS2 B1_4.out (by omega))
        refine wpOp_run rfl rfl (v := .agg #[.int .i64 (op0 : Int), .int .i64 num0, .string text0, .slice pa0 ps0.length pc0, .slice na0 pm0.length nc0, .slice ba0 bd0.length bc0]) (w' := W) (by simp [execOp, e3, ld6E hbW, Result.andThen]) (hK _ _ (hS.put hon (i := 0) rfl rfl (fun u hu => by cases hu; rfl)) (hJ.pure (by decide) (by decide) (by decide)))
       ·have e0 := (eval_tmp a1 0).symm.trans ((hS.kept 0 (by kernel_rfl)).trans rfl)
        refine wpOp_step rfl (fun K' hK' => ?_)
        go_simp
        exact hK' _ _ (hK _ _ (hS.put hon (i := 1) rfl rfl (fun u hu => by cases hu; rfl)) (hJ.pure (by decide) (by decide) (by decide)))
       ·have e26 := (eval_tmp a1 26).symm.trans (hS.get hBh (i := 2) rfl 1 (by simp) rfl rfl rfl)
        obtain rfl := hJ.n0 hl
        refine wpOp_callP (f := 221) (args := #[.pointer (some ⟨pb, 0, none⟩)]) (R := fun en W2 => Ret (pKeyW tk.tail) M4 pb d (VE M4) en W2) rfl rfl (by simp [execOp, resolve, invoke, e26, go_sem]) ((word_ok _ _ H_4.out.drew HKT.out).mono fun en W2 h => ret_drew (V := VE) (fun _ _ _ h => h) h) ?_ ?_ (fun W2 => ret_out VE_o)
        ·intro v W2 hR
         obtain ⟨y, ts', a, b, c, h1, h2, h3, h4, h5⟩ := ret_E hR
         exact hK _ _ (hS.put hon (i := 2) rfl rfl (fun u hu => by cases hu)) (hJ.eff 0 (by decide) (fun j hj => by omega) hl (by decide) (a1.put (some 27) v) (by show SB (pKeyW tk.tail) M4 pb d W1.heap.size [.int .i64 (op0 : Int), .int .i64 num0, .string text0, .slice pa0 ps0.length pc0, .slice na0 pm0.length nc0, .slice ba0 bd0.length bc0] 14 0 ((a1.put (some 27) v).eval (.tmp 27)) _; rw [eval_put _ _ _ _ (by rw [hS.size]; exact (by decide : (27 : Nat) < 30)), if_pos rfl]; exact ⟨y, ts', a, b, c, h2, h1, h3, h4, h5⟩))
        ·intro ch W2 hR
         obtain ⟨pa, pe, h1, rfl, h3⟩ := ret_panic VE_p hR
         exact ⟨hS.defers.trans rfl, ret_bad (HEQ.out.trans (by rw [chainLoop_point D_2.out D_3.out D_4.out]; simp only [h1, PR.bind])) ((grown_to_below G_4.out (Nat.le_of_lt hpl)).trans h3)⟩
       ·have d0 : L 2 = true := hBh _ rfl ⟨2, .data⟩ (by simp) rfl
        have e25 := (hS.get hBh (i := 3) rfl 0 (by simp) rfl rfl rfl)
        obtain ⟨y, ts', a, b, c, hv, hY⟩ := hJ.cur 0 (by decide) d0 (fun _ => hl)
        obtain ⟨op9, num9, text9, ps9, pm9, bd9⟩ := y
        obtain ⟨pa9, pc9, na9, nc9, ba9, bc9, rfl, rfl, rfl⟩ := hY.lie.at'.slices
        have hv2 : a1.eval (.tmp 27) = .agg #[.int .i64 (op9 : Int), .int .i64 num9, .string text9, .slice pa9 ps9.length pc9, .slice na9 pm9.length nc9, .slice ba9 bd9.length bc9] := hv
        refine wpOp_run rfl rfl (v := .slice (some ⟨W.heap.size, 0, none⟩) 2 2) (w' := W.alloc (.cells #[.int .i64 (op0 : Int), .int .i64 num0, .string text0, .slice pa0 ps0.length pc0, .slice na0 pm0.length nc0, .slice ba0 bd0.length bc0, .int .i64 (op9 : Int), .int .i64 num9, .string text9, .slice pa9 ps9.length pc9, .slice na9 pm9.length nc9, .slice ba9 bd9.length bc9] 35)) (by simp [execOp, e25, hv2, lay2E, Result.andThen]) (hK _ _ (hS.put hon (i := 3) rfl rfl (fun u hu => by cases hu)) (hJ.eff 1 (by decide) (fun j hj => by obtain rfl : j = 0 := (by omega); exact d0) hl (by decide) (a1.put (some 28) (.slice (some ⟨W.heap.size, 0, none⟩) 2 2)) (by show SB (pKeyW tk.tail) M4 pb d W1.heap.size [.int .i64 (op0 : Int), .int .i64 num0, .string text0, .slice pa0 ps0.length pc0, .slice na0 pm0.length nc0, .slice ba0 bd0.length bc0] 14 1 ((a1.put (some 28) (.slice (some ⟨W.heap.size, 0, none⟩) 2 2)).eval (.tmp 28)) _; rw [eval_put _ _ _ _ (by rw [hS.size]; exact (by decide : (28 : Nat) < 30)), if_pos rfl]; exact ⟨_, _, _, _, _, W, rfl, rfl, hY⟩)))
       ·have d1 : L 3 = true := hBh _ rfl ⟨3, .data⟩ (by simp) rfl
        obtain ⟨y, ts', a, b, c, Wc, hv, rfl, hY⟩ := hJ.cur 1 (by decide) d1 (fun _ => hl)
        have hv2 : a1.eval (.tmp 28) = .slice (some ⟨Wc.heap.size, 0, none⟩) 2 2 := hv
        refine wpOp_run rfl rfl (v := .agg #[.int .i64 14, .int .i64 0, .string ⟨#[]⟩, .slice (some ⟨Wc.heap.size, 0, none⟩) 2 2, .slice none 0 0, .slice none 0 0]) (w' := Wc.alloc (rowO [.int .i64 (op0 : Int), .int .i64 num0, .string text0, .slice pa0 ps0.length pc0, .slice na0 pm0.length nc0, .slice ba0 bd0.length bc0] y a b c)) (by simp [execOp, hv2, bldE, eval_const, Result.andThen]) (hK _ _ (hS.put hon (i := 4) rfl rfl (fun u hu => by cases hu)) (hJ.eff 2 (by decide) (fun j hj => by obtain rfl : j = 1 := (by omega); exact d1) hl (by decide) (a1.put (some 29) (.agg #[.int .i64 14, .int .i64 0, .string ⟨#[]⟩, .slice (some ⟨Wc.heap.size, 0, none⟩) 2 2, .slice none 0 0, .slice none 0 0])) (by show SB (pKeyW tk.tail) M4 pb d W1.heap.size [.int .i64 (op0 : Int), .int .i64 num0, .string text0, .slice pa0 ps0.length pc0, .slice na0 pm0.length nc0, .slice ba0 bd0.length bc0] 14 2 ((a1.put (some 29) (.agg #[.int .i64 14, .int .i64 0, .string ⟨#[]⟩, .slice (some ⟨Wc.heap.size, 0, none⟩) 2 2, .slice none 0 0, .slice none 0 0])).eval (.tmp 29)) _; rw [eval_put _ _ _ _ (by rw [hS.size]; exact (by decide : (29 : Nat) < 30)), if_pos rfl]; exact ⟨_, _, _, _, _, Wc, rfl, rfl, hY⟩)))
       ·have d2 : L 4 = true := hBh _ rfl ⟨4, .data⟩ (by simp) rfl
        have e3 : a1.eval (.tmp 3) = .pointer (some ⟨W1.heap.size, 0, none⟩) := (hS.kept 3 (by kernel_rfl)).trans rfl
        have hS2 := hJ.cur 2 (by decide) d2 (fun _ => hl)
        have hbW := SB.blk (by decide) hS2 B1_4.out (by omega)
        obtain ⟨y, ts', a, b, c, Wc, hv, rfl, hY⟩ := hS2
        have hv2 : a1.eval (.tmp 29) = .agg #[.int .i64 14, .int .i64 0, .string ⟨#[]⟩, .slice (some ⟨Wc.heap.size, 0, none⟩) 2 2, .slice none 0 0, .slice none 0 0] := hv
        refine wpOp_skip rfl rfl rfl (w' := six7 (Wc.alloc (rowO [.int .i64 (op0 : Int), .int .i64 num0, .string text0, .slice pa0 ps0.length pc0, .slice na0 pm0.length nc0, .slice ba0 bd0.length bc0] y a b c)) W1.heap.size (.int .i64 14) (.int .i64 0) (.string ⟨#[]⟩) (.slice (some ⟨Wc.heap.size, 0, none⟩) 2 2) (.slice none 0 0) (.slice none 0 0)) (by simp [execOp, e3, hv2, st6E hbW, Result.andThen]) (hK _ _ (hS.none (i := 5) rfl rfl) (hJ.eff 3 (by decide) (fun j hj => by obtain rfl : j = 2 := (by omega); exact d2) hl (by decide) _ ⟨_, _, _, _, _, Wc, rfl, hY⟩))
      ·intro L a1 wz hl hS hJ
       obtain ⟨y, ts', ya, yb, yc, Wc, hwz, hY⟩ := hJ.cur 3 (by decide) (hl 5 (by decide)) (fun h => absurd h (by decide))
       have hfr := hS.frame [25, 26, 27, 28, 29] rfl
       obtain ⟨zz, hz⟩ : ∃ z : Nat → Value, z = fun k => a1.eval (.tmp k) := ⟨_, rfl⟩
       rw [← hz] at hfr
       rw [hfr]
       clear hfr hz hS hJ hl
       simp only [over, List.setIfInBounds_toArray, List.set_cons_zero, List.set_cons_succ]
       obtain ⟨hGy, hly⟩ := eats_keyW _ HKT.out _ _ hY.eq
       have HGY := Lib.hid hGy
       have hsc : M4.heap.size ≤ Wc.heap.size := hY.gr.size
       have HB1z : Hid (wz.heap[W1.heap.size]? = some (.cells #[.int .i64 14, .int .i64 0, .string ⟨#[]⟩, .slice (some ⟨Wc.heap.size, 0, none⟩) 2 2, .slice none 0 0, .slice none 0 0] 35 (0, 0))) := by show _ = _; rw [hwz]; exact six7_block (block_alloc (blk_next B1_4.out (Below.refl _ _) hY.gr (by omega)) _)
       have HB0z : Hid (wz.heap[w.heap.size]? = some (.cells #[.int .i64 0, .int .i64 0, .string ⟨#[]⟩, .slice none 0 0, .slice none 0 0, .slice none 0 0] 35 (0, 0))) := by show _ = _; rw [hwz, six7_other (by omega)]; exact block_alloc (blk_next B0_4.out (Below.refl _ _) hY.gr (by omega)) _
       have HLXz : Hid (LieN (XE (mkE 14 [(.mk op0 num0 text0 ps0 pm0 bd0), y]) (.slice (some ⟨Wc.heap.size, 0, none⟩) 2 2) (.slice none 0 0) (.slice none 0 0)) (w.heap.size + 1) W1.heap.size wz) := by show LieN _ _ _ _; rw [hwz]; exact (mkE_N (m := 2) (escN2 (LX_4.out.gr hY.gr (by omega)) (LieN.of hY.lie (by omega) (.inl (by omega)))) (by omega) (by omega) rfl (by decide) (by decide) (by omega) (fun _ => rfl)).six
       have HPz : Hid (PAt wz pb ts' d) := by show PAt _ _ _ _; rw [hwz]; exact six_pat (hY.pat.alloc _) (by omega)
       have HGz : Hid (w.grownBy wz (some pb)) := by show World.grownBy _ _ _; rw [hwz]; exact six_gr (gr_alloc (gr_trans G_4.out hY.gr) _) (by omega)
       have HEY := Lib.hid hY.eq
       have hlz : W1.heap.size < wz.heap.size := lt_of_block HB1z.out
       obtain ⟨k1, hk1⟩ : ∃ k1, k = k1 + 1 := ⟨k - 1, by have := HLE.out; have := HKL.out; omega⟩
       have HLE1 : Hid (ts'.length ≤ k1) := by show _ ≤ _; have := HLE.out; have := HKL.out; omega
       have HLT : Hid (ts'.length < tk.length) := by show _ < _; have := HKL.out; omega
       have HEQ1 : Hid (pChain E B ts = chainLoop E (k1 + 1) (mkE 14 [(.mk op0 num0 text0 ps0 pm0 bd0), y]) ts') := by show _ = _; rw [HEQ.out, hk1, chainLoop_point D_2.out D_3.out D_4.out]; simp only [HEY.out, PR.bind]
       have HM1 : Hid (restLen wz pb = ts'.length) := restLen_of HPz.out
       clear hk1 hly hY hwz hGy
       go_wp2_with fail
       go_roundw
       case rel => exact ⟨k1, ts', _, _, _, _, _, _, _, _, _, _, _, _, HB1z, HB0z, HLXz, HPz, HGz, HGY, HLE1, HEQ1⟩
       case measure => rw [HM1.out, HM0.out]; exact HLT.out
     ·rw [hi] at h ⊢
      rw [if_neg (by simp)] at h
      have H_4 := Lib.hid h
      have D_4 := Lib.hid hi
      clear h g hi
      have rh := B0_4.out
      have r0 : M4.cell? ⟨w.heap.size, 0, none⟩ = some (.int .i64 0) := by simp [World.cell?, rh]
      have r1 : M4.cell? ⟨w.heap.size, 1, none⟩ = some (.int .i64 0) := by simp [World.cell?, rh]
      have r2 : M4.cell? ⟨w.heap.size, 2, none⟩ = some (.string ⟨#[]⟩) := by simp [World.cell?, rh]
      have r3 : M4.cell? ⟨w.heap.size, 3, none⟩ = some (.slice none 0 0) := by simp [World.cell?, rh]
      have r4 : M4.cell? ⟨w.heap.size, 4, none⟩ = some (.slice none 0 0) := by simp [World.cell?, rh]
      have r5 : M4.cell? ⟨w.heap.size, 5, none⟩ = some (.slice none 0 0) := by simp [World.cell?, rh]
      have rf : ∀ i, M4.frozen? ⟨w.heap.size, i, none⟩ = false := fun i => by simp [World.frozen?, rh]
      have rl : w.heap.size < M4.heap.size := lt_of_block rh
      clear rh
      have qh := B1_4.out
      have q0 : M4.cell? ⟨W1.heap.size, 0, none⟩ = some (.int .i64 (op0 : Int)) := by simp [World.cell?, qh]
      have q1 : M4.cell? ⟨W1.heap.size, 1, none⟩ = some (.int .i64 num0) := by simp [World.cell?, qh]
      have q2 : M4.cell? ⟨W1.heap.size, 2, none⟩ = some (.string text0) := by simp [World.cell?, qh]
      have q3 : M4.cell? ⟨W1.heap.size, 3, none⟩ = some (.slice pa0 ps0.length pc0) := by simp [World.cell?, qh]
      have q4 : M4.cell? ⟨W1.heap.size, 4, none⟩ = some (.slice na0 pm0.length nc0) := by simp [World.cell?, qh]
      have q5 : M4.cell? ⟨W1.heap.size, 5, none⟩ = some (.slice ba0 bd0.length bc0) := by simp [World.cell?, qh]
      have qf : ∀ i, M4.frozen? ⟨W1.heap.size, i, none⟩ = false := fun i => by simp [World.frozen?, qh]
      have ql : W1.heap.size < M4.heap.size := lt_of_block qh
      clear qh
      go_wp2_with fail
      obtain ⟨y0, y1, y2, y3, y4, y5⟩ := six7_cell (a := .int .i64 (op0 : Int)) (b := .int .i64 num0) (c := .string text0) (d := .slice pa0 ps0.length pc0) (e := .slice na0 pm0.length nc0) (f := .slice ba0 bd0.length bc0) B0_4.out
      have f1 : PAt (six7 M4 w.heap.size (.int .i64 (op0 : Int)) (.int .i64 num0) (.string text0) (.slice pa0 ps0.length pc0) (.slice na0 pm0.length nc0) (.slice ba0 bd0.length bc0)) pb tk d := six_pat H_4.out (by omega)
      have f2 : w.grownBy (six7 M4 w.heap.size (.int .i64 (op0 : Int)) (.int .i64 num0) (.string text0) (.slice pa0 ps0.length pc0) (.slice na0 pm0.length nc0) (.slice ba0 bd0.length bc0)) (some pb) := six_gr G_4.out (by omega)
      have f3 := LX_4.out.six2 (g := w.heap.size) (a := .int .i64 (op0 : Int)) (b := .int .i64 num0) (c := .string text0) (d := .slice pa0 ps0.length pc0) (e1 := .slice na0 pm0.length nc0) (f := .slice ba0 bd0.length bc0) (by omega)
      have f4 := f3.lie (s' := w.heap.size) (by omega) f2.size
      obtain ⟨W9, hW9⟩ : ∃ W9, six7 M4 w.heap.size (.int .i64 (op0 : Int)) (.int .i64 num0) (.string text0) (.slice pa0 ps0.length pc0) (.slice na0 pm0.length nc0) (.slice ba0 bd0.length bc0) = W9 := ⟨_, rfl⟩
      rw [hW9] at y0 y1 y2 y3 y4 y5 f1 f2 f4
      unfold six7 at hW9
      rw [hW9]
      clear hW9 f3
      have HF := Lib.hid f4
      clear f4
      refine bodyPost_ret (v := exV (.mk op0 num0 text0 ps0 pm0 bd0) (.slice pa0 ps0.length pc0) (.slice na0 pm0.length nc0) (.slice ba0 bd0.length bc0)) (by simp [results, Tryz.results208, go_sem, exV, y0, y1, y2, y3, y4, y5]) rfl (ret_ok (x := (.mk op0 num0 text0 ps0 pm0 bd0)) (HEQ.out.trans (chainLoop_end D_2.out D_3.out D_4.out)) ⟨_, _, _, rfl, HF.out⟩ f1 f2)
end Go.Proofs.YtenfphbhofibjaaGreatDoor

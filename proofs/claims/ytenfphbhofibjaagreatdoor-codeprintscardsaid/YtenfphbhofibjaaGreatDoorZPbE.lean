/-
 Pa3, Pa4, joined.
 Conditions: as each theorem says.
-/
import Derived.Test.YtenfphbhofibjaaGreatDoorZPbC
set_option maxRecDepth 100000
set_option maxHeartbeats 4000000
set_option linter.unusedVariables false
set_option linter.unusedSimpArgs false
namespace Go.Proofs.YtenfphbhofibjaaGreatDoor
open Go.RowKit LM TM PM
def OkBin (pb d : Nat) (t : Int) (f : List Tok → PR TE) : Prop := ∀ (w : World) (ts : List Tok), PAt w pb ts d → GoodT ts → Calls Tryz.prog 176 #[.pointer (some ⟨pb, 0, none⟩), .int .i64 t] w fun en w' => Ret (f ts) w pb d (VE w) en w'
def OkC (pb d : Nat) (f : List Tok → PR TE) : Prop := ∀ (w : World) (ts : List Tok), PAt w pb ts d → GoodT ts → Calls Tryz.prog 208 #[.pointer (some ⟨pb, 0, none⟩)] w fun en w' => Ret (f ts) w pb d (VE w) en w'
theorem expr_ok {pb d : Nat} {f : List Tok → PR TE} (hB : OkBin pb (d + 1) 0 f) (hE : Eats f) (hd : d < 20) : OkE pb d f := by
 intro w ts hP hG
 have hpl := hP.lt
 have HP := Lib.hid hP
 have HGD := Lib.hid hG
 clear hP hG
 go_enter Tryz.func141, Tryz.ntmps141
 go_wp2_with fail
 refine (enter_ok (HP.out.alloc _) HGD.out hd).mono ?_
 rintro en W1 ⟨rfl, h, g⟩
 have H1 := Lib.hid h
 have G1 : Hid (w.grownBy W1 (some pb)) := gr_trans (gr_alloc (gr_refl _ _) _) g
 have hs1 : w.heap.size ≤ W1.heap.size := G1.out.size
 have hm1 : w.heap.size + 1 ≤ W1.heap.size := by have := g.size; simpa using this
 have B1_0 : Hid (W1.heap[w.heap.size]? = some (.cells #[.int .i64 0, .int .i64 0, .string ⟨#[]⟩, .slice none 0 0, .slice none 0 0, .slice none 0 0] 35 (0, 0))) := blk_new g (by omega)
 clear h g
 go_wp2_with fail
 refine (hB _ _ H1.out HGD.out).mono ?_
 rintro en W2 hR
 cases hx : f ts with
 | bad a e =>
  rw [hx] at hR
  obtain ⟨rfl, hb⟩ := hR
  exact ⟨rfl, ret_bad (by simp only [hx, PR.bind, ↓reduceIte, Bool.false_eq_true]) ((grown_to_below (G1.out) (Nat.le_of_lt hpl)).trans hb)⟩
 | ok x2 ts2 =>
  rw [hx] at hR
  have K2 : Hid (GoodT ts2) := (hE _ HGD.out _ _ hx).1
  obtain ⟨⟨va, vb, vc, rfl, hL⟩, h, g⟩ := hR
  obtain ⟨op2, num2, text2, ps2, pm2, bd2⟩ := x2
  obtain ⟨pa2, pc2, na2, nc2, ba2, bc2, rfl, rfl, rfl⟩ := hL.at'.slices
  have X2 := Lib.hid hx
  clear hx
  have hL2 := Lib.hid hL
  clear hL
  have H2 := Lib.hid h
  have G2 : Hid (w.grownBy W2 (some pb)) := gr_trans (G1.out) g
  have hs2 : w.heap.size ≤ W2.heap.size := G2.out.size
  have hm2 : W1.heap.size + 0 ≤ W2.heap.size := by have := g.size; simpa using this
  have B2_0 : Hid (W2.heap[w.heap.size]? = some (.cells #[.int .i64 0, .int .i64 0, .string ⟨#[]⟩, .slice none 0 0, .slice none 0 0, .slice none 0 0] 35 (0, 0))) := blk_next B1_0.out (Below.refl _ _) g (by omega)
  clear h g B1_0
  have L2_0 : Hid (Lie (XE (.mk op2 num2 text2 ps2 pm2 bd2) (.slice pa2 ps2.length pc2) (.slice na2 pm2.length nc2) (.slice ba2 bd2.length bc2)) (W1.heap.size) W2.heap.size W2) := hL2
  clear hL2
  unfold exV
  go_wp2_with fail
  refine (leave_any (H2.out.alloc _) K2.out (by omega)).mono ?_
  rintro en W3 ⟨rfl, h, g⟩
  have H3 := Lib.hid h
  have G3 : Hid (w.grownBy W3 (some pb)) := gr_trans (gr_alloc (G2.out) _) g
  have hs3 : w.heap.size ≤ W3.heap.size := G3.out.size
  have hm3 : W2.heap.size + 1 ≤ W3.heap.size := by have := g.size; simpa using this
  have B3_0 : Hid (W3.heap[w.heap.size]? = some (.cells #[.int .i64 0, .int .i64 0, .string ⟨#[]⟩, .slice none 0 0, .slice none 0 0, .slice none 0 0] 35 (0, 0))) := blk_next B2_0.out ((Below.refl _ _).alloc (Nat.le_refl _) _) g (by omega)
  have B3_1 : Hid (W3.heap[W2.heap.size]? = some (.cells #[.int .i64 (op2 : Int), .int .i64 num2, .string text2, .slice pa2 ps2.length pc2, .slice na2 pm2.length nc2, .slice ba2 bd2.length bc2] 35 (0, 0))) := blk_new g (by omega)
  have L3_0 : Hid (Lie (XE (.mk op2 num2 text2 ps2 pm2 bd2) (.slice pa2 ps2.length pc2) (.slice na2 pm2.length nc2) (.slice ba2 bd2.length bc2)) (W1.heap.size) W2.heap.size W3) := ((L2_0.out.alloc _)).gr g (by omega)
  clear h g B2_0 L2_0
  have rh := B3_0.out
  have r0 : W3.cell? ⟨w.heap.size, 0, none⟩ = some (.int .i64 0) := by simp [World.cell?, rh]
  have r1 : W3.cell? ⟨w.heap.size, 1, none⟩ = some (.int .i64 0) := by simp [World.cell?, rh]
  have r2 : W3.cell? ⟨w.heap.size, 2, none⟩ = some (.string ⟨#[]⟩) := by simp [World.cell?, rh]
  have r3 : W3.cell? ⟨w.heap.size, 3, none⟩ = some (.slice none 0 0) := by simp [World.cell?, rh]
  have r4 : W3.cell? ⟨w.heap.size, 4, none⟩ = some (.slice none 0 0) := by simp [World.cell?, rh]
  have r5 : W3.cell? ⟨w.heap.size, 5, none⟩ = some (.slice none 0 0) := by simp [World.cell?, rh]
  have rf : ∀ i, W3.frozen? ⟨w.heap.size, i, none⟩ = false := fun i => by simp [World.frozen?, rh]
  have rl : w.heap.size < W3.heap.size := lt_of_block rh
  clear rh
  have qh := B3_1.out
  have q0 : W3.cell? ⟨W2.heap.size, 0, none⟩ = some (.int .i64 (op2 : Int)) := by simp [World.cell?, qh]
  have q1 : W3.cell? ⟨W2.heap.size, 1, none⟩ = some (.int .i64 num2) := by simp [World.cell?, qh]
  have q2 : W3.cell? ⟨W2.heap.size, 2, none⟩ = some (.string text2) := by simp [World.cell?, qh]
  have q3 : W3.cell? ⟨W2.heap.size, 3, none⟩ = some (.slice pa2 ps2.length pc2) := by simp [World.cell?, qh]
  have q4 : W3.cell? ⟨W2.heap.size, 4, none⟩ = some (.slice na2 pm2.length nc2) := by simp [World.cell?, qh]
  have q5 : W3.cell? ⟨W2.heap.size, 5, none⟩ = some (.slice ba2 bd2.length bc2) := by simp [World.cell?, qh]
  have qf : ∀ i, W3.frozen? ⟨W2.heap.size, i, none⟩ = false := fun i => by simp [World.frozen?, qh]
  have ql : W2.heap.size < W3.heap.size := lt_of_block qh
  clear qh
  go_wp2_with fail
  obtain ⟨y0, y1, y2, y3, y4, y5⟩ := six7_cell (a := .int .i64 (op2 : Int)) (b := .int .i64 num2) (c := .string text2) (d := .slice pa2 ps2.length pc2) (e := .slice na2 pm2.length nc2) (f := .slice ba2 bd2.length bc2) B3_0.out
  have hsz9 : (six7 W3 w.heap.size (.int .i64 (op2 : Int)) (.int .i64 num2) (.string text2) (.slice pa2 ps2.length pc2) (.slice na2 pm2.length nc2) (.slice ba2 bd2.length bc2)).heap.size = W3.heap.size := six7_size
  have f1 : PAt (six7 W3 w.heap.size (.int .i64 (op2 : Int)) (.int .i64 num2) (.string text2) (.slice pa2 ps2.length pc2) (.slice na2 pm2.length nc2) (.slice ba2 bd2.length bc2)) pb ts2 d := six_pat H3.out (by omega)
  have f2 : w.grownBy (six7 W3 w.heap.size (.int .i64 (op2 : Int)) (.int .i64 num2) (.string text2) (.slice pa2 ps2.length pc2) (.slice na2 pm2.length nc2) (.slice ba2 bd2.length bc2)) (some pb) := six_gr (G3.out) (by omega)
  have f3_0 : Lie (XE (.mk op2 num2 text2 ps2 pm2 bd2) (.slice pa2 ps2.length pc2) (.slice na2 pm2.length nc2) (.slice ba2 bd2.length bc2)) (W1.heap.size) W2.heap.size (six7 W3 w.heap.size (.int .i64 (op2 : Int)) (.int .i64 num2) (.string text2) (.slice pa2 ps2.length pc2) (.slice na2 pm2.length nc2) (.slice ba2 bd2.length bc2)) := six_lie L3_0.out (by omega)
  have f5_1 : (six7 W3 w.heap.size (.int .i64 (op2 : Int)) (.int .i64 num2) (.string text2) (.slice pa2 ps2.length pc2) (.slice na2 pm2.length nc2) (.slice ba2 bd2.length bc2)).heap[W2.heap.size]? = some (.cells #[.int .i64 (op2 : Int), .int .i64 num2, .string text2, .slice pa2 ps2.length pc2, .slice na2 pm2.length nc2, .slice ba2 bd2.length bc2] 35 (0, 0)) := (six7_other (by omega)).trans B3_1.out
  obtain ⟨W9, hW9⟩ : ∃ W9, six7 W3 w.heap.size (.int .i64 (op2 : Int)) (.int .i64 num2) (.string text2) (.slice pa2 ps2.length pc2) (.slice na2 pm2.length nc2) (.slice ba2 bd2.length bc2) = W9 := ⟨_, rfl⟩
  rw [hW9] at y0 y1 y2 y3 y4 y5 hsz9 f1 f2 f3_0 f5_1
  unfold six7 at hW9
  rw [hW9]
  clear hW9
  have f4 := f3_0.wider (s' := w.heap.size) (e' := W9.heap.size) (by omega) f3_0.lt (Nat.le_refl _)
  have HF := Lib.hid f4
  clear f4 f3_0 f5_1
  refine bodyPost_ret (v := exV (.mk op2 num2 text2 ps2 pm2 bd2) (.slice pa2 ps2.length pc2) (.slice na2 pm2.length nc2) (.slice ba2 bd2.length bc2)) (by simp [results, Tryz.results141, go_sem, exV, y0, y1, y2, y3, y4, y5, hsz9]) rfl (ret_ok (x := (.mk op2 num2 text2 ps2 pm2 bd2)) (by simp only [X2.out, PR.bind, ↓reduceIte, Bool.false_eq_true]) ⟨_, _, _, rfl, HF.out⟩ f1 f2)
theorem expr_deep {pb : Nat} : OkE pb 20 (pFail 3) := by
 intro w ts hP hG
 have hpl := hP.lt
 have HP := Lib.hid hP
 have HGD := Lib.hid hG
 clear hP hG
 go_enter Tryz.func141, Tryz.ntmps141
 go_wp2_with fail
 refine (enter_deep (HP.out.alloc _) HGD.out).mono ?_
 rintro en W1 ⟨rfl, rfl⟩
 exact ⟨rfl, ret_bad rfl (grown_to_below (gr_alloc (gr_refl _ _) _) (Nat.le_of_lt hpl))⟩
theorem value_ok {pb d : Nat} {E : List Tok → PR TE} (hO : OkE pb d E) (hE : Eats E) : ∀ (w : World) (ts : List Tok), PAt w pb ts d → GoodT ts → Calls Tryz.prog 139 #[.pointer (some ⟨pb, 0, none⟩)] w fun en w' => Ret (pValue E ts) w pb d (VLE w) en w' := by
 intro w ts hP hG
 have hpl := hP.lt
 have HP := Lib.hid hP
 have HGD := Lib.hid hG
 clear hP hG
 go_enter Tryz.func139, Tryz.ntmps139
 go_wp2_with fail
 refine (hO _ _ HP.out HGD.out).mono ?_
 rintro en W1 hR
 cases hx : E ts with
 | bad a e =>
  rw [hx] at hR
  obtain ⟨rfl, hb⟩ := hR
  exact ⟨rfl, ret_bad (by simp only [pValue, hx, PR.bind, ↓reduceIte, Bool.false_eq_true]) ((Below.refl _ _).trans hb)⟩
 | ok x1 ts1 =>
  rw [hx] at hR
  have K1 : Hid (GoodT ts1) := (hE _ HGD.out _ _ hx).1
  obtain ⟨⟨va, vb, vc, rfl, hL⟩, h, g⟩ := hR
  obtain ⟨op1, num1, text1, ps1, pm1, bd1⟩ := x1
  obtain ⟨pa1, pc1, na1, nc1, ba1, bc1, rfl, rfl, rfl⟩ := hL.at'.slices
  have X1 := Lib.hid hx
  clear hx
  have hL2 := Lib.hid hL
  clear hL
  have H1 := Lib.hid h
  have G1 : Hid (w.grownBy W1 (some pb)) := gr_trans (gr_refl _ _) g
  have hs1 : w.heap.size ≤ W1.heap.size := G1.out.size
  have hm1 : w.heap.size + 0 ≤ W1.heap.size := by have := g.size; simpa using this
  clear h g
  have L1_0 : Hid (Lie (XE (.mk op1 num1 text1 ps1 pm1 bd1) (.slice pa1 ps1.length pc1) (.slice na1 pm1.length nc1) (.slice ba1 bd1.length bc1)) (w.heap.size) W1.heap.size W1) := hL2
  clear hL2
  unfold exV
  go_wp2_with fail
  refine (psign_any (H1.out.alloc _) K1.out sSE).mono ?_
  rintro en W2 hR
  cases hx : pSign sSE ts1 with
  | bad a e =>
   rw [hx] at hR
   obtain ⟨rfl, hb⟩ := hR
   exact ⟨rfl, ret_bad (by simp only [pValue, X1.out, hx, PR.bind, ↓reduceIte, Bool.false_eq_true]) ((grown_to_below (gr_alloc (G1.out) _) (Nat.le_of_lt hpl)).trans hb)⟩
  | ok x2 ts2 =>
   rw [hx] at hR
   have K2 : Hid (GoodT ts2) := ((eats_sign sSE) _ K1.out _ _ hx).1
   obtain ⟨hv, h, g⟩ := hR
   have hv2 : en = .returned (.tuple #[]) := hv
   subst hv2
   clear hv
   have X2 := Lib.hid hx
   clear hx
   have H2 := Lib.hid h
   have G2 : Hid (w.grownBy W2 (some pb)) := gr_trans (gr_alloc (G1.out) _) g
   have hs2 : w.heap.size ≤ W2.heap.size := G2.out.size
   have hm2 : W1.heap.size + 1 ≤ W2.heap.size := by have := g.size; simpa using this
   have B2_0 : Hid (W2.heap[W1.heap.size]? = some (.cells #[.int .i64 (op1 : Int), .int .i64 num1, .string text1, .slice pa1 ps1.length pc1, .slice na1 pm1.length nc1, .slice ba1 bd1.length bc1] 35 (0, 0))) := blk_new g (by omega)
   have L2_0 : Hid (Lie (XE (.mk op1 num1 text1 ps1 pm1 bd1) (.slice pa1 ps1.length pc1) (.slice na1 pm1.length nc1) (.slice ba1 bd1.length bc1)) (w.heap.size) W1.heap.size W2) := ((L1_0.out.alloc _)).gr g (by omega)
   clear h g L1_0
   have qh := B2_0.out
   have q0 : W2.cell? ⟨W1.heap.size, 0, none⟩ = some (.int .i64 (op1 : Int)) := by simp [World.cell?, qh]
   have q1 : W2.cell? ⟨W1.heap.size, 1, none⟩ = some (.int .i64 num1) := by simp [World.cell?, qh]
   have q2 : W2.cell? ⟨W1.heap.size, 2, none⟩ = some (.string text1) := by simp [World.cell?, qh]
   have q3 : W2.cell? ⟨W1.heap.size, 3, none⟩ = some (.slice pa1 ps1.length pc1) := by simp [World.cell?, qh]
   have q4 : W2.cell? ⟨W1.heap.size, 4, none⟩ = some (.slice na1 pm1.length nc1) := by simp [World.cell?, qh]
   have q5 : W2.cell? ⟨W1.heap.size, 5, none⟩ = some (.slice ba1 bd1.length bc1) := by simp [World.cell?, qh]
   have qf : ∀ i, W2.frozen? ⟨W1.heap.size, i, none⟩ = false := fun i => by simp [World.frozen?, qh]
   have ql : W1.heap.size < W2.heap.size := lt_of_block qh
   clear qh
   go_wp2_with fail
   have f4 := row_lie (n := 1) (esc1 L2_0.out) L2_0.out.le L2_0.out.lt rfl (by decide) (by decide)
   have HF := Lib.hid (f4.wider (s' := w.heap.size) (e' := W2.heap.size + 1) (by omega) (Nat.le_refl _) (by simp))
   clear f4
   go_ret
   exact ret_ok (x := [(.mk op1 num1 text1 ps1 pm1 bd1)]) (by simp only [pValue, X1.out, X2.out, PR.bind, ↓reduceIte, Bool.false_eq_true]) ⟨_, rfl, by rw [World.size_alloc]; exact HF.out⟩ (H2.out.alloc _) (gr_alloc G2.out _)
theorem key_ok {pb d : Nat} {E : List Tok → PR TE} (hO : OkE pb d E) (hE : Eats E) : ∀ (w : World) (ts : List Tok), PAt w pb ts d → GoodT ts → Calls Tryz.prog 220 #[.pointer (some ⟨pb, 0, none⟩)] w fun en w' => Ret (pKeyE E ts) w pb d (VE w) en w' := by
 intro w ts hP hG
 have hpl := hP.lt
 have HP := Lib.hid hP
 have HGD := Lib.hid hG
 clear hP hG
 go_enter Tryz.func220, Tryz.ntmps220
 go_wp2_with fail
 refine (hO _ _ (HP.out.alloc _) HGD.out).mono ?_
 rintro en W1 hR
 cases hx : E ts with
 | bad a e =>
  rw [hx] at hR
  obtain ⟨rfl, hb⟩ := hR
  exact ⟨rfl, ret_bad (by simp only [pKeyE, hx, PR.bind, ↓reduceIte, Bool.false_eq_true]) ((grown_to_below (gr_alloc (gr_refl _ _) _) (Nat.le_of_lt hpl)).trans hb)⟩
 | ok x1 ts1 =>
  rw [hx] at hR
  have K1 : Hid (GoodT ts1) := (hE _ HGD.out _ _ hx).1
  obtain ⟨⟨va, vb, vc, rfl, hL⟩, h, g⟩ := hR
  obtain ⟨op1, num1, text1, ps1, pm1, bd1⟩ := x1
  obtain ⟨pa1, pc1, na1, nc1, ba1, bc1, rfl, rfl, rfl⟩ := hL.at'.slices
  have X1 := Lib.hid hx
  clear hx
  have hL2 : Hid (Lie (XE (.mk op1 num1 text1 ps1 pm1 bd1) (.slice pa1 ps1.length pc1) (.slice na1 pm1.length nc1) (.slice ba1 bd1.length bc1)) (w.heap.size + 1) W1.heap.size W1) := by have h9 := hL; simp only [World.size_alloc] at h9; exact h9
  clear hL
  have H1 := Lib.hid h
  have G1 : Hid (w.grownBy W1 (some pb)) := gr_trans (gr_alloc (gr_refl _ _) _) g
  have hs1 : w.heap.size ≤ W1.heap.size := G1.out.size
  have hm1 : w.heap.size + 1 ≤ W1.heap.size := by have := g.size; simpa using this
  have B1_0 : Hid (W1.heap[w.heap.size]? = some (.cells #[.int .i64 0, .int .i64 0, .string ⟨#[]⟩, .slice none 0 0, .slice none 0 0, .slice none 0 0] 35 (0, 0))) := blk_new g (by omega)
  clear h g
  have L1_0 : Hid (Lie (XE (.mk op1 num1 text1 ps1 pm1 bd1) (.slice pa1 ps1.length pc1) (.slice na1 pm1.length nc1) (.slice ba1 bd1.length bc1)) (w.heap.size + 1) W1.heap.size W1) := hL2
  clear hL2
  unfold exV
  go_wp2_with fail
  refine (psign_any (H1.out.alloc _) K1.out sRK).mono ?_
  rintro en W2 hR
  cases hx : pSign sRK ts1 with
  | bad a e =>
   rw [hx] at hR
   obtain ⟨rfl, hb⟩ := hR
   exact ⟨rfl, ret_bad (by simp only [pKeyE, X1.out, hx, PR.bind, ↓reduceIte, Bool.false_eq_true]) ((grown_to_below (gr_alloc (G1.out) _) (Nat.le_of_lt hpl)).trans hb)⟩
  | ok x2 ts2 =>
   rw [hx] at hR
   have K2 : Hid (GoodT ts2) := ((eats_sign sRK) _ K1.out _ _ hx).1
   obtain ⟨hv, h, g⟩ := hR
   have hv2 : en = .returned (.tuple #[]) := hv
   subst hv2
   clear hv
   have X2 := Lib.hid hx
   clear hx
   have H2 := Lib.hid h
   have G2 : Hid (w.grownBy W2 (some pb)) := gr_trans (gr_alloc (G1.out) _) g
   have hs2 : w.heap.size ≤ W2.heap.size := G2.out.size
   have hm2 : W1.heap.size + 1 ≤ W2.heap.size := by have := g.size; simpa using this
   have B2_0 : Hid (W2.heap[w.heap.size]? = some (.cells #[.int .i64 0, .int .i64 0, .string ⟨#[]⟩, .slice none 0 0, .slice none 0 0, .slice none 0 0] 35 (0, 0))) := blk_next B1_0.out ((Below.refl _ _).alloc (Nat.le_refl _) _) g (by omega)
   have B2_1 : Hid (W2.heap[W1.heap.size]? = some (.cells #[.int .i64 (op1 : Int), .int .i64 num1, .string text1, .slice pa1 ps1.length pc1, .slice na1 pm1.length nc1, .slice ba1 bd1.length bc1] 35 (0, 0))) := blk_new g (by omega)
   have L2_0 : Hid (Lie (XE (.mk op1 num1 text1 ps1 pm1 bd1) (.slice pa1 ps1.length pc1) (.slice na1 pm1.length nc1) (.slice ba1 bd1.length bc1)) (w.heap.size + 1) W1.heap.size W2) := ((L1_0.out.alloc _)).gr g (by omega)
   clear h g B1_0 L1_0
   have rh := B2_0.out
   have r0 : W2.cell? ⟨w.heap.size, 0, none⟩ = some (.int .i64 0) := by simp [World.cell?, rh]
   have r1 : W2.cell? ⟨w.heap.size, 1, none⟩ = some (.int .i64 0) := by simp [World.cell?, rh]
   have r2 : W2.cell? ⟨w.heap.size, 2, none⟩ = some (.string ⟨#[]⟩) := by simp [World.cell?, rh]
   have r3 : W2.cell? ⟨w.heap.size, 3, none⟩ = some (.slice none 0 0) := by simp [World.cell?, rh]
   have r4 : W2.cell? ⟨w.heap.size, 4, none⟩ = some (.slice none 0 0) := by simp [World.cell?, rh]
   have r5 : W2.cell? ⟨w.heap.size, 5, none⟩ = some (.slice none 0 0) := by simp [World.cell?, rh]
   have rf : ∀ i, W2.frozen? ⟨w.heap.size, i, none⟩ = false := fun i => by simp [World.frozen?, rh]
   have rl : w.heap.size < W2.heap.size := lt_of_block rh
   clear rh
   have qh := B2_1.out
   have q0 : W2.cell? ⟨W1.heap.size, 0, none⟩ = some (.int .i64 (op1 : Int)) := by simp [World.cell?, qh]
   have q1 : W2.cell? ⟨W1.heap.size, 1, none⟩ = some (.int .i64 num1) := by simp [World.cell?, qh]
   have q2 : W2.cell? ⟨W1.heap.size, 2, none⟩ = some (.string text1) := by simp [World.cell?, qh]
   have q3 : W2.cell? ⟨W1.heap.size, 3, none⟩ = some (.slice pa1 ps1.length pc1) := by simp [World.cell?, qh]
   have q4 : W2.cell? ⟨W1.heap.size, 4, none⟩ = some (.slice na1 pm1.length nc1) := by simp [World.cell?, qh]
   have q5 : W2.cell? ⟨W1.heap.size, 5, none⟩ = some (.slice ba1 bd1.length bc1) := by simp [World.cell?, qh]
   have qf : ∀ i, W2.frozen? ⟨W1.heap.size, i, none⟩ = false := fun i => by simp [World.frozen?, qh]
   have ql : W1.heap.size < W2.heap.size := lt_of_block qh
   clear qh
   go_wp2_with fail
   obtain ⟨y0, y1, y2, y3, y4, y5⟩ := six7_cell (a := .int .i64 (op1 : Int)) (b := .int .i64 num1) (c := .string text1) (d := .slice pa1 ps1.length pc1) (e := .slice na1 pm1.length nc1) (f := .slice ba1 bd1.length bc1) B2_0.out
   have hsz9 : (six7 W2 w.heap.size (.int .i64 (op1 : Int)) (.int .i64 num1) (.string text1) (.slice pa1 ps1.length pc1) (.slice na1 pm1.length nc1) (.slice ba1 bd1.length bc1)).heap.size = W2.heap.size := six7_size
   have f1 : PAt (six7 W2 w.heap.size (.int .i64 (op1 : Int)) (.int .i64 num1) (.string text1) (.slice pa1 ps1.length pc1) (.slice na1 pm1.length nc1) (.slice ba1 bd1.length bc1)) pb ts2 d := six_pat H2.out (by omega)
   have f2 : w.grownBy (six7 W2 w.heap.size (.int .i64 (op1 : Int)) (.int .i64 num1) (.string text1) (.slice pa1 ps1.length pc1) (.slice na1 pm1.length nc1) (.slice ba1 bd1.length bc1)) (some pb) := six_gr (G2.out) (by omega)
   have f3_0 : Lie (XE (.mk op1 num1 text1 ps1 pm1 bd1) (.slice pa1 ps1.length pc1) (.slice na1 pm1.length nc1) (.slice ba1 bd1.length bc1)) (w.heap.size + 1) W1.heap.size (six7 W2 w.heap.size (.int .i64 (op1 : Int)) (.int .i64 num1) (.string text1) (.slice pa1 ps1.length pc1) (.slice na1 pm1.length nc1) (.slice ba1 bd1.length bc1)) := six_lie L2_0.out (by omega)
   have f5_1 : (six7 W2 w.heap.size (.int .i64 (op1 : Int)) (.int .i64 num1) (.string text1) (.slice pa1 ps1.length pc1) (.slice na1 pm1.length nc1) (.slice ba1 bd1.length bc1)).heap[W1.heap.size]? = some (.cells #[.int .i64 (op1 : Int), .int .i64 num1, .string text1, .slice pa1 ps1.length pc1, .slice na1 pm1.length nc1, .slice ba1 bd1.length bc1] 35 (0, 0)) := (six7_other (by omega)).trans B2_1.out
   obtain ⟨W9, hW9⟩ : ∃ W9, six7 W2 w.heap.size (.int .i64 (op1 : Int)) (.int .i64 num1) (.string text1) (.slice pa1 ps1.length pc1) (.slice na1 pm1.length nc1) (.slice ba1 bd1.length bc1) = W9 := ⟨_, rfl⟩
   rw [hW9] at y0 y1 y2 y3 y4 y5 hsz9 f1 f2 f3_0 f5_1
   unfold six7 at hW9
   rw [hW9]
   clear hW9
   have f4 := f3_0.wider (s' := w.heap.size) (e' := W9.heap.size) (by omega) f3_0.lt (Nat.le_refl _)
   have HF := Lib.hid f4
   clear f4 f3_0 f5_1
   refine bodyPost_ret (v := exV (.mk op1 num1 text1 ps1 pm1 bd1) (.slice pa1 ps1.length pc1) (.slice na1 pm1.length nc1) (.slice ba1 bd1.length bc1)) (by simp [results, Tryz.results220, go_sem, exV, y0, y1, y2, y3, y4, y5, hsz9]) rfl (ret_ok (x := (.mk op1 num1 text1 ps1 pm1 bd1)) (by simp only [pKeyE, X1.out, X2.out, PR.bind, ↓reduceIte, Bool.false_eq_true]) ⟨_, _, _, rfl, HF.out⟩ f1 f2)
theorem word_ok {pb d : Nat} : ∀ (w : World) (ts : List Tok), PAt w pb ts d → GoodT ts → Calls Tryz.prog 221 #[.pointer (some ⟨pb, 0, none⟩)] w fun en w' => Ret (pKeyW ts) w pb d (VE w) en w' := by
 intro w ts hP hG
 have hpl := hP.lt
 have HP := Lib.hid hP
 have HGD := Lib.hid hG
 clear hP hG
 go_enter Tryz.func221, Tryz.ntmps221
 go_wp2_with fail
 refine (name_p (HP.out.alloc _) HGD.out).mono ?_
 rintro en W1 hR
 cases hx : pName ts with
 | bad a e =>
  rw [hx] at hR
  obtain ⟨rfl, hb⟩ := hR
  exact ⟨rfl, ret_bad (by simp only [pKeyW, hx, PR.bind, ↓reduceIte, Bool.false_eq_true]) ((grown_to_below (gr_alloc (gr_refl _ _) _) (Nat.le_of_lt hpl)).trans hb)⟩
 | ok x1 ts1 =>
  rw [hx] at hR
  have K1 : Hid (GoodT ts1) := (eats_name _ HGD.out _ _ hx).1
  obtain ⟨hv, h, g⟩ := hR
  have hv2 : en = .returned (.string x1) := hv
  subst hv2
  clear hv
  have X1 := Lib.hid hx
  clear hx
  have H1 := Lib.hid h
  have G1 : Hid (w.grownBy W1 (some pb)) := gr_trans (gr_alloc (gr_refl _ _) _) g
  have hs1 : w.heap.size ≤ W1.heap.size := G1.out.size
  have hm1 : w.heap.size + 1 ≤ W1.heap.size := by have := g.size; simpa using this
  have B1_0 : Hid (W1.heap[w.heap.size]? = some (.cells #[.int .i64 0, .int .i64 0, .string ⟨#[]⟩, .slice none 0 0, .slice none 0 0, .slice none 0 0] 35 (0, 0))) := blk_new g (by omega)
  clear h g
  have rh := B1_0.out
  have r0 : W1.cell? ⟨w.heap.size, 0, none⟩ = some (.int .i64 0) := by simp [World.cell?, rh]
  have r1 : W1.cell? ⟨w.heap.size, 1, none⟩ = some (.int .i64 0) := by simp [World.cell?, rh]
  have r2 : W1.cell? ⟨w.heap.size, 2, none⟩ = some (.string ⟨#[]⟩) := by simp [World.cell?, rh]
  have r3 : W1.cell? ⟨w.heap.size, 3, none⟩ = some (.slice none 0 0) := by simp [World.cell?, rh]
  have r4 : W1.cell? ⟨w.heap.size, 4, none⟩ = some (.slice none 0 0) := by simp [World.cell?, rh]
  have r5 : W1.cell? ⟨w.heap.size, 5, none⟩ = some (.slice none 0 0) := by simp [World.cell?, rh]
  have rf : ∀ i, W1.frozen? ⟨w.heap.size, i, none⟩ = false := fun i => by simp [World.frozen?, rh]
  have rl : w.heap.size < W1.heap.size := lt_of_block rh
  clear rh
  go_wp2_with fail
  obtain ⟨y0, y1, y2, y3, y4, y5⟩ := six7_cell (a := .int .i64 4) (b := .int .i64 0) (c := .string x1) (d := .slice none 0 0) (e := .slice none 0 0) (f := .slice none 0 0) B1_0.out
  have hsz9 : (six7 W1 w.heap.size (.int .i64 4) (.int .i64 0) (.string x1) (.slice none 0 0) (.slice none 0 0) (.slice none 0 0)).heap.size = W1.heap.size := six7_size
  have f1 : PAt (six7 W1 w.heap.size (.int .i64 4) (.int .i64 0) (.string x1) (.slice none 0 0) (.slice none 0 0) (.slice none 0 0)) pb ts1 d := six_pat H1.out (by omega)
  have f2 : w.grownBy (six7 W1 w.heap.size (.int .i64 4) (.int .i64 0) (.string x1) (.slice none 0 0) (.slice none 0 0) (.slice none 0 0)) (some pb) := six_gr (G1.out) (by omega)
  obtain ⟨W9, hW9⟩ : ∃ W9, six7 W1 w.heap.size (.int .i64 4) (.int .i64 0) (.string x1) (.slice none 0 0) (.slice none 0 0) (.slice none 0 0) = W9 := ⟨_, rfl⟩
  rw [hW9] at y0 y1 y2 y3 y4 y5 hsz9 f1 f2
  unfold six7 at hW9
  rw [hW9]
  clear hW9
  have f4 : Lie (XE (textE x1) (.slice none 0 0) (.slice none 0 0) (.slice none 0 0)) w.heap.size W9.heap.size W9 := leaf_lie (by omega) (Nat.le_refl _) (by decide) (by decide) (by decide) (by decide)
  have HF := Lib.hid f4
  clear f4 
  refine bodyPost_ret (v := exV (textE x1) (.slice none 0 0) (.slice none 0 0) (.slice none 0 0)) (by simp [results, Tryz.results221, go_sem, exV, textE, y0, y1, y2, y3, y4, y5, hsz9]) rfl (ret_ok (x := (textE x1)) (by simp only [pKeyW, X1.out, PR.bind, ↓reduceIte, Bool.false_eq_true]) ⟨_, _, _, rfl, HF.out⟩ f1 f2)
end Go.Proofs.YtenfphbhofibjaaGreatDoor
namespace Go.Proofs.YtenfphbhofibjaaGreatDoor
open Go.RowKit LM TM PM
theorem unary_ok {pb d : Nat} {E U : List Tok → PR TE} {B : List Tok → PR (List TS)} (hC : OkC pb d (pChain E B)) (hCE : Eats (pChain E B)) (hU : OkU pb (d + 1) U) (hUE : Eats U) (hd : d < 20) : OkU pb d (pUnary E B U) := by
 intro w ts hP hG
 have hpl := hP.lt
 have HP := Lib.hid hP
 have HGD := Lib.hid hG
 clear hP hG
 go_enter Tryz.func196, Tryz.ntmps196
 go_wp2_with fail
 refine (op_any (HP.out.alloc _) HGD.out 3 (by decide)).mono ?_
 rintro en W1 ⟨rfl, h, g⟩
 rcases op_cases (pOp 3 ts) with ho | ⟨op, ho⟩
 ·rw [ho] at h ⊢
  rw [if_neg (by simp)] at h
  have O1 := Lib.hid ho
  clear ho
  have H1 := Lib.hid h
  have G1 : Hid (w.grownBy W1 (some pb)) := gr_trans (gr_alloc (gr_refl _ _) _) g
  have hs1 : w.heap.size ≤ W1.heap.size := G1.out.size
  have hm1 : w.heap.size + 1 ≤ W1.heap.size := by have := g.size; simpa using this
  have B1_0 : Hid (W1.heap[w.heap.size]? = some (.cells #[.int .i64 0, .int .i64 0, .string ⟨#[]⟩, .slice none 0 0, .slice none 0 0, .slice none 0 0] 35 (0, 0))) := blk_new g (by omega)
  clear h g
  go_wp2_with fail
  refine (hC _ _ H1.out HGD.out).mono ?_
  rintro en W2 hR
  cases hx : pChain E B ts with
  | bad a e =>
   rw [hx] at hR
   obtain ⟨rfl, hb⟩ := hR
   exact ⟨rfl, ret_bad (by simp only [pUnary, O1.out, hx, PR.bind, ↓reduceIte, Bool.false_eq_true]) ((grown_to_below (G1.out) (Nat.le_of_lt hpl)).trans hb)⟩
  | ok x2 ts2 =>
   rw [hx] at hR
   have K2 : Hid (GoodT ts2) := (hCE _ HGD.out _ _ hx).1
   obtain ⟨⟨va, vb, vc, rfl, hL⟩, h, g⟩ := hR
   obtain ⟨op2, num2, text2, ps2, pm2, bd2⟩ := x2
   obtain ⟨pa2, pc2, na2, nc2, ba2, bc2, rfl, rfl, rfl⟩ := hL.at'.slices
   have X2 := Lib.hid hx
   clear hx
   have hL2 := Lib.hid hL
   clear hL
   have H2 := Lib.hid h
   have G2 : Hid (w.grownBy W2 (some pb)) := gr_trans (G1.out) g
   have hs2 : w.heap.size ≤ W2.heap.size := G2.out.size
   have hm2 : W1.heap.size + 0 ≤ W2.heap.size := by have := g.size; simpa using this
   have B2_0 : Hid (W2.heap[w.heap.size]? = some (.cells #[.int .i64 0, .int .i64 0, .string ⟨#[]⟩, .slice none 0 0, .slice none 0 0, .slice none 0 0] 35 (0, 0))) := blk_next B1_0.out (Below.refl _ _) g (by omega)
   clear h g B1_0
   have L2_0 : Hid (Lie (XE (.mk op2 num2 text2 ps2 pm2 bd2) (.slice pa2 ps2.length pc2) (.slice na2 pm2.length nc2) (.slice ba2 bd2.length bc2)) (W1.heap.size) W2.heap.size W2) := hL2
   clear hL2
   unfold exV
   have rh := B2_0.out
   have r0 : W2.cell? ⟨w.heap.size, 0, none⟩ = some (.int .i64 0) := by simp [World.cell?, rh]
   have r1 : W2.cell? ⟨w.heap.size, 1, none⟩ = some (.int .i64 0) := by simp [World.cell?, rh]
   have r2 : W2.cell? ⟨w.heap.size, 2, none⟩ = some (.string ⟨#[]⟩) := by simp [World.cell?, rh]
   have r3 : W2.cell? ⟨w.heap.size, 3, none⟩ = some (.slice none 0 0) := by simp [World.cell?, rh]
   have r4 : W2.cell? ⟨w.heap.size, 4, none⟩ = some (.slice none 0 0) := by simp [World.cell?, rh]
   have r5 : W2.cell? ⟨w.heap.size, 5, none⟩ = some (.slice none 0 0) := by simp [World.cell?, rh]
   have rf : ∀ i, W2.frozen? ⟨w.heap.size, i, none⟩ = false := fun i => by simp [World.frozen?, rh]
   have rl : w.heap.size < W2.heap.size := lt_of_block rh
   clear rh
   go_wp2_with fail
   obtain ⟨y0, y1, y2, y3, y4, y5⟩ := six7_cell (a := .int .i64 (op2 : Int)) (b := .int .i64 num2) (c := .string text2) (d := .slice pa2 ps2.length pc2) (e := .slice na2 pm2.length nc2) (f := .slice ba2 bd2.length bc2) B2_0.out
   have hsz9 : (six7 W2 w.heap.size (.int .i64 (op2 : Int)) (.int .i64 num2) (.string text2) (.slice pa2 ps2.length pc2) (.slice na2 pm2.length nc2) (.slice ba2 bd2.length bc2)).heap.size = W2.heap.size := six7_size
   have f1 : PAt (six7 W2 w.heap.size (.int .i64 (op2 : Int)) (.int .i64 num2) (.string text2) (.slice pa2 ps2.length pc2) (.slice na2 pm2.length nc2) (.slice ba2 bd2.length bc2)) pb ts2 d := six_pat H2.out (by omega)
   have f2 : w.grownBy (six7 W2 w.heap.size (.int .i64 (op2 : Int)) (.int .i64 num2) (.string text2) (.slice pa2 ps2.length pc2) (.slice na2 pm2.length nc2) (.slice ba2 bd2.length bc2)) (some pb) := six_gr (G2.out) (by omega)
   have f3_0 : Lie (XE (.mk op2 num2 text2 ps2 pm2 bd2) (.slice pa2 ps2.length pc2) (.slice na2 pm2.length nc2) (.slice ba2 bd2.length bc2)) (W1.heap.size) W2.heap.size (six7 W2 w.heap.size (.int .i64 (op2 : Int)) (.int .i64 num2) (.string text2) (.slice pa2 ps2.length pc2) (.slice na2 pm2.length nc2) (.slice ba2 bd2.length bc2)) := six_lie L2_0.out (by omega)
   obtain ⟨W9, hW9⟩ : ∃ W9, six7 W2 w.heap.size (.int .i64 (op2 : Int)) (.int .i64 num2) (.string text2) (.slice pa2 ps2.length pc2) (.slice na2 pm2.length nc2) (.slice ba2 bd2.length bc2) = W9 := ⟨_, rfl⟩
   rw [hW9] at y0 y1 y2 y3 y4 y5 hsz9 f1 f2 f3_0
   unfold six7 at hW9
   rw [hW9]
   clear hW9
   have f4 := f3_0.wider (s' := w.heap.size) (e' := W9.heap.size) (by omega) f3_0.lt (Nat.le_refl _)
   have HF := Lib.hid f4
   clear f4 f3_0
   refine bodyPost_ret (v := exV (.mk op2 num2 text2 ps2 pm2 bd2) (.slice pa2 ps2.length pc2) (.slice na2 pm2.length nc2) (.slice ba2 bd2.length bc2)) (by simp [results, Tryz.results196, go_sem, exV, y0, y1, y2, y3, y4, y5, hsz9]) rfl (ret_ok (x := (.mk op2 num2 text2 ps2 pm2 bd2)) (by simp only [pUnary, O1.out, X2.out, PR.bind, ↓reduceIte, Bool.false_eq_true]) ⟨_, _, _, rfl, HF.out⟩ f1 f2)
 ·rw [ho] at h ⊢
  rw [if_pos (by simp)] at h
  have hop := pOp_le ho
  have O1 := Lib.hid ho
  have K1 : Hid (GoodT ts.tail) := (keep_tail HGD.out (pOp_kind ho) (by decide)).1
  clear ho
  have H1 := Lib.hid h
  have G1 : Hid (w.grownBy W1 (some pb)) := gr_trans (gr_alloc (gr_refl _ _) _) g
  have hs1 : w.heap.size ≤ W1.heap.size := G1.out.size
  have hm1 : w.heap.size + 1 ≤ W1.heap.size := by have := g.size; simpa using this
  have B1_0 : Hid (W1.heap[w.heap.size]? = some (.cells #[.int .i64 0, .int .i64 0, .string ⟨#[]⟩, .slice none 0 0, .slice none 0 0, .slice none 0 0] 35 (0, 0))) := blk_new g (by omega)
  clear h g
  go_wp2_with fail
  refine (enter_ok H1.out K1.out hd).mono ?_
  rintro en W3 ⟨rfl, h, g⟩
  have H3 := Lib.hid h
  have G3 : Hid (w.grownBy W3 (some pb)) := gr_trans (G1.out) g
  have hs3 : w.heap.size ≤ W3.heap.size := G3.out.size
  have hm3 : W1.heap.size + 0 ≤ W3.heap.size := by have := g.size; simpa using this
  have B3_0 : Hid (W3.heap[w.heap.size]? = some (.cells #[.int .i64 0, .int .i64 0, .string ⟨#[]⟩, .slice none 0 0, .slice none 0 0, .slice none 0 0] 35 (0, 0))) := blk_next B1_0.out (Below.refl _ _) g (by omega)
  clear h g B1_0
  go_wp2_with fail
  refine (hU _ _ H3.out K1.out).mono ?_
  rintro en W4 hR
  cases hx : U ts.tail with
  | bad a e =>
   rw [hx] at hR
   obtain ⟨rfl, hb⟩ := hR
   exact ⟨rfl, ret_bad (by simp only [pUnary, O1.out, hx, PR.bind, ↓reduceIte, Bool.false_eq_true]) ((grown_to_below (G3.out) (Nat.le_of_lt hpl)).trans hb)⟩
  | ok x4 ts4 =>
   rw [hx] at hR
   have K4 : Hid (GoodT ts4) := (hUE _ K1.out _ _ hx).1
   obtain ⟨⟨va, vb, vc, rfl, hL⟩, h, g⟩ := hR
   obtain ⟨op4, num4, text4, ps4, pm4, bd4⟩ := x4
   obtain ⟨pa4, pc4, na4, nc4, ba4, bc4, rfl, rfl, rfl⟩ := hL.at'.slices
   have X4 := Lib.hid hx
   clear hx
   have hL2 := Lib.hid hL
   clear hL
   have H4 := Lib.hid h
   have G4 : Hid (w.grownBy W4 (some pb)) := gr_trans (G3.out) g
   have hs4 : w.heap.size ≤ W4.heap.size := G4.out.size
   have hm4 : W3.heap.size + 0 ≤ W4.heap.size := by have := g.size; simpa using this
   have B4_0 : Hid (W4.heap[w.heap.size]? = some (.cells #[.int .i64 0, .int .i64 0, .string ⟨#[]⟩, .slice none 0 0, .slice none 0 0, .slice none 0 0] 35 (0, 0))) := blk_next B3_0.out (Below.refl _ _) g (by omega)
   clear h g B3_0
   have L4_0 : Hid (Lie (XE (.mk op4 num4 text4 ps4 pm4 bd4) (.slice pa4 ps4.length pc4) (.slice na4 pm4.length nc4) (.slice ba4 bd4.length bc4)) (W3.heap.size) W4.heap.size W4) := hL2
   clear hL2
   unfold exV
   go_wp2_with fail
   refine (leave_any (H4.out.alloc _) K4.out (by omega)).mono ?_
   rintro en W5 ⟨rfl, h, g⟩
   have H5 := Lib.hid h
   have G5 : Hid (w.grownBy W5 (some pb)) := gr_trans (gr_alloc (G4.out) _) g
   have hs5 : w.heap.size ≤ W5.heap.size := G5.out.size
   have hm5 : W4.heap.size + 1 ≤ W5.heap.size := by have := g.size; simpa using this
   have B5_0 : Hid (W5.heap[w.heap.size]? = some (.cells #[.int .i64 0, .int .i64 0, .string ⟨#[]⟩, .slice none 0 0, .slice none 0 0, .slice none 0 0] 35 (0, 0))) := blk_next B4_0.out ((Below.refl _ _).alloc (Nat.le_refl _) _) g (by omega)
   have B5_1 : Hid (W5.heap[W4.heap.size]? = some (.cells #[.int .i64 (op4 : Int), .int .i64 num4, .string text4, .slice pa4 ps4.length pc4, .slice na4 pm4.length nc4, .slice ba4 bd4.length bc4] 35 (0, 0))) := blk_new g (by omega)
   have L5_0 : Hid (Lie (XE (.mk op4 num4 text4 ps4 pm4 bd4) (.slice pa4 ps4.length pc4) (.slice na4 pm4.length nc4) (.slice ba4 bd4.length bc4)) (W3.heap.size) W4.heap.size W5) := ((L4_0.out.alloc _)).gr g (by omega)
   clear h g B4_0 L4_0
   have rh := B5_0.out
   have r0 : W5.cell? ⟨w.heap.size, 0, none⟩ = some (.int .i64 0) := by simp [World.cell?, rh]
   have r1 : W5.cell? ⟨w.heap.size, 1, none⟩ = some (.int .i64 0) := by simp [World.cell?, rh]
   have r2 : W5.cell? ⟨w.heap.size, 2, none⟩ = some (.string ⟨#[]⟩) := by simp [World.cell?, rh]
   have r3 : W5.cell? ⟨w.heap.size, 3, none⟩ = some (.slice none 0 0) := by simp [World.cell?, rh]
   have r4 : W5.cell? ⟨w.heap.size, 4, none⟩ = some (.slice none 0 0) := by simp [World.cell?, rh]
   have r5 : W5.cell? ⟨w.heap.size, 5, none⟩ = some (.slice none 0 0) := by simp [World.cell?, rh]
   have rf : ∀ i, W5.frozen? ⟨w.heap.size, i, none⟩ = false := fun i => by simp [World.frozen?, rh]
   have rl : w.heap.size < W5.heap.size := lt_of_block rh
   clear rh
   have qh := B5_1.out
   have q0 : W5.cell? ⟨W4.heap.size, 0, none⟩ = some (.int .i64 (op4 : Int)) := by simp [World.cell?, qh]
   have q1 : W5.cell? ⟨W4.heap.size, 1, none⟩ = some (.int .i64 num4) := by simp [World.cell?, qh]
   have q2 : W5.cell? ⟨W4.heap.size, 2, none⟩ = some (.string text4) := by simp [World.cell?, qh]
   have q3 : W5.cell? ⟨W4.heap.size, 3, none⟩ = some (.slice pa4 ps4.length pc4) := by simp [World.cell?, qh]
   have q4 : W5.cell? ⟨W4.heap.size, 4, none⟩ = some (.slice na4 pm4.length nc4) := by simp [World.cell?, qh]
   have q5 : W5.cell? ⟨W4.heap.size, 5, none⟩ = some (.slice ba4 bd4.length bc4) := by simp [World.cell?, qh]
   have qf : ∀ i, W5.frozen? ⟨W4.heap.size, i, none⟩ = false := fun i => by simp [World.frozen?, qh]
   have ql : W4.heap.size < W5.heap.size := lt_of_block qh
   clear qh
   go_wp2_with fail
   obtain ⟨y0, y1, y2, y3, y4, y5⟩ := six7_cell (a := .int .i64 (op : Int)) (b := .int .i64 0) (c := .string ⟨#[]⟩) (d := .slice (some ⟨W5.heap.size, 0, none⟩) 1 1) (e := .slice none 0 0) (f := .slice none 0 0) B5_0.out
   have hsz9 : (six7 W5 w.heap.size (.int .i64 (op : Int)) (.int .i64 0) (.string ⟨#[]⟩) (.slice (some ⟨W5.heap.size, 0, none⟩) 1 1) (.slice none 0 0) (.slice none 0 0)).heap.size = W5.heap.size := six7_size
   have f1 : PAt (six7 W5 w.heap.size (.int .i64 (op : Int)) (.int .i64 0) (.string ⟨#[]⟩) (.slice (some ⟨W5.heap.size, 0, none⟩) 1 1) (.slice none 0 0) (.slice none 0 0)) pb ts4 d := six_pat H5.out (by omega)
   have f2 : w.grownBy (six7 W5 w.heap.size (.int .i64 (op : Int)) (.int .i64 0) (.string ⟨#[]⟩) (.slice (some ⟨W5.heap.size, 0, none⟩) 1 1) (.slice none 0 0) (.slice none 0 0)) (some pb) := six_gr (G5.out) (by omega)
   have f3_0 : Lie (XE (.mk op4 num4 text4 ps4 pm4 bd4) (.slice pa4 ps4.length pc4) (.slice na4 pm4.length nc4) (.slice ba4 bd4.length bc4)) (W3.heap.size) W4.heap.size (six7 W5 w.heap.size (.int .i64 (op : Int)) (.int .i64 0) (.string ⟨#[]⟩) (.slice (some ⟨W5.heap.size, 0, none⟩) 1 1) (.slice none 0 0) (.slice none 0 0)) := six_lie L5_0.out (by omega)
   have f5_1 : (six7 W5 w.heap.size (.int .i64 (op : Int)) (.int .i64 0) (.string ⟨#[]⟩) (.slice (some ⟨W5.heap.size, 0, none⟩) 1 1) (.slice none 0 0) (.slice none 0 0)).heap[W4.heap.size]? = some (.cells #[.int .i64 (op4 : Int), .int .i64 num4, .string text4, .slice pa4 ps4.length pc4, .slice na4 pm4.length nc4, .slice ba4 bd4.length bc4] 35 (0, 0)) := (six7_other (by omega)).trans B5_1.out
   obtain ⟨W9, hW9⟩ : ∃ W9, six7 W5 w.heap.size (.int .i64 (op : Int)) (.int .i64 0) (.string ⟨#[]⟩) (.slice (some ⟨W5.heap.size, 0, none⟩) 1 1) (.slice none 0 0) (.slice none 0 0) = W9 := ⟨_, rfl⟩
   rw [hW9] at y0 y1 y2 y3 y4 y5 hsz9 f1 f2 f3_0 f5_1
   unfold six7 at hW9
   rw [hW9]
   clear hW9
   have f4a := mkE_lie (op := op) (n := 1) (esc1 f3_0) f3_0.le f3_0.lt rfl (by decide) (by decide) (by omega) (fun h => by omega)
   rw [hsz9] at f4a
   have f4 := f4a.wider (s' := w.heap.size) (by omega) (by rw [World.size_alloc, hsz9]; exact Nat.le_refl _) (Nat.le_refl _)
   clear f4a
   have HF := Lib.hid f4
   clear f4 f3_0 f5_1
   have hlt9 : w.heap.size < W9.heap.size := by omega
   have hpast : ∀ (o : Obj) (i : Nat), (W9.alloc o).cell? ⟨w.heap.size, i, none⟩ = W9.cell? ⟨w.heap.size, i, none⟩ := fun o i => cell_kept (Below.heap_alloc _ _ _ hlt9)
   refine bodyPost_ret (v := exV (mkE op [(.mk op4 num4 text4 ps4 pm4 bd4)]) (.slice (some ⟨W5.heap.size, 0, none⟩) 1 1) (.slice none 0 0) (.slice none 0 0)) (by simp [results, Tryz.results196, go_sem, exV, mkE, y0, y1, y2, y3, y4, y5, hsz9, hpast]) rfl (ret_ok (x := (mkE op [(.mk op4 num4 text4 ps4 pm4 bd4)])) (by simp only [pUnary, O1.out, X4.out, PR.bind, ↓reduceIte, Bool.false_eq_true]) ⟨_, _, _, rfl, HF.out⟩ (f1.alloc _) (gr_alloc f2 _))
theorem unary_deep {pb : Nat} {E : List Tok → PR TE} {B : List Tok → PR (List TS)} (hC : OkC pb 20 (pChain E B)) (hCE : Eats (pChain E B)) : OkU pb 20 (pUnary E B (pFail 3)) := by
 intro w ts hP hG
 have hpl := hP.lt
 have HP := Lib.hid hP
 have HGD := Lib.hid hG
 clear hP hG
 go_enter Tryz.func196, Tryz.ntmps196
 go_wp2_with fail
 refine (op_any (HP.out.alloc _) HGD.out 3 (by decide)).mono ?_
 rintro en W1 ⟨rfl, h, g⟩
 rcases op_cases (pOp 3 ts) with ho | ⟨op, ho⟩
 ·rw [ho] at h ⊢
  rw [if_neg (by simp)] at h
  have O1 := Lib.hid ho
  clear ho
  have H1 := Lib.hid h
  have G1 : Hid (w.grownBy W1 (some pb)) := gr_trans (gr_alloc (gr_refl _ _) _) g
  have hs1 : w.heap.size ≤ W1.heap.size := G1.out.size
  have hm1 : w.heap.size + 1 ≤ W1.heap.size := by have := g.size; simpa using this
  have B1_0 : Hid (W1.heap[w.heap.size]? = some (.cells #[.int .i64 0, .int .i64 0, .string ⟨#[]⟩, .slice none 0 0, .slice none 0 0, .slice none 0 0] 35 (0, 0))) := blk_new g (by omega)
  clear h g
  go_wp2_with fail
  refine (hC _ _ H1.out HGD.out).mono ?_
  rintro en W2 hR
  cases hx : pChain E B ts with
  | bad a e =>
   rw [hx] at hR
   obtain ⟨rfl, hb⟩ := hR
   exact ⟨rfl, ret_bad (by simp only [pUnary, O1.out, hx, PR.bind, ↓reduceIte, Bool.false_eq_true]) ((grown_to_below (G1.out) (Nat.le_of_lt hpl)).trans hb)⟩
  | ok x2 ts2 =>
   rw [hx] at hR
   have K2 : Hid (GoodT ts2) := (hCE _ HGD.out _ _ hx).1
   obtain ⟨⟨va, vb, vc, rfl, hL⟩, h, g⟩ := hR
   obtain ⟨op2, num2, text2, ps2, pm2, bd2⟩ := x2
   obtain ⟨pa2, pc2, na2, nc2, ba2, bc2, rfl, rfl, rfl⟩ := hL.at'.slices
   have X2 := Lib.hid hx
   clear hx
   have hL2 := Lib.hid hL
   clear hL
   have H2 := Lib.hid h
   have G2 : Hid (w.grownBy W2 (some pb)) := gr_trans (G1.out) g
   have hs2 : w.heap.size ≤ W2.heap.size := G2.out.size
   have hm2 : W1.heap.size + 0 ≤ W2.heap.size := by have := g.size; simpa using this
   have B2_0 : Hid (W2.heap[w.heap.size]? = some (.cells #[.int .i64 0, .int .i64 0, .string ⟨#[]⟩, .slice none 0 0, .slice none 0 0, .slice none 0 0] 35 (0, 0))) := blk_next B1_0.out (Below.refl _ _) g (by omega)
   clear h g B1_0
   have L2_0 : Hid (Lie (XE (.mk op2 num2 text2 ps2 pm2 bd2) (.slice pa2 ps2.length pc2) (.slice na2 pm2.length nc2) (.slice ba2 bd2.length bc2)) (W1.heap.size) W2.heap.size W2) := hL2
   clear hL2
   unfold exV
   have rh := B2_0.out
   have r0 : W2.cell? ⟨w.heap.size, 0, none⟩ = some (.int .i64 0) := by simp [World.cell?, rh]
   have r1 : W2.cell? ⟨w.heap.size, 1, none⟩ = some (.int .i64 0) := by simp [World.cell?, rh]
   have r2 : W2.cell? ⟨w.heap.size, 2, none⟩ = some (.string ⟨#[]⟩) := by simp [World.cell?, rh]
   have r3 : W2.cell? ⟨w.heap.size, 3, none⟩ = some (.slice none 0 0) := by simp [World.cell?, rh]
   have r4 : W2.cell? ⟨w.heap.size, 4, none⟩ = some (.slice none 0 0) := by simp [World.cell?, rh]
   have r5 : W2.cell? ⟨w.heap.size, 5, none⟩ = some (.slice none 0 0) := by simp [World.cell?, rh]
   have rf : ∀ i, W2.frozen? ⟨w.heap.size, i, none⟩ = false := fun i => by simp [World.frozen?, rh]
   have rl : w.heap.size < W2.heap.size := lt_of_block rh
   clear rh
   go_wp2_with fail
   obtain ⟨y0, y1, y2, y3, y4, y5⟩ := six7_cell (a := .int .i64 (op2 : Int)) (b := .int .i64 num2) (c := .string text2) (d := .slice pa2 ps2.length pc2) (e := .slice na2 pm2.length nc2) (f := .slice ba2 bd2.length bc2) B2_0.out
   have hsz9 : (six7 W2 w.heap.size (.int .i64 (op2 : Int)) (.int .i64 num2) (.string text2) (.slice pa2 ps2.length pc2) (.slice na2 pm2.length nc2) (.slice ba2 bd2.length bc2)).heap.size = W2.heap.size := six7_size
   have f1 : PAt (six7 W2 w.heap.size (.int .i64 (op2 : Int)) (.int .i64 num2) (.string text2) (.slice pa2 ps2.length pc2) (.slice na2 pm2.length nc2) (.slice ba2 bd2.length bc2)) pb ts2 20 := six_pat H2.out (by omega)
   have f2 : w.grownBy (six7 W2 w.heap.size (.int .i64 (op2 : Int)) (.int .i64 num2) (.string text2) (.slice pa2 ps2.length pc2) (.slice na2 pm2.length nc2) (.slice ba2 bd2.length bc2)) (some pb) := six_gr (G2.out) (by omega)
   have f3_0 : Lie (XE (.mk op2 num2 text2 ps2 pm2 bd2) (.slice pa2 ps2.length pc2) (.slice na2 pm2.length nc2) (.slice ba2 bd2.length bc2)) (W1.heap.size) W2.heap.size (six7 W2 w.heap.size (.int .i64 (op2 : Int)) (.int .i64 num2) (.string text2) (.slice pa2 ps2.length pc2) (.slice na2 pm2.length nc2) (.slice ba2 bd2.length bc2)) := six_lie L2_0.out (by omega)
   obtain ⟨W9, hW9⟩ : ∃ W9, six7 W2 w.heap.size (.int .i64 (op2 : Int)) (.int .i64 num2) (.string text2) (.slice pa2 ps2.length pc2) (.slice na2 pm2.length nc2) (.slice ba2 bd2.length bc2) = W9 := ⟨_, rfl⟩
   rw [hW9] at y0 y1 y2 y3 y4 y5 hsz9 f1 f2 f3_0
   unfold six7 at hW9
   rw [hW9]
   clear hW9
   have f4 := f3_0.wider (s' := w.heap.size) (e' := W9.heap.size) (by omega) f3_0.lt (Nat.le_refl _)
   have HF := Lib.hid f4
   clear f4 f3_0
   refine bodyPost_ret (v := exV (.mk op2 num2 text2 ps2 pm2 bd2) (.slice pa2 ps2.length pc2) (.slice na2 pm2.length nc2) (.slice ba2 bd2.length bc2)) (by simp [results, Tryz.results196, go_sem, exV, y0, y1, y2, y3, y4, y5, hsz9]) rfl (ret_ok (x := (.mk op2 num2 text2 ps2 pm2 bd2)) (by simp only [pUnary, O1.out, X2.out, PR.bind, ↓reduceIte, Bool.false_eq_true]) ⟨_, _, _, rfl, HF.out⟩ f1 f2)
 ·rw [ho] at h ⊢
  rw [if_pos (by simp)] at h
  have hop := pOp_le ho
  have O1 := Lib.hid ho
  have K1 : Hid (GoodT ts.tail) := (keep_tail HGD.out (pOp_kind ho) (by decide)).1
  clear ho
  have H1 := Lib.hid h
  have G1 : Hid (w.grownBy W1 (some pb)) := gr_trans (gr_alloc (gr_refl _ _) _) g
  have hs1 : w.heap.size ≤ W1.heap.size := G1.out.size
  have hm1 : w.heap.size + 1 ≤ W1.heap.size := by have := g.size; simpa using this
  have B1_0 : Hid (W1.heap[w.heap.size]? = some (.cells #[.int .i64 0, .int .i64 0, .string ⟨#[]⟩, .slice none 0 0, .slice none 0 0, .slice none 0 0] 35 (0, 0))) := blk_new g (by omega)
  clear h g
  go_wp2_with fail
  refine (enter_deep H1.out K1.out).mono ?_
  rintro en W2 ⟨rfl, rfl⟩
  exact ⟨rfl, ret_bad (by simp only [pUnary, O1.out, pFail, PR.bind, ↓reduceIte, Bool.false_eq_true]) (grown_to_below (G1.out) (Nat.le_of_lt hpl))⟩
theorem let_ok {pb d : Nat} {E : List Tok → PR TE} (hO : OkE pb d E) (hE : Eats E) : ∀ (w : World) (ts : List Tok), PAt w pb ts d → GoodT ts → Calls Tryz.prog 138 #[.pointer (some ⟨pb, 0, none⟩)] w fun en w' => Ret (pLet E ts) w pb d (VS w) en w' := by
 intro w ts hP hG
 have hpl := hP.lt
 have HP := Lib.hid hP
 have HGD := Lib.hid hG
 clear hP hG
 go_enter Tryz.func138, Tryz.ntmps138
 go_wp2_with fail
 refine (name_p (HP.out.alloc _) HGD.out).mono ?_
 rintro en W1 hR
 cases hx : pName ts with
 | bad a e =>
  rw [hx] at hR
  obtain ⟨rfl, hb⟩ := hR
  exact ⟨rfl, ret_bad (by simp only [pLet, hx, PR.bind, ↓reduceIte, Bool.false_eq_true]) ((grown_to_below (gr_alloc (gr_refl _ _) _) (Nat.le_of_lt hpl)).trans hb)⟩
 | ok x1 ts1 =>
  rw [hx] at hR
  have K1 : Hid (GoodT ts1) := (eats_name _ HGD.out _ _ hx).1
  obtain ⟨hv, h, g⟩ := hR
  have hv2 : en = .returned (.string x1) := hv
  subst hv2
  clear hv
  have X1 := Lib.hid hx
  clear hx
  have H1 := Lib.hid h
  have G1 : Hid (w.grownBy W1 (some pb)) := gr_trans (gr_alloc (gr_refl _ _) _) g
  have hs1 : w.heap.size ≤ W1.heap.size := G1.out.size
  have hm1 : w.heap.size + 1 ≤ W1.heap.size := by have := g.size; simpa using this
  have B1_0 : Hid (W1.heap[w.heap.size]? = some (.cells #[.int .i64 0, .string ⟨#[]⟩, .slice none 0 0, .slice none 0 0, .slice none 0 0, .int .i64 0] 30 (0, 0))) := blk_new g (by omega)
  clear h g
  go_wp2_with fail
  refine (psign_any H1.out K1.out sEQ).mono ?_
  rintro en W2 hR
  cases hx : pSign sEQ ts1 with
  | bad a e =>
   rw [hx] at hR
   obtain ⟨rfl, hb⟩ := hR
   exact ⟨rfl, ret_bad (by simp only [pLet, X1.out, hx, PR.bind, ↓reduceIte, Bool.false_eq_true]) ((grown_to_below (G1.out) (Nat.le_of_lt hpl)).trans hb)⟩
  | ok x2 ts2 =>
   rw [hx] at hR
   have K2 : Hid (GoodT ts2) := ((eats_sign sEQ) _ K1.out _ _ hx).1
   obtain ⟨hv, h, g⟩ := hR
   have hv2 : en = .returned (.tuple #[]) := hv
   subst hv2
   clear hv
   have X2 := Lib.hid hx
   clear hx
   have H2 := Lib.hid h
   have G2 : Hid (w.grownBy W2 (some pb)) := gr_trans (G1.out) g
   have hs2 : w.heap.size ≤ W2.heap.size := G2.out.size
   have hm2 : W1.heap.size + 0 ≤ W2.heap.size := by have := g.size; simpa using this
   have B2_0 : Hid (W2.heap[w.heap.size]? = some (.cells #[.int .i64 0, .string ⟨#[]⟩, .slice none 0 0, .slice none 0 0, .slice none 0 0, .int .i64 0] 30 (0, 0))) := blk_next B1_0.out (Below.refl _ _) g (by omega)
   clear h g B1_0
   go_wp2_with fail
   refine (value_ok hO hE _ _ H2.out K2.out).mono ?_
   rintro en W3 hR
   cases hx : pValue E ts2 with
   | bad a e =>
    rw [hx] at hR
    obtain ⟨rfl, hb⟩ := hR
    exact ⟨rfl, ret_bad (by simp only [pLet, X1.out, X2.out, hx, PR.bind, ↓reduceIte, Bool.false_eq_true]) ((grown_to_below (G2.out) (Nat.le_of_lt hpl)).trans hb)⟩
   | ok x3 ts3 =>
    rw [hx] at hR
    have K3 : Hid (GoodT ts3) := ((eats_value hE) _ K2.out _ _ hx).1
    obtain ⟨⟨va, rfl, hL⟩, h, g⟩ := hR
    obtain ⟨pa3, pc3, rfl, _⟩ := hL.at'
    have X3 := Lib.hid hx
    clear hx
    have hL2 := Lib.hid hL
    clear hL
    have H3 := Lib.hid h
    have G3 : Hid (w.grownBy W3 (some pb)) := gr_trans (G2.out) g
    have hs3 : w.heap.size ≤ W3.heap.size := G3.out.size
    have hm3 : W2.heap.size + 0 ≤ W3.heap.size := by have := g.size; simpa using this
    have B3_0 : Hid (W3.heap[w.heap.size]? = some (.cells #[.int .i64 0, .string ⟨#[]⟩, .slice none 0 0, .slice none 0 0, .slice none 0 0, .int .i64 0] 30 (0, 0))) := blk_next B2_0.out (Below.refl _ _) g (by omega)
    clear h g B2_0
    have L3_0 : Hid (Lie (RE (.slice pa3 x3.length pc3) x3) (W2.heap.size) W3.heap.size W3) := hL2
    clear hL2
    have rh := B3_0.out
    have r0 : W3.cell? ⟨w.heap.size, 0, none⟩ = some (.int .i64 0) := by simp [World.cell?, rh]
    have r1 : W3.cell? ⟨w.heap.size, 1, none⟩ = some (.string ⟨#[]⟩) := by simp [World.cell?, rh]
    have r2 : W3.cell? ⟨w.heap.size, 2, none⟩ = some (.slice none 0 0) := by simp [World.cell?, rh]
    have r3 : W3.cell? ⟨w.heap.size, 3, none⟩ = some (.slice none 0 0) := by simp [World.cell?, rh]
    have r4 : W3.cell? ⟨w.heap.size, 4, none⟩ = some (.slice none 0 0) := by simp [World.cell?, rh]
    have r5 : W3.cell? ⟨w.heap.size, 5, none⟩ = some (.int .i64 0) := by simp [World.cell?, rh]
    have rf : ∀ i, W3.frozen? ⟨w.heap.size, i, none⟩ = false := fun i => by simp [World.frozen?, rh]
    have rl : w.heap.size < W3.heap.size := lt_of_block rh
    clear rh
    go_wp2_with fail
    obtain ⟨y0, y1, y2, y3, y4, y5⟩ := six7_cell (a := .int .i64 0) (b := .string x1) (c := .slice pa3 x3.length pc3) (d := .slice none 0 0) (e := .slice none 0 0) (f := .int .i64 0) B3_0.out
    have hsz9 : (six7 W3 w.heap.size (.int .i64 0) (.string x1) (.slice pa3 x3.length pc3) (.slice none 0 0) (.slice none 0 0) (.int .i64 0)).heap.size = W3.heap.size := six7_size
    have f1 : PAt (six7 W3 w.heap.size (.int .i64 0) (.string x1) (.slice pa3 x3.length pc3) (.slice none 0 0) (.slice none 0 0) (.int .i64 0)) pb ts3 d := six_pat H3.out (by omega)
    have f2 : w.grownBy (six7 W3 w.heap.size (.int .i64 0) (.string x1) (.slice pa3 x3.length pc3) (.slice none 0 0) (.slice none 0 0) (.int .i64 0)) (some pb) := six_gr (G3.out) (by omega)
    have f3_0 : Lie (RE (.slice pa3 x3.length pc3) x3) (W2.heap.size) W3.heap.size (six7 W3 w.heap.size (.int .i64 0) (.string x1) (.slice pa3 x3.length pc3) (.slice none 0 0) (.slice none 0 0) (.int .i64 0)) := six_lie L3_0.out (by omega)
    obtain ⟨W9, hW9⟩ : ∃ W9, six7 W3 w.heap.size (.int .i64 0) (.string x1) (.slice pa3 x3.length pc3) (.slice none 0 0) (.slice none 0 0) (.int .i64 0) = W9 := ⟨_, rfl⟩
    rw [hW9] at y0 y1 y2 y3 y4 y5 hsz9 f1 f2 f3_0
    unfold six7 at hW9
    rw [hW9]
    clear hW9
    have f4 : Lie (XS (.mk 0 x1 x3 [] [] 0) (.slice pa3 x3.length pc3) (.slice none 0 0) (.slice none 0 0)) w.heap.size W9.heap.size W9 := st_lie (by decide) (f3_0.wider (by omega) f3_0.lt (Nat.le_refl _)) (nil_RS (by omega) (Nat.le_refl _)) (nil_RS (by omega) (Nat.le_refl _))
    have HF := Lib.hid f4
    clear f4 f3_0
    refine bodyPost_ret (v := stV (.mk 0 x1 x3 [] [] 0) (.slice pa3 x3.length pc3) (.slice none 0 0) (.slice none 0 0)) (by simp [results, Tryz.results138, go_sem, stV, y0, y1, y2, y3, y4, y5, hsz9]) rfl (ret_ok (x := (.mk 0 x1 x3 [] [] 0)) (by simp only [pLet, X1.out, X2.out, X3.out, PR.bind, ↓reduceIte, Bool.false_eq_true]) ⟨_, _, _, rfl, HF.out⟩ f1 f2)
theorem question_ok {pb d : Nat} {E : List Tok → PR TE} {B : List Tok → PR (List TS)} (hO : OkE pb d E) (hE : Eats E) (hOB : OkB pb d B) (hB : Eats B) : ∀ (w : World) (ts : List Tok), PAt w pb ts d → GoodT ts → Calls Tryz.prog 140 #[.pointer (some ⟨pb, 0, none⟩)] w fun en w' => Ret (pQuestion E B ts) w pb d (VS w) en w' := by
 intro w ts hP hG
 have hpl := hP.lt
 have HP := Lib.hid hP
 have HGD := Lib.hid hG
 clear hP hG
 go_enter Tryz.func140, Tryz.ntmps140
 go_wp2_with fail
 refine (hO _ _ (HP.out.alloc _) HGD.out).mono ?_
 rintro en W1 hR
 cases hx : E ts with
 | bad a e =>
  rw [hx] at hR
  obtain ⟨rfl, hb⟩ := hR
  exact ⟨rfl, ret_bad (by simp only [pQuestion, hx, PR.bind, ↓reduceIte, Bool.false_eq_true]) ((grown_to_below (gr_alloc (gr_refl _ _) _) (Nat.le_of_lt hpl)).trans hb)⟩
 | ok x1 ts1 =>
  rw [hx] at hR
  have K1 : Hid (GoodT ts1) := (hE _ HGD.out _ _ hx).1
  obtain ⟨⟨va, vb, vc, rfl, hL⟩, h, g⟩ := hR
  obtain ⟨op1, num1, text1, ps1, pm1, bd1⟩ := x1
  obtain ⟨pa1, pc1, na1, nc1, ba1, bc1, rfl, rfl, rfl⟩ := hL.at'.slices
  have X1 := Lib.hid hx
  clear hx
  have hL2 : Hid (Lie (XE (.mk op1 num1 text1 ps1 pm1 bd1) (.slice pa1 ps1.length pc1) (.slice na1 pm1.length nc1) (.slice ba1 bd1.length bc1)) (w.heap.size + 1) W1.heap.size W1) := by have h9 := hL; simp only [World.size_alloc] at h9; exact h9
  clear hL
  have H1 := Lib.hid h
  have G1 : Hid (w.grownBy W1 (some pb)) := gr_trans (gr_alloc (gr_refl _ _) _) g
  have hs1 : w.heap.size ≤ W1.heap.size := G1.out.size
  have hm1 : w.heap.size + 1 ≤ W1.heap.size := by have := g.size; simpa using this
  have B1_0 : Hid (W1.heap[w.heap.size]? = some (.cells #[.int .i64 0, .string ⟨#[]⟩, .slice none 0 0, .slice none 0 0, .slice none 0 0, .int .i64 0] 30 (0, 0))) := blk_new g (by omega)
  clear h g
  have L1_0 : Hid (Lie (XE (.mk op1 num1 text1 ps1 pm1 bd1) (.slice pa1 ps1.length pc1) (.slice na1 pm1.length nc1) (.slice ba1 bd1.length bc1)) (w.heap.size + 1) W1.heap.size W1) := hL2
  clear hL2
  unfold exV
  go_wp2_with fail
  refine (hOB _ _ (H1.out.alloc _) K1.out).mono ?_
  rintro en W2 hR
  cases hx : B ts1 with
  | bad a e =>
   rw [hx] at hR
   obtain ⟨rfl, hb⟩ := hR
   exact ⟨rfl, ret_bad (by simp only [pQuestion, X1.out, hx, PR.bind, ↓reduceIte, Bool.false_eq_true]) ((grown_to_below (gr_alloc (G1.out) _) (Nat.le_of_lt hpl)).trans hb)⟩
  | ok x2 ts2 =>
   rw [hx] at hR
   have K2 : Hid (GoodT ts2) := (hB _ K1.out _ _ hx).1
   obtain ⟨⟨va, rfl, hL⟩, h, g⟩ := hR
   obtain ⟨pa2, pc2, rfl, _⟩ := hL.at'
   have X2 := Lib.hid hx
   clear hx
   have hL2 : Hid (Lie (RS (.slice pa2 x2.length pc2) x2) (W1.heap.size + 1) W2.heap.size W2) := by have h9 := hL; simp only [World.size_alloc] at h9; exact h9
   clear hL
   have H2 := Lib.hid h
   have G2 : Hid (w.grownBy W2 (some pb)) := gr_trans (gr_alloc (G1.out) _) g
   have hs2 : w.heap.size ≤ W2.heap.size := G2.out.size
   have hm2 : W1.heap.size + 1 ≤ W2.heap.size := by have := g.size; simpa using this
   have B2_0 : Hid (W2.heap[w.heap.size]? = some (.cells #[.int .i64 0, .string ⟨#[]⟩, .slice none 0 0, .slice none 0 0, .slice none 0 0, .int .i64 0] 30 (0, 0))) := blk_next B1_0.out ((Below.refl _ _).alloc (Nat.le_refl _) _) g (by omega)
   have B2_1 : Hid (W2.heap[W1.heap.size]? = some (.cells #[.int .i64 (op1 : Int), .int .i64 num1, .string text1, .slice pa1 ps1.length pc1, .slice na1 pm1.length nc1, .slice ba1 bd1.length bc1] 35 (0, 0))) := blk_new g (by omega)
   have L2_0 : Hid (Lie (XE (.mk op1 num1 text1 ps1 pm1 bd1) (.slice pa1 ps1.length pc1) (.slice na1 pm1.length nc1) (.slice ba1 bd1.length bc1)) (w.heap.size + 1) W1.heap.size W2) := ((L1_0.out.alloc _)).gr g (by omega)
   clear h g B1_0 L1_0
   have L2_1 : Hid (Lie (RS (.slice pa2 x2.length pc2) x2) (W1.heap.size + 1) W2.heap.size W2) := hL2
   clear hL2
   go_wp2_with fail
   refine (met_any (H2.out.alloc _) K2.out 1 (by decide) wElse).mono ?_
   rintro en W3 ⟨rfl, h, g⟩
   rcases tf (isT 1 wElse ts2) with hi | hi
   ·rw [hi] at h ⊢
    rw [if_pos rfl] at h
    have D3 := Lib.hid hi
    have K3 : Hid (GoodT ts2.tail) := (keep_tail K2.out (isT_kind hi) (by decide)).1
    clear hi
    have H3 := Lib.hid h
    have G3 : Hid (w.grownBy W3 (some pb)) := gr_trans (gr_alloc (G2.out) _) g
    have hs3 : w.heap.size ≤ W3.heap.size := G3.out.size
    have hm3 : W2.heap.size + 1 ≤ W3.heap.size := by have := g.size; simpa using this
    have B3_0 : Hid (W3.heap[w.heap.size]? = some (.cells #[.int .i64 0, .string ⟨#[]⟩, .slice none 0 0, .slice none 0 0, .slice none 0 0, .int .i64 0] 30 (0, 0))) := blk_next B2_0.out ((Below.refl _ _).alloc (Nat.le_refl _) _) g (by omega)
    have B3_1 : Hid (W3.heap[W1.heap.size]? = some (.cells #[.int .i64 (op1 : Int), .int .i64 num1, .string text1, .slice pa1 ps1.length pc1, .slice na1 pm1.length nc1, .slice ba1 bd1.length bc1] 35 (0, 0))) := blk_next B2_1.out ((Below.refl _ _).alloc (Nat.le_refl _) _) g (by omega)
    have B3_2 : Hid (W3.heap[W2.heap.size]? = some (.cells #[.int .i64 3, .string ⟨#[]⟩, .slice (some ⟨W1.heap.size, 0, none⟩) 1 1, .slice pa2 x2.length pc2, .slice none 0 0, .int .i64 0] 30 (0, 0))) := blk_new g (by omega)
    have L3_0 : Hid (Lie (XE (.mk op1 num1 text1 ps1 pm1 bd1) (.slice pa1 ps1.length pc1) (.slice na1 pm1.length nc1) (.slice ba1 bd1.length bc1)) (w.heap.size + 1) W1.heap.size W3) := ((L2_0.out.alloc _)).gr g (by omega)
    have L3_1 : Hid (Lie (RS (.slice pa2 x2.length pc2) x2) (W1.heap.size + 1) W2.heap.size W3) := ((L2_1.out.alloc _)).gr g (by omega)
    clear h g B2_0 B2_1 L2_0 L2_1
    go_wp2_with fail
    refine (hOB _ _ H3.out K3.out).mono ?_
    rintro en W4 hR
    cases hx : B ts2.tail with
    | bad a e =>
     rw [hx] at hR
     obtain ⟨rfl, hb⟩ := hR
     exact ⟨rfl, ret_bad (by simp only [pQuestion, X1.out, X2.out, D3.out, hx, PR.bind, ↓reduceIte, Bool.false_eq_true]) ((grown_to_below (G3.out) (Nat.le_of_lt hpl)).trans hb)⟩
    | ok x4 ts4 =>
     rw [hx] at hR
     have K4 : Hid (GoodT ts4) := (hB _ K3.out _ _ hx).1
     obtain ⟨⟨va, rfl, hL⟩, h, g⟩ := hR
     obtain ⟨pa4, pc4, rfl, _⟩ := hL.at'
     have X4 := Lib.hid hx
     clear hx
     have hL2 := Lib.hid hL
     clear hL
     have H4 := Lib.hid h
     have G4 : Hid (w.grownBy W4 (some pb)) := gr_trans (G3.out) g
     have hs4 : w.heap.size ≤ W4.heap.size := G4.out.size
     have hm4 : W3.heap.size + 0 ≤ W4.heap.size := by have := g.size; simpa using this
     have B4_0 : Hid (W4.heap[w.heap.size]? = some (.cells #[.int .i64 0, .string ⟨#[]⟩, .slice none 0 0, .slice none 0 0, .slice none 0 0, .int .i64 0] 30 (0, 0))) := blk_next B3_0.out (Below.refl _ _) g (by omega)
     have B4_1 : Hid (W4.heap[W1.heap.size]? = some (.cells #[.int .i64 (op1 : Int), .int .i64 num1, .string text1, .slice pa1 ps1.length pc1, .slice na1 pm1.length nc1, .slice ba1 bd1.length bc1] 35 (0, 0))) := blk_next B3_1.out (Below.refl _ _) g (by omega)
     have B4_2 : Hid (W4.heap[W2.heap.size]? = some (.cells #[.int .i64 3, .string ⟨#[]⟩, .slice (some ⟨W1.heap.size, 0, none⟩) 1 1, .slice pa2 x2.length pc2, .slice none 0 0, .int .i64 0] 30 (0, 0))) := blk_next B3_2.out (Below.refl _ _) g (by omega)
     have L4_0 : Hid (Lie (XE (.mk op1 num1 text1 ps1 pm1 bd1) (.slice pa1 ps1.length pc1) (.slice na1 pm1.length nc1) (.slice ba1 bd1.length bc1)) (w.heap.size + 1) W1.heap.size W4) := (L3_0.out).gr g (by omega)
     have L4_1 : Hid (Lie (RS (.slice pa2 x2.length pc2) x2) (W1.heap.size + 1) W2.heap.size W4) := (L3_1.out).gr g (by omega)
     clear h g B3_0 B3_1 B3_2 L3_0 L3_1
     have L4_2 : Hid (Lie (RS (.slice pa4 x4.length pc4) x4) (W3.heap.size) W4.heap.size W4) := hL2
     clear hL2
     have rh := B4_0.out
     have r0 : W4.cell? ⟨w.heap.size, 0, none⟩ = some (.int .i64 0) := by simp [World.cell?, rh]
     have r1 : W4.cell? ⟨w.heap.size, 1, none⟩ = some (.string ⟨#[]⟩) := by simp [World.cell?, rh]
     have r2 : W4.cell? ⟨w.heap.size, 2, none⟩ = some (.slice none 0 0) := by simp [World.cell?, rh]
     have r3 : W4.cell? ⟨w.heap.size, 3, none⟩ = some (.slice none 0 0) := by simp [World.cell?, rh]
     have r4 : W4.cell? ⟨w.heap.size, 4, none⟩ = some (.slice none 0 0) := by simp [World.cell?, rh]
     have r5 : W4.cell? ⟨w.heap.size, 5, none⟩ = some (.int .i64 0) := by simp [World.cell?, rh]
     have rf : ∀ i, W4.frozen? ⟨w.heap.size, i, none⟩ = false := fun i => by simp [World.frozen?, rh]
     have rl : w.heap.size < W4.heap.size := lt_of_block rh
     clear rh
     have qh := B4_2.out
     have q0 : W4.cell? ⟨W2.heap.size, 0, none⟩ = some (.int .i64 3) := by simp [World.cell?, qh]
     have q1 : W4.cell? ⟨W2.heap.size, 1, none⟩ = some (.string ⟨#[]⟩) := by simp [World.cell?, qh]
     have q2 : W4.cell? ⟨W2.heap.size, 2, none⟩ = some (.slice (some ⟨W1.heap.size, 0, none⟩) 1 1) := by simp [World.cell?, qh]
     have q3 : W4.cell? ⟨W2.heap.size, 3, none⟩ = some (.slice pa2 x2.length pc2) := by simp [World.cell?, qh]
     have q4 : W4.cell? ⟨W2.heap.size, 4, none⟩ = some (.slice none 0 0) := by simp [World.cell?, qh]
     have q5 : W4.cell? ⟨W2.heap.size, 5, none⟩ = some (.int .i64 0) := by simp [World.cell?, qh]
     have qf : ∀ i, W4.frozen? ⟨W2.heap.size, i, none⟩ = false := fun i => by simp [World.frozen?, qh]
     have ql : W2.heap.size < W4.heap.size := lt_of_block qh
     clear qh
     go_wp2_with fail
     have H5 : Hid (PAt (W4.setCell ⟨W2.heap.size, 4, none⟩ (.slice pa4 x4.length pc4)) pb ts4 d) := H4.out.other (by omega)
     have G5 : Hid (w.grownBy (W4.setCell ⟨W2.heap.size, 4, none⟩ (.slice pa4 x4.length pc4)) (some pb)) := gr_new G4.out (by omega) _ _
     have hz5 : (W4.setCell ⟨W2.heap.size, 4, none⟩ (.slice pa4 x4.length pc4)).heap.size = W4.heap.size := by simp [World.setCell]
     have B5_0 : Hid ((W4.setCell ⟨W2.heap.size, 4, none⟩ (.slice pa4 x4.length pc4)).heap[w.heap.size]? = some (.cells #[.int .i64 0, .string ⟨#[]⟩, .slice none 0 0, .slice none 0 0, .slice none 0 0, .int .i64 0] 30 (0, 0))) := (Below.heap_setCell _ _ _ _ (by show w.heap.size ≠ W2.heap.size; omega)).trans B4_0.out
     have B5_1 : Hid ((W4.setCell ⟨W2.heap.size, 4, none⟩ (.slice pa4 x4.length pc4)).heap[W1.heap.size]? = some (.cells #[.int .i64 (op1 : Int), .int .i64 num1, .string text1, .slice pa1 ps1.length pc1, .slice na1 pm1.length nc1, .slice ba1 bd1.length bc1] 35 (0, 0))) := (Below.heap_setCell _ _ _ _ (by show W1.heap.size ≠ W2.heap.size; omega)).trans B4_1.out
     have B5_2 : Hid ((W4.setCell ⟨W2.heap.size, 4, none⟩ (.slice pa4 x4.length pc4)).heap[W2.heap.size]? = some (.cells #[.int .i64 3, .string ⟨#[]⟩, .slice (some ⟨W1.heap.size, 0, none⟩) 1 1, .slice pa2 x2.length pc2, .slice pa4 x4.length pc4, .int .i64 0] 30 (0, 0))) := blk_set B4_2.out
     have L5_0 : Hid (Lie (XE (.mk op1 num1 text1 ps1 pm1 bd1) (.slice pa1 ps1.length pc1) (.slice na1 pm1.length nc1) (.slice ba1 bd1.length bc1)) (w.heap.size + 1) W1.heap.size (W4.setCell ⟨W2.heap.size, 4, none⟩ (.slice pa4 x4.length pc4))) := L4_0.out.keep (by simp [World.setCell]) fun k h1 h2 => Below.heap_setCell _ _ _ _ (by show k ≠ W2.heap.size; omega)
     have L5_1 : Hid (Lie (RS (.slice pa2 x2.length pc2) x2) (W1.heap.size + 1) W2.heap.size (W4.setCell ⟨W2.heap.size, 4, none⟩ (.slice pa4 x4.length pc4))) := L4_1.out.keep (by simp [World.setCell]) fun k h1 h2 => Below.heap_setCell _ _ _ _ (by show k ≠ W2.heap.size; omega)
     have L5_2 : Hid (Lie (RS (.slice pa4 x4.length pc4) x4) (W3.heap.size) W4.heap.size (W4.setCell ⟨W2.heap.size, 4, none⟩ (.slice pa4 x4.length pc4))) := L4_2.out.keep (by simp [World.setCell]) fun k h1 h2 => Below.heap_setCell _ _ _ _ (by show k ≠ W2.heap.size; omega)
     clear B4_0 B4_1 B4_2 L4_0 L4_1 L4_2
     obtain ⟨y0, y1, y2, y3, y4, y5⟩ := six7_cell (a := .int .i64 3) (b := .string ⟨#[]⟩) (c := .slice (some ⟨W1.heap.size, 0, none⟩) 1 1) (d := .slice pa2 x2.length pc2) (e := .slice pa4 x4.length pc4) (f := .int .i64 0) B5_0.out
     have hsz9 : (six7 (W4.setCell ⟨W2.heap.size, 4, none⟩ (.slice pa4 x4.length pc4)) w.heap.size (.int .i64 3) (.string ⟨#[]⟩) (.slice (some ⟨W1.heap.size, 0, none⟩) 1 1) (.slice pa2 x2.length pc2) (.slice pa4 x4.length pc4) (.int .i64 0)).heap.size = (W4.setCell ⟨W2.heap.size, 4, none⟩ (.slice pa4 x4.length pc4)).heap.size := six7_size
     have f1 : PAt (six7 (W4.setCell ⟨W2.heap.size, 4, none⟩ (.slice pa4 x4.length pc4)) w.heap.size (.int .i64 3) (.string ⟨#[]⟩) (.slice (some ⟨W1.heap.size, 0, none⟩) 1 1) (.slice pa2 x2.length pc2) (.slice pa4 x4.length pc4) (.int .i64 0)) pb ts4 d := six_pat H5.out (by omega)
     have f2 : w.grownBy (six7 (W4.setCell ⟨W2.heap.size, 4, none⟩ (.slice pa4 x4.length pc4)) w.heap.size (.int .i64 3) (.string ⟨#[]⟩) (.slice (some ⟨W1.heap.size, 0, none⟩) 1 1) (.slice pa2 x2.length pc2) (.slice pa4 x4.length pc4) (.int .i64 0)) (some pb) := six_gr (G5.out) (by omega)
     have f3_0 : Lie (XE (.mk op1 num1 text1 ps1 pm1 bd1) (.slice pa1 ps1.length pc1) (.slice na1 pm1.length nc1) (.slice ba1 bd1.length bc1)) (w.heap.size + 1) W1.heap.size (six7 (W4.setCell ⟨W2.heap.size, 4, none⟩ (.slice pa4 x4.length pc4)) w.heap.size (.int .i64 3) (.string ⟨#[]⟩) (.slice (some ⟨W1.heap.size, 0, none⟩) 1 1) (.slice pa2 x2.length pc2) (.slice pa4 x4.length pc4) (.int .i64 0)) := six_lie L5_0.out (by omega)
     have f3_1 : Lie (RS (.slice pa2 x2.length pc2) x2) (W1.heap.size + 1) W2.heap.size (six7 (W4.setCell ⟨W2.heap.size, 4, none⟩ (.slice pa4 x4.length pc4)) w.heap.size (.int .i64 3) (.string ⟨#[]⟩) (.slice (some ⟨W1.heap.size, 0, none⟩) 1 1) (.slice pa2 x2.length pc2) (.slice pa4 x4.length pc4) (.int .i64 0)) := six_lie L5_1.out (by omega)
     have f3_2 : Lie (RS (.slice pa4 x4.length pc4) x4) (W3.heap.size) W4.heap.size (six7 (W4.setCell ⟨W2.heap.size, 4, none⟩ (.slice pa4 x4.length pc4)) w.heap.size (.int .i64 3) (.string ⟨#[]⟩) (.slice (some ⟨W1.heap.size, 0, none⟩) 1 1) (.slice pa2 x2.length pc2) (.slice pa4 x4.length pc4) (.int .i64 0)) := six_lie L5_2.out (by omega)
     have f5_1 : (six7 (W4.setCell ⟨W2.heap.size, 4, none⟩ (.slice pa4 x4.length pc4)) w.heap.size (.int .i64 3) (.string ⟨#[]⟩) (.slice (some ⟨W1.heap.size, 0, none⟩) 1 1) (.slice pa2 x2.length pc2) (.slice pa4 x4.length pc4) (.int .i64 0)).heap[W1.heap.size]? = some (.cells #[.int .i64 (op1 : Int), .int .i64 num1, .string text1, .slice pa1 ps1.length pc1, .slice na1 pm1.length nc1, .slice ba1 bd1.length bc1] 35 (0, 0)) := (six7_other (by omega)).trans B5_1.out
     have f5_2 : (six7 (W4.setCell ⟨W2.heap.size, 4, none⟩ (.slice pa4 x4.length pc4)) w.heap.size (.int .i64 3) (.string ⟨#[]⟩) (.slice (some ⟨W1.heap.size, 0, none⟩) 1 1) (.slice pa2 x2.length pc2) (.slice pa4 x4.length pc4) (.int .i64 0)).heap[W2.heap.size]? = some (.cells #[.int .i64 3, .string ⟨#[]⟩, .slice (some ⟨W1.heap.size, 0, none⟩) 1 1, .slice pa2 x2.length pc2, .slice pa4 x4.length pc4, .int .i64 0] 30 (0, 0)) := (six7_other (by omega)).trans B5_2.out
     obtain ⟨W9, hW9⟩ : ∃ W9, six7 (W4.setCell ⟨W2.heap.size, 4, none⟩ (.slice pa4 x4.length pc4)) w.heap.size (.int .i64 3) (.string ⟨#[]⟩) (.slice (some ⟨W1.heap.size, 0, none⟩) 1 1) (.slice pa2 x2.length pc2) (.slice pa4 x4.length pc4) (.int .i64 0) = W9 := ⟨_, rfl⟩
     rw [hW9] at y0 y1 y2 y3 y4 y5 hsz9 f1 f2 f3_0 f3_1 f3_2 f5_1 f5_2
     unfold six7 at hW9
     rw [hW9]
     clear hW9
     have f4 : Lie (XS (.mk 3 ⟨#[]⟩ [(.mk op1 num1 text1 ps1 pm1 bd1)] x2 x4 0) (.slice (some ⟨W1.heap.size, 0, none⟩) 1 1) (.slice pa2 x2.length pc2) (.slice pa4 x4.length pc4)) w.heap.size W9.heap.size W9 := st_lie (by decide) (((row_blk (n := 1) (esc1 f3_0) f5_1 f3_0.le (by omega) rfl (by decide) (by decide))).wider (by omega) (by omega) (Nat.le_refl _)) (f3_1.wider (by omega) f3_1.lt (Nat.le_refl _)) (f3_2.wider (by omega) f3_2.lt (Nat.le_refl _))
     have HF := Lib.hid f4
     clear f4 f3_0 f3_1 f3_2 f5_1 f5_2
     refine bodyPost_ret (v := stV (.mk 3 ⟨#[]⟩ [(.mk op1 num1 text1 ps1 pm1 bd1)] x2 x4 0) (.slice (some ⟨W1.heap.size, 0, none⟩) 1 1) (.slice pa2 x2.length pc2) (.slice pa4 x4.length pc4)) (by simp [results, Tryz.results140, go_sem, stV, y0, y1, y2, y3, y4, y5, hsz9]) rfl (ret_ok (x := (.mk 3 ⟨#[]⟩ [(.mk op1 num1 text1 ps1 pm1 bd1)] x2 x4 0)) (by simp only [pQuestion, X1.out, X2.out, D3.out, X4.out, PR.bind, ↓reduceIte, Bool.false_eq_true]) ⟨_, _, _, rfl, HF.out⟩ f1 f2)
   ·rw [hi] at h ⊢
    rw [if_neg (by simp)] at h
    have D3 := Lib.hid hi
    clear hi
    have H3 := Lib.hid h
    have G3 : Hid (w.grownBy W3 (some pb)) := gr_trans (gr_alloc (G2.out) _) g
    have hs3 : w.heap.size ≤ W3.heap.size := G3.out.size
    have hm3 : W2.heap.size + 1 ≤ W3.heap.size := by have := g.size; simpa using this
    have B3_0 : Hid (W3.heap[w.heap.size]? = some (.cells #[.int .i64 0, .string ⟨#[]⟩, .slice none 0 0, .slice none 0 0, .slice none 0 0, .int .i64 0] 30 (0, 0))) := blk_next B2_0.out ((Below.refl _ _).alloc (Nat.le_refl _) _) g (by omega)
    have B3_1 : Hid (W3.heap[W1.heap.size]? = some (.cells #[.int .i64 (op1 : Int), .int .i64 num1, .string text1, .slice pa1 ps1.length pc1, .slice na1 pm1.length nc1, .slice ba1 bd1.length bc1] 35 (0, 0))) := blk_next B2_1.out ((Below.refl _ _).alloc (Nat.le_refl _) _) g (by omega)
    have B3_2 : Hid (W3.heap[W2.heap.size]? = some (.cells #[.int .i64 3, .string ⟨#[]⟩, .slice (some ⟨W1.heap.size, 0, none⟩) 1 1, .slice pa2 x2.length pc2, .slice none 0 0, .int .i64 0] 30 (0, 0))) := blk_new g (by omega)
    have L3_0 : Hid (Lie (XE (.mk op1 num1 text1 ps1 pm1 bd1) (.slice pa1 ps1.length pc1) (.slice na1 pm1.length nc1) (.slice ba1 bd1.length bc1)) (w.heap.size + 1) W1.heap.size W3) := ((L2_0.out.alloc _)).gr g (by omega)
    have L3_1 : Hid (Lie (RS (.slice pa2 x2.length pc2) x2) (W1.heap.size + 1) W2.heap.size W3) := ((L2_1.out.alloc _)).gr g (by omega)
    clear h g B2_0 B2_1 L2_0 L2_1
    have rh := B3_0.out
    have r0 : W3.cell? ⟨w.heap.size, 0, none⟩ = some (.int .i64 0) := by simp [World.cell?, rh]
    have r1 : W3.cell? ⟨w.heap.size, 1, none⟩ = some (.string ⟨#[]⟩) := by simp [World.cell?, rh]
    have r2 : W3.cell? ⟨w.heap.size, 2, none⟩ = some (.slice none 0 0) := by simp [World.cell?, rh]
    have r3 : W3.cell? ⟨w.heap.size, 3, none⟩ = some (.slice none 0 0) := by simp [World.cell?, rh]
    have r4 : W3.cell? ⟨w.heap.size, 4, none⟩ = some (.slice none 0 0) := by simp [World.cell?, rh]
    have r5 : W3.cell? ⟨w.heap.size, 5, none⟩ = some (.int .i64 0) := by simp [World.cell?, rh]
    have rf : ∀ i, W3.frozen? ⟨w.heap.size, i, none⟩ = false := fun i => by simp [World.frozen?, rh]
    have rl : w.heap.size < W3.heap.size := lt_of_block rh
    clear rh
    have qh := B3_2.out
    have q0 : W3.cell? ⟨W2.heap.size, 0, none⟩ = some (.int .i64 3) := by simp [World.cell?, qh]
    have q1 : W3.cell? ⟨W2.heap.size, 1, none⟩ = some (.string ⟨#[]⟩) := by simp [World.cell?, qh]
    have q2 : W3.cell? ⟨W2.heap.size, 2, none⟩ = some (.slice (some ⟨W1.heap.size, 0, none⟩) 1 1) := by simp [World.cell?, qh]
    have q3 : W3.cell? ⟨W2.heap.size, 3, none⟩ = some (.slice pa2 x2.length pc2) := by simp [World.cell?, qh]
    have q4 : W3.cell? ⟨W2.heap.size, 4, none⟩ = some (.slice none 0 0) := by simp [World.cell?, qh]
    have q5 : W3.cell? ⟨W2.heap.size, 5, none⟩ = some (.int .i64 0) := by simp [World.cell?, qh]
    have qf : ∀ i, W3.frozen? ⟨W2.heap.size, i, none⟩ = false := fun i => by simp [World.frozen?, qh]
    have ql : W2.heap.size < W3.heap.size := lt_of_block qh
    clear qh
    go_wp2_with fail
    obtain ⟨y0, y1, y2, y3, y4, y5⟩ := six7_cell (a := .int .i64 3) (b := .string ⟨#[]⟩) (c := .slice (some ⟨W1.heap.size, 0, none⟩) 1 1) (d := .slice pa2 x2.length pc2) (e := .slice none 0 0) (f := .int .i64 0) B3_0.out
    have hsz9 : (six7 W3 w.heap.size (.int .i64 3) (.string ⟨#[]⟩) (.slice (some ⟨W1.heap.size, 0, none⟩) 1 1) (.slice pa2 x2.length pc2) (.slice none 0 0) (.int .i64 0)).heap.size = W3.heap.size := six7_size
    have f1 : PAt (six7 W3 w.heap.size (.int .i64 3) (.string ⟨#[]⟩) (.slice (some ⟨W1.heap.size, 0, none⟩) 1 1) (.slice pa2 x2.length pc2) (.slice none 0 0) (.int .i64 0)) pb ts2 d := six_pat H3.out (by omega)
    have f2 : w.grownBy (six7 W3 w.heap.size (.int .i64 3) (.string ⟨#[]⟩) (.slice (some ⟨W1.heap.size, 0, none⟩) 1 1) (.slice pa2 x2.length pc2) (.slice none 0 0) (.int .i64 0)) (some pb) := six_gr (G3.out) (by omega)
    have f3_0 : Lie (XE (.mk op1 num1 text1 ps1 pm1 bd1) (.slice pa1 ps1.length pc1) (.slice na1 pm1.length nc1) (.slice ba1 bd1.length bc1)) (w.heap.size + 1) W1.heap.size (six7 W3 w.heap.size (.int .i64 3) (.string ⟨#[]⟩) (.slice (some ⟨W1.heap.size, 0, none⟩) 1 1) (.slice pa2 x2.length pc2) (.slice none 0 0) (.int .i64 0)) := six_lie L3_0.out (by omega)
    have f3_1 : Lie (RS (.slice pa2 x2.length pc2) x2) (W1.heap.size + 1) W2.heap.size (six7 W3 w.heap.size (.int .i64 3) (.string ⟨#[]⟩) (.slice (some ⟨W1.heap.size, 0, none⟩) 1 1) (.slice pa2 x2.length pc2) (.slice none 0 0) (.int .i64 0)) := six_lie L3_1.out (by omega)
    have f5_1 : (six7 W3 w.heap.size (.int .i64 3) (.string ⟨#[]⟩) (.slice (some ⟨W1.heap.size, 0, none⟩) 1 1) (.slice pa2 x2.length pc2) (.slice none 0 0) (.int .i64 0)).heap[W1.heap.size]? = some (.cells #[.int .i64 (op1 : Int), .int .i64 num1, .string text1, .slice pa1 ps1.length pc1, .slice na1 pm1.length nc1, .slice ba1 bd1.length bc1] 35 (0, 0)) := (six7_other (by omega)).trans B3_1.out
    have f5_2 : (six7 W3 w.heap.size (.int .i64 3) (.string ⟨#[]⟩) (.slice (some ⟨W1.heap.size, 0, none⟩) 1 1) (.slice pa2 x2.length pc2) (.slice none 0 0) (.int .i64 0)).heap[W2.heap.size]? = some (.cells #[.int .i64 3, .string ⟨#[]⟩, .slice (some ⟨W1.heap.size, 0, none⟩) 1 1, .slice pa2 x2.length pc2, .slice none 0 0, .int .i64 0] 30 (0, 0)) := (six7_other (by omega)).trans B3_2.out
    obtain ⟨W9, hW9⟩ : ∃ W9, six7 W3 w.heap.size (.int .i64 3) (.string ⟨#[]⟩) (.slice (some ⟨W1.heap.size, 0, none⟩) 1 1) (.slice pa2 x2.length pc2) (.slice none 0 0) (.int .i64 0) = W9 := ⟨_, rfl⟩
    rw [hW9] at y0 y1 y2 y3 y4 y5 hsz9 f1 f2 f3_0 f3_1 f5_1 f5_2
    unfold six7 at hW9
    rw [hW9]
    clear hW9
    have f4 : Lie (XS (.mk 3 ⟨#[]⟩ [(.mk op1 num1 text1 ps1 pm1 bd1)] x2 [] 0) (.slice (some ⟨W1.heap.size, 0, none⟩) 1 1) (.slice pa2 x2.length pc2) (.slice none 0 0)) w.heap.size W9.heap.size W9 := st_lie (by decide) (((row_blk (n := 1) (esc1 f3_0) f5_1 f3_0.le (by omega) rfl (by decide) (by decide))).wider (by omega) (by omega) (Nat.le_refl _)) (f3_1.wider (by omega) f3_1.lt (Nat.le_refl _)) (nil_RS (by omega) (Nat.le_refl _))
    have HF := Lib.hid f4
    clear f4 f3_0 f3_1 f5_1 f5_2
    refine bodyPost_ret (v := stV (.mk 3 ⟨#[]⟩ [(.mk op1 num1 text1 ps1 pm1 bd1)] x2 [] 0) (.slice (some ⟨W1.heap.size, 0, none⟩) 1 1) (.slice pa2 x2.length pc2) (.slice none 0 0)) (by simp [results, Tryz.results140, go_sem, stV, y0, y1, y2, y3, y4, y5, hsz9]) rfl (ret_ok (x := (.mk 3 ⟨#[]⟩ [(.mk op1 num1 text1 ps1 pm1 bd1)] x2 [] 0)) (by simp only [pQuestion, X1.out, X2.out, D3.out, PR.bind, ↓reduceIte, Bool.false_eq_true]) ⟨_, _, _, rfl, HF.out⟩ f1 f2)
theorem try_ok {pb d : Nat} {B : List Tok → PR (List TS)} (hOB : OkB pb d B) (hB : Eats B) : ∀ (w : World) (ts : List Tok), PAt w pb ts d → GoodT ts → Calls Tryz.prog 143 #[.pointer (some ⟨pb, 0, none⟩)] w fun en w' => Ret (pTry B ts) w pb d (VS w) en w' := by
 intro w ts hP hG
 have hpl := hP.lt
 have HP := Lib.hid hP
 have HGD := Lib.hid hG
 clear hP hG
 go_enter Tryz.func143, Tryz.ntmps143
 go_wp2_with fail
 refine (hOB _ _ (HP.out.alloc _) HGD.out).mono ?_
 rintro en W1 hR
 cases hx : B ts with
 | bad a e =>
  rw [hx] at hR
  obtain ⟨rfl, hb⟩ := hR
  exact ⟨rfl, ret_bad (by simp only [pTry, pWord, pFail, hx, PR.bind, ↓reduceIte, Bool.false_eq_true]) ((grown_to_below (gr_alloc (gr_refl _ _) _) (Nat.le_of_lt hpl)).trans hb)⟩
 | ok x1 ts1 =>
  rw [hx] at hR
  have K1 : Hid (GoodT ts1) := (hB _ HGD.out _ _ hx).1
  obtain ⟨⟨va, rfl, hL⟩, h, g⟩ := hR
  obtain ⟨pa1, pc1, rfl, _⟩ := hL.at'
  have X1 := Lib.hid hx
  clear hx
  have hL2 : Hid (Lie (RS (.slice pa1 x1.length pc1) x1) (w.heap.size + 1) W1.heap.size W1) := by have h9 := hL; simp only [World.size_alloc] at h9; exact h9
  clear hL
  have H1 := Lib.hid h
  have G1 : Hid (w.grownBy W1 (some pb)) := gr_trans (gr_alloc (gr_refl _ _) _) g
  have hs1 : w.heap.size ≤ W1.heap.size := G1.out.size
  have hm1 : w.heap.size + 1 ≤ W1.heap.size := by have := g.size; simpa using this
  have B1_0 : Hid (W1.heap[w.heap.size]? = some (.cells #[.int .i64 0, .string ⟨#[]⟩, .slice none 0 0, .slice none 0 0, .slice none 0 0, .int .i64 0] 30 (0, 0))) := blk_new g (by omega)
  clear h g
  have L1_0 : Hid (Lie (RS (.slice pa1 x1.length pc1) x1) (w.heap.size + 1) W1.heap.size W1) := hL2
  clear hL2
  go_wp2_with fail
  refine (met_any (H1.out.alloc _) K1.out 1 (by decide) wCatch).mono ?_
  rintro en W2 ⟨rfl, h, g⟩
  rcases tf (isT 1 wCatch ts1) with hi | hi
  ·rw [hi] at h ⊢
   rw [if_pos rfl] at h
   have D2 := Lib.hid hi
   have K2 : Hid (GoodT ts1.tail) := (keep_tail K1.out (isT_kind hi) (by decide)).1
   clear hi
   have H2 := Lib.hid h
   have G2 : Hid (w.grownBy W2 (some pb)) := gr_trans (gr_alloc (G1.out) _) g
   have hs2 : w.heap.size ≤ W2.heap.size := G2.out.size
   have hm2 : W1.heap.size + 1 ≤ W2.heap.size := by have := g.size; simpa using this
   have B2_0 : Hid (W2.heap[w.heap.size]? = some (.cells #[.int .i64 0, .string ⟨#[]⟩, .slice none 0 0, .slice none 0 0, .slice none 0 0, .int .i64 0] 30 (0, 0))) := blk_next B1_0.out ((Below.refl _ _).alloc (Nat.le_refl _) _) g (by omega)
   have B2_1 : Hid (W2.heap[W1.heap.size]? = some (.cells #[.int .i64 7, .string ⟨#[]⟩, .slice none 0 0, .slice pa1 x1.length pc1, .slice none 0 0, .int .i64 0] 30 (0, 0))) := blk_new g (by omega)
   have L2_0 : Hid (Lie (RS (.slice pa1 x1.length pc1) x1) (w.heap.size + 1) W1.heap.size W2) := ((L1_0.out.alloc _)).gr g (by omega)
   clear h g B1_0 L1_0
   go_wp2_with fail
   refine (name_p H2.out K2.out).mono ?_
   rintro en W3 hR
   cases hx : pName ts1.tail with
   | bad a e =>
    rw [hx] at hR
    obtain ⟨rfl, hb⟩ := hR
    exact ⟨rfl, ret_bad (by simp only [pTry, pWord, pFail, X1.out, D2.out, hx, PR.bind, ↓reduceIte, Bool.false_eq_true]) ((grown_to_below (G2.out) (Nat.le_of_lt hpl)).trans hb)⟩
   | ok x3 ts3 =>
    rw [hx] at hR
    have K3 : Hid (GoodT ts3) := (eats_name _ K2.out _ _ hx).1
    obtain ⟨hv, h, g⟩ := hR
    have hv2 : en = .returned (.string x3) := hv
    subst hv2
    clear hv
    have X3 := Lib.hid hx
    clear hx
    have H3 := Lib.hid h
    have G3 : Hid (w.grownBy W3 (some pb)) := gr_trans (G2.out) g
    have hs3 : w.heap.size ≤ W3.heap.size := G3.out.size
    have hm3 : W2.heap.size + 0 ≤ W3.heap.size := by have := g.size; simpa using this
    have B3_0 : Hid (W3.heap[w.heap.size]? = some (.cells #[.int .i64 0, .string ⟨#[]⟩, .slice none 0 0, .slice none 0 0, .slice none 0 0, .int .i64 0] 30 (0, 0))) := blk_next B2_0.out (Below.refl _ _) g (by omega)
    have B3_1 : Hid (W3.heap[W1.heap.size]? = some (.cells #[.int .i64 7, .string ⟨#[]⟩, .slice none 0 0, .slice pa1 x1.length pc1, .slice none 0 0, .int .i64 0] 30 (0, 0))) := blk_next B2_1.out (Below.refl _ _) g (by omega)
    have L3_0 : Hid (Lie (RS (.slice pa1 x1.length pc1) x1) (w.heap.size + 1) W1.heap.size W3) := (L2_0.out).gr g (by omega)
    clear h g B2_0 B2_1 L2_0
    have qh := B3_1.out
    have q0 : W3.cell? ⟨W1.heap.size, 0, none⟩ = some (.int .i64 7) := by simp [World.cell?, qh]
    have q1 : W3.cell? ⟨W1.heap.size, 1, none⟩ = some (.string ⟨#[]⟩) := by simp [World.cell?, qh]
    have q2 : W3.cell? ⟨W1.heap.size, 2, none⟩ = some (.slice none 0 0) := by simp [World.cell?, qh]
    have q3 : W3.cell? ⟨W1.heap.size, 3, none⟩ = some (.slice pa1 x1.length pc1) := by simp [World.cell?, qh]
    have q4 : W3.cell? ⟨W1.heap.size, 4, none⟩ = some (.slice none 0 0) := by simp [World.cell?, qh]
    have q5 : W3.cell? ⟨W1.heap.size, 5, none⟩ = some (.int .i64 0) := by simp [World.cell?, qh]
    have qf : ∀ i, W3.frozen? ⟨W1.heap.size, i, none⟩ = false := fun i => by simp [World.frozen?, qh]
    have ql : W1.heap.size < W3.heap.size := lt_of_block qh
    clear qh
    go_wp2_with fail
    have H4 : Hid (PAt (W3.setCell ⟨W1.heap.size, 1, none⟩ (.string x3)) pb ts3 d) := H3.out.other (by omega)
    have G4 : Hid (w.grownBy (W3.setCell ⟨W1.heap.size, 1, none⟩ (.string x3)) (some pb)) := gr_new G3.out (by omega) _ _
    have hz4 : (W3.setCell ⟨W1.heap.size, 1, none⟩ (.string x3)).heap.size = W3.heap.size := by simp [World.setCell]
    have B4_0 : Hid ((W3.setCell ⟨W1.heap.size, 1, none⟩ (.string x3)).heap[w.heap.size]? = some (.cells #[.int .i64 0, .string ⟨#[]⟩, .slice none 0 0, .slice none 0 0, .slice none 0 0, .int .i64 0] 30 (0, 0))) := (Below.heap_setCell _ _ _ _ (by show w.heap.size ≠ W1.heap.size; omega)).trans B3_0.out
    have B4_1 : Hid ((W3.setCell ⟨W1.heap.size, 1, none⟩ (.string x3)).heap[W1.heap.size]? = some (.cells #[.int .i64 7, .string x3, .slice none 0 0, .slice pa1 x1.length pc1, .slice none 0 0, .int .i64 0] 30 (0, 0))) := blk_set B3_1.out
    have L4_0 : Hid (Lie (RS (.slice pa1 x1.length pc1) x1) (w.heap.size + 1) W1.heap.size (W3.setCell ⟨W1.heap.size, 1, none⟩ (.string x3))) := L3_0.out.keep (by simp [World.setCell]) fun k h1 h2 => Below.heap_setCell _ _ _ _ (by show k ≠ W1.heap.size; omega)
    clear B3_0 B3_1 L3_0
    refine (hOB _ _ H4.out K3.out).mono ?_
    rintro en W5 hR
    cases hx : B ts3 with
    | bad a e =>
     rw [hx] at hR
     obtain ⟨rfl, hb⟩ := hR
     exact ⟨rfl, ret_bad (by simp only [pTry, pWord, pFail, X1.out, D2.out, X3.out, hx, PR.bind, ↓reduceIte, Bool.false_eq_true]) ((grown_to_below (G4.out) (Nat.le_of_lt hpl)).trans hb)⟩
    | ok x5 ts5 =>
     rw [hx] at hR
     have K5 : Hid (GoodT ts5) := (hB _ K3.out _ _ hx).1
     obtain ⟨⟨va, rfl, hL⟩, h, g⟩ := hR
     obtain ⟨pa5, pc5, rfl, _⟩ := hL.at'
     have X5 := Lib.hid hx
     clear hx
     have hL2 := Lib.hid hL
     clear hL
     have H5 := Lib.hid h
     have G5 : Hid (w.grownBy W5 (some pb)) := gr_trans (G4.out) g
     have hs5 : w.heap.size ≤ W5.heap.size := G5.out.size
     have hm5 : (W3.setCell ⟨W1.heap.size, 1, none⟩ (.string x3)).heap.size + 0 ≤ W5.heap.size := by have := g.size; simpa using this
     have B5_0 : Hid (W5.heap[w.heap.size]? = some (.cells #[.int .i64 0, .string ⟨#[]⟩, .slice none 0 0, .slice none 0 0, .slice none 0 0, .int .i64 0] 30 (0, 0))) := blk_next B4_0.out (Below.refl _ _) g (by omega)
     have B5_1 : Hid (W5.heap[W1.heap.size]? = some (.cells #[.int .i64 7, .string x3, .slice none 0 0, .slice pa1 x1.length pc1, .slice none 0 0, .int .i64 0] 30 (0, 0))) := blk_next B4_1.out (Below.refl _ _) g (by omega)
     have L5_0 : Hid (Lie (RS (.slice pa1 x1.length pc1) x1) (w.heap.size + 1) W1.heap.size W5) := (L4_0.out).gr g (by omega)
     clear h g B4_0 B4_1 L4_0
     have L5_1 : Hid (Lie (RS (.slice pa5 x5.length pc5) x5) ((W3.setCell ⟨W1.heap.size, 1, none⟩ (.string x3)).heap.size) W5.heap.size W5) := hL2
     clear hL2
     clear q0 q1 q2 q3 q4 q5 qf ql
     have rh := B5_0.out
     have r0 : W5.cell? ⟨w.heap.size, 0, none⟩ = some (.int .i64 0) := by simp [World.cell?, rh]
     have r1 : W5.cell? ⟨w.heap.size, 1, none⟩ = some (.string ⟨#[]⟩) := by simp [World.cell?, rh]
     have r2 : W5.cell? ⟨w.heap.size, 2, none⟩ = some (.slice none 0 0) := by simp [World.cell?, rh]
     have r3 : W5.cell? ⟨w.heap.size, 3, none⟩ = some (.slice none 0 0) := by simp [World.cell?, rh]
     have r4 : W5.cell? ⟨w.heap.size, 4, none⟩ = some (.slice none 0 0) := by simp [World.cell?, rh]
     have r5 : W5.cell? ⟨w.heap.size, 5, none⟩ = some (.int .i64 0) := by simp [World.cell?, rh]
     have rf : ∀ i, W5.frozen? ⟨w.heap.size, i, none⟩ = false := fun i => by simp [World.frozen?, rh]
     have rl : w.heap.size < W5.heap.size := lt_of_block rh
     clear rh
     have qh := B5_1.out
     have q0 : W5.cell? ⟨W1.heap.size, 0, none⟩ = some (.int .i64 7) := by simp [World.cell?, qh]
     have q1 : W5.cell? ⟨W1.heap.size, 1, none⟩ = some (.string x3) := by simp [World.cell?, qh]
     have q2 : W5.cell? ⟨W1.heap.size, 2, none⟩ = some (.slice none 0 0) := by simp [World.cell?, qh]
     have q3 : W5.cell? ⟨W1.heap.size, 3, none⟩ = some (.slice pa1 x1.length pc1) := by simp [World.cell?, qh]
     have q4 : W5.cell? ⟨W1.heap.size, 4, none⟩ = some (.slice none 0 0) := by simp [World.cell?, qh]
     have q5 : W5.cell? ⟨W1.heap.size, 5, none⟩ = some (.int .i64 0) := by simp [World.cell?, qh]
     have qf : ∀ i, W5.frozen? ⟨W1.heap.size, i, none⟩ = false := fun i => by simp [World.frozen?, qh]
     have ql : W1.heap.size < W5.heap.size := lt_of_block qh
     clear qh
     go_wp2_with fail
     have H6 : Hid (PAt (W5.setCell ⟨W1.heap.size, 4, none⟩ (.slice pa5 x5.length pc5)) pb ts5 d) := H5.out.other (by omega)
     have G6 : Hid (w.grownBy (W5.setCell ⟨W1.heap.size, 4, none⟩ (.slice pa5 x5.length pc5)) (some pb)) := gr_new G5.out (by omega) _ _
     have hz6 : (W5.setCell ⟨W1.heap.size, 4, none⟩ (.slice pa5 x5.length pc5)).heap.size = W5.heap.size := by simp [World.setCell]
     have B6_0 : Hid ((W5.setCell ⟨W1.heap.size, 4, none⟩ (.slice pa5 x5.length pc5)).heap[w.heap.size]? = some (.cells #[.int .i64 0, .string ⟨#[]⟩, .slice none 0 0, .slice none 0 0, .slice none 0 0, .int .i64 0] 30 (0, 0))) := (Below.heap_setCell _ _ _ _ (by show w.heap.size ≠ W1.heap.size; omega)).trans B5_0.out
     have B6_1 : Hid ((W5.setCell ⟨W1.heap.size, 4, none⟩ (.slice pa5 x5.length pc5)).heap[W1.heap.size]? = some (.cells #[.int .i64 7, .string x3, .slice none 0 0, .slice pa1 x1.length pc1, .slice pa5 x5.length pc5, .int .i64 0] 30 (0, 0))) := blk_set B5_1.out
     have L6_0 : Hid (Lie (RS (.slice pa1 x1.length pc1) x1) (w.heap.size + 1) W1.heap.size (W5.setCell ⟨W1.heap.size, 4, none⟩ (.slice pa5 x5.length pc5))) := L5_0.out.keep (by simp [World.setCell]) fun k h1 h2 => Below.heap_setCell _ _ _ _ (by show k ≠ W1.heap.size; omega)
     have L6_1 : Hid (Lie (RS (.slice pa5 x5.length pc5) x5) ((W3.setCell ⟨W1.heap.size, 1, none⟩ (.string x3)).heap.size) W5.heap.size (W5.setCell ⟨W1.heap.size, 4, none⟩ (.slice pa5 x5.length pc5))) := L5_1.out.keep (by simp [World.setCell]) fun k h1 h2 => Below.heap_setCell _ _ _ _ (by show k ≠ W1.heap.size; omega)
     clear B5_0 B5_1 L5_0 L5_1
     obtain ⟨y0, y1, y2, y3, y4, y5⟩ := six7_cell (a := .int .i64 7) (b := .string x3) (c := .slice none 0 0) (d := .slice pa1 x1.length pc1) (e := .slice pa5 x5.length pc5) (f := .int .i64 0) B6_0.out
     have hsz9 : (six7 (W5.setCell ⟨W1.heap.size, 4, none⟩ (.slice pa5 x5.length pc5)) w.heap.size (.int .i64 7) (.string x3) (.slice none 0 0) (.slice pa1 x1.length pc1) (.slice pa5 x5.length pc5) (.int .i64 0)).heap.size = (W5.setCell ⟨W1.heap.size, 4, none⟩ (.slice pa5 x5.length pc5)).heap.size := six7_size
     have f1 : PAt (six7 (W5.setCell ⟨W1.heap.size, 4, none⟩ (.slice pa5 x5.length pc5)) w.heap.size (.int .i64 7) (.string x3) (.slice none 0 0) (.slice pa1 x1.length pc1) (.slice pa5 x5.length pc5) (.int .i64 0)) pb ts5 d := six_pat H6.out (by omega)
     have f2 : w.grownBy (six7 (W5.setCell ⟨W1.heap.size, 4, none⟩ (.slice pa5 x5.length pc5)) w.heap.size (.int .i64 7) (.string x3) (.slice none 0 0) (.slice pa1 x1.length pc1) (.slice pa5 x5.length pc5) (.int .i64 0)) (some pb) := six_gr (G6.out) (by omega)
     have f3_0 : Lie (RS (.slice pa1 x1.length pc1) x1) (w.heap.size + 1) W1.heap.size (six7 (W5.setCell ⟨W1.heap.size, 4, none⟩ (.slice pa5 x5.length pc5)) w.heap.size (.int .i64 7) (.string x3) (.slice none 0 0) (.slice pa1 x1.length pc1) (.slice pa5 x5.length pc5) (.int .i64 0)) := six_lie L6_0.out (by omega)
     have f3_1 : Lie (RS (.slice pa5 x5.length pc5) x5) ((W3.setCell ⟨W1.heap.size, 1, none⟩ (.string x3)).heap.size) W5.heap.size (six7 (W5.setCell ⟨W1.heap.size, 4, none⟩ (.slice pa5 x5.length pc5)) w.heap.size (.int .i64 7) (.string x3) (.slice none 0 0) (.slice pa1 x1.length pc1) (.slice pa5 x5.length pc5) (.int .i64 0)) := six_lie L6_1.out (by omega)
     have f5_1 : (six7 (W5.setCell ⟨W1.heap.size, 4, none⟩ (.slice pa5 x5.length pc5)) w.heap.size (.int .i64 7) (.string x3) (.slice none 0 0) (.slice pa1 x1.length pc1) (.slice pa5 x5.length pc5) (.int .i64 0)).heap[W1.heap.size]? = some (.cells #[.int .i64 7, .string x3, .slice none 0 0, .slice pa1 x1.length pc1, .slice pa5 x5.length pc5, .int .i64 0] 30 (0, 0)) := (six7_other (by omega)).trans B6_1.out
     obtain ⟨W9, hW9⟩ : ∃ W9, six7 (W5.setCell ⟨W1.heap.size, 4, none⟩ (.slice pa5 x5.length pc5)) w.heap.size (.int .i64 7) (.string x3) (.slice none 0 0) (.slice pa1 x1.length pc1) (.slice pa5 x5.length pc5) (.int .i64 0) = W9 := ⟨_, rfl⟩
     rw [hW9] at y0 y1 y2 y3 y4 y5 hsz9 f1 f2 f3_0 f3_1 f5_1
     unfold six7 at hW9
     rw [hW9]
     clear hW9
     have f4 : Lie (XS (.mk 7 x3 [] x1 x5 0) (.slice none 0 0) (.slice pa1 x1.length pc1) (.slice pa5 x5.length pc5)) w.heap.size W9.heap.size W9 := st_lie (by decide) (nil_RE (by omega) (Nat.le_refl _)) (f3_0.wider (by omega) f3_0.lt (Nat.le_refl _)) (f3_1.wider (by omega) f3_1.lt (Nat.le_refl _))
     have HF := Lib.hid f4
     clear f4 f3_0 f3_1 f5_1
     refine bodyPost_ret (v := stV (.mk 7 x3 [] x1 x5 0) (.slice none 0 0) (.slice pa1 x1.length pc1) (.slice pa5 x5.length pc5)) (by simp [results, Tryz.results143, go_sem, stV, y0, y1, y2, y3, y4, y5, hsz9]) rfl (ret_ok (x := (.mk 7 x3 [] x1 x5 0)) (by simp only [pTry, pWord, pFail, X1.out, D2.out, X3.out, X5.out, PR.bind, ↓reduceIte, Bool.false_eq_true]) ⟨_, _, _, rfl, HF.out⟩ f1 f2)
  ·rw [hi] at h ⊢
   rw [if_neg (by simp)] at h
   have D2 := Lib.hid hi
   clear hi
   have H2 := Lib.hid h
   have G2 : Hid (w.grownBy W2 (some pb)) := gr_trans (gr_alloc (G1.out) _) g
   have hs2 : w.heap.size ≤ W2.heap.size := G2.out.size
   have hm2 : W1.heap.size + 1 ≤ W2.heap.size := by have := g.size; simpa using this
   have B2_0 : Hid (W2.heap[w.heap.size]? = some (.cells #[.int .i64 0, .string ⟨#[]⟩, .slice none 0 0, .slice none 0 0, .slice none 0 0, .int .i64 0] 30 (0, 0))) := blk_next B1_0.out ((Below.refl _ _).alloc (Nat.le_refl _) _) g (by omega)
   have B2_1 : Hid (W2.heap[W1.heap.size]? = some (.cells #[.int .i64 7, .string ⟨#[]⟩, .slice none 0 0, .slice pa1 x1.length pc1, .slice none 0 0, .int .i64 0] 30 (0, 0))) := blk_new g (by omega)
   have L2_0 : Hid (Lie (RS (.slice pa1 x1.length pc1) x1) (w.heap.size + 1) W1.heap.size W2) := ((L1_0.out.alloc _)).gr g (by omega)
   clear h g B1_0 L1_0
   go_wp2_with fail
   refine (fail_any H2.out K1.out 1).mono ?_
   rintro en W9 ⟨rfl, rfl⟩
   exact ⟨rfl, ret_bad (by simp only [pTry, pWord, pFail, X1.out, D2.out, PR.bind, ↓reduceIte, Bool.false_eq_true]) (grown_to_below (G2.out) (Nat.le_of_lt hpl))⟩
end Go.Proofs.YtenfphbhofibjaaGreatDoor

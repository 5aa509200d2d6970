/-
 Pa9, Pa10, joined.
 Conditions: as each theorem says.
-/
import Derived.Test.YtenfphbhofibjaaGreatDoorZPbE
import Derived.Test.YtenfphbhofibjaaGreatDoorZPbD
set_option maxRecDepth 100000
set_option maxHeartbeats 4000000
set_option linter.unusedVariables false
set_option linter.unusedSimpArgs false
namespace Go.Proofs.YtenfphbhofibjaaGreatDoor
open Go.RowKit LM TM PM
theorem thing_ok {pb d : Nat} {E : List Tok → PR TE} {B : List Tok → PR (List TS)} (hO : OkE pb d E) (hE : Eats E) (hB : Eats B) (hF : (∀ (w : World) (ts : List Tok), PAt w pb ts d → GoodT ts → Calls Tryz.prog 227 #[.pointer (some ⟨pb, 0, none⟩)] w fun en w' => Ret (pFunction B ts) w pb d (VE w) en w')) (hR0 : (∀ (w : World) (ts : List Tok), PAt w pb ts d → GoodT ts → Calls Tryz.prog 228 #[.pointer (some ⟨pb, 0, none⟩)] w fun en w' => Ret (pRecord E ts) w pb d (VE w) en w')) : ∀ (w : World) (ts : List Tok), PAt w pb ts d → GoodT ts → Calls Tryz.prog 218 #[.pointer (some ⟨pb, 0, none⟩)] w fun en w' => Ret (pThing E B ts) w pb d (VE w) en w' := by
 intro w ts hP hG
 have hpl := hP.lt
 have HP := Lib.hid hP
 have HGD := Lib.hid hG
 obtain ⟨t, l, g0, o0, cap0, rfl, c0, c1, q0, q1, q2, q3, h1, h2, f0, hg0⟩ := hP.open hG
 have hnum := hG.hd
 unfold maxLen at h2
 have hg0l : g0 < w.heap.size := by omega
 clear hP hG
 by_cases hk2 : t.kind = 2
 ·have hkb : ((t.kind : Int) == 2) = true := by simp [hk2]
  have HK2 := Lib.hid hk2
  go_enter Tryz.func218, Tryz.ntmps218
  go_wp2_with fail
  refine (take_any (HP.out.alloc _) HGD.out (by show t.kind ≠ 0; omega)).mono ?_
  rintro en W1 ⟨rfl, h, g⟩
  have K1 : Hid (GoodT l) := (HGD.out.tl (by show t.kind ≠ 0; omega))
  have H1 := Lib.hid h
  have G1 : Hid (w.grownBy W1 (some pb)) := gr_trans (gr_alloc (gr_refl _ _) _) g
  have hs1 : w.heap.size ≤ W1.heap.size := G1.out.size
  have hm1 : w.heap.size + 1 ≤ W1.heap.size := by have := g.size; simpa using this
  have B1_0 : Hid (W1.heap[w.heap.size]? = some (.cells #[.int .i64 0, .int .i64 0, .string ⟨#[]⟩, .slice none 0 0, .slice none 0 0, .slice none 0 0] 35 (0, 0))) := blk_new g (by omega)
  clear h g
  clear c0 c1 q0 q1 q2 q3 h1 h2 f0 hg0 hg0l
  have hfl := fld2
  unfold ptokV
  simp only [hd0, List.headD_cons]
  have rh := B1_0.out
  have r0 : W1.cell? ⟨w.heap.size, 0, none⟩ = some (.int .i64 0) := by simp [World.cell?, rh]
  have r1 : W1.cell? ⟨w.heap.size, 1, none⟩ = some (.int .i64 0) := by simp [World.cell?, rh]
  have r2 : W1.cell? ⟨w.heap.size, 2, none⟩ = some (.string ⟨#[]⟩) := by simp [World.cell?, rh]
  have r3 : W1.cell? ⟨w.heap.size, 3, none⟩ = some (.slice none 0 0) := by simp [World.cell?, rh]
  have r4 : W1.cell? ⟨w.heap.size, 4, none⟩ = some (.slice none 0 0) := by simp [World.cell?, rh]
  have r5 : W1.cell? ⟨w.heap.size, 5, none⟩ = some (.slice none 0 0) := by simp [World.cell?, rh]
  have rf : ∀ i, W1.frozen? ⟨w.heap.size, i, none⟩ = false := fun i => by simp [World.frozen?, rh]
  have rl : w.heap.size < W1.heap.size := lt_of_block rh
  clear rh
  go_wp2_with fail
  obtain ⟨y0, y1, y2, y3, y4, y5⟩ := six7_cell (a := .int .i64 3) (b := .int .i64 t.num) (c := .string ⟨#[]⟩) (d := .slice none 0 0) (e := .slice none 0 0) (f := .slice none 0 0) B1_0.out
  have hsz9 : (six7 W1 w.heap.size (.int .i64 3) (.int .i64 t.num) (.string ⟨#[]⟩) (.slice none 0 0) (.slice none 0 0) (.slice none 0 0)).heap.size = W1.heap.size := six7_size
  have f1 : PAt (six7 W1 w.heap.size (.int .i64 3) (.int .i64 t.num) (.string ⟨#[]⟩) (.slice none 0 0) (.slice none 0 0) (.slice none 0 0)) pb l d := six_pat H1.out (by omega)
  have f2 : w.grownBy (six7 W1 w.heap.size (.int .i64 3) (.int .i64 t.num) (.string ⟨#[]⟩) (.slice none 0 0) (.slice none 0 0) (.slice none 0 0)) (some pb) := six_gr (G1.out) (by omega)
  obtain ⟨WF, hWF⟩ : ∃ WF, six7 W1 w.heap.size (.int .i64 3) (.int .i64 t.num) (.string ⟨#[]⟩) (.slice none 0 0) (.slice none 0 0) (.slice none 0 0) = WF := ⟨_, rfl⟩
  rw [hWF] at y0 y1 y2 y3 y4 y5 hsz9 f1 f2
  unfold six7 at hWF
  rw [hWF]
  clear hWF
  have f4 : Lie (XE (.mk 3 t.num ⟨#[]⟩ [] [] []) (.slice none 0 0) (.slice none 0 0) (.slice none 0 0)) w.heap.size WF.heap.size WF := leaf_lie (by omega) (Nat.le_refl _) (by decide) (by decide) (by first | decide | omega) (by first | decide | omega)
  have HF := Lib.hid f4
  clear f4 
  refine bodyPost_ret (v := exV (.mk 3 t.num ⟨#[]⟩ [] [] []) (.slice none 0 0) (.slice none 0 0) (.slice none 0 0)) (by simp [results, Tryz.results218, go_sem, exV, textE, mkE, y0, y1, y2, y3, y4, y5, hsz9]) rfl (ret_ok (x := (.mk 3 t.num ⟨#[]⟩ [] [] [])) (by simp only [pThing, hd0, List.headD_cons, List.tail_cons, textE, mkE, HK2.out, PR.bind, ↓reduceIte, Bool.false_eq_true]) ⟨_, _, _, rfl, HF.out⟩ f1 f2)
 have hkn2 : ((t.kind : Int) == 2) = false := by simp; omega
 have hkm2 : ¬ ((t.kind : Int) = 2) := by omega
 have HK2 := Lib.hid hk2
 by_cases hk3 : t.kind = 3
 ·have hkb : ((t.kind : Int) == 3) = true := by simp [hk3]
  have HK3 := Lib.hid hk3
  go_enter Tryz.func218, Tryz.ntmps218
  go_wp2_with fail
  refine (take_any (HP.out.alloc _) HGD.out (by show t.kind ≠ 0; omega)).mono ?_
  rintro en W1 ⟨rfl, h, g⟩
  have K1 : Hid (GoodT l) := (HGD.out.tl (by show t.kind ≠ 0; omega))
  have H1 := Lib.hid h
  have G1 : Hid (w.grownBy W1 (some pb)) := gr_trans (gr_alloc (gr_refl _ _) _) g
  have hs1 : w.heap.size ≤ W1.heap.size := G1.out.size
  have hm1 : w.heap.size + 1 ≤ W1.heap.size := by have := g.size; simpa using this
  have B1_0 : Hid (W1.heap[w.heap.size]? = some (.cells #[.int .i64 0, .int .i64 0, .string ⟨#[]⟩, .slice none 0 0, .slice none 0 0, .slice none 0 0] 35 (0, 0))) := blk_new g (by omega)
  clear h g
  clear c0 c1 q0 q1 q2 q3 h1 h2 f0 hg0 hg0l
  have hfl := fld1
  unfold ptokV
  simp only [hd0, List.headD_cons]
  have rh := B1_0.out
  have r0 : W1.cell? ⟨w.heap.size, 0, none⟩ = some (.int .i64 0) := by simp [World.cell?, rh]
  have r1 : W1.cell? ⟨w.heap.size, 1, none⟩ = some (.int .i64 0) := by simp [World.cell?, rh]
  have r2 : W1.cell? ⟨w.heap.size, 2, none⟩ = some (.string ⟨#[]⟩) := by simp [World.cell?, rh]
  have r3 : W1.cell? ⟨w.heap.size, 3, none⟩ = some (.slice none 0 0) := by simp [World.cell?, rh]
  have r4 : W1.cell? ⟨w.heap.size, 4, none⟩ = some (.slice none 0 0) := by simp [World.cell?, rh]
  have r5 : W1.cell? ⟨w.heap.size, 5, none⟩ = some (.slice none 0 0) := by simp [World.cell?, rh]
  have rf : ∀ i, W1.frozen? ⟨w.heap.size, i, none⟩ = false := fun i => by simp [World.frozen?, rh]
  have rl : w.heap.size < W1.heap.size := lt_of_block rh
  clear rh
  go_wp2_with fail
  obtain ⟨y0, y1, y2, y3, y4, y5⟩ := six7_cell (a := .int .i64 4) (b := .int .i64 0) (c := .string ⟨t.text.toArray⟩) (d := .slice none 0 0) (e := .slice none 0 0) (f := .slice none 0 0) B1_0.out
  have hsz9 : (six7 W1 w.heap.size (.int .i64 4) (.int .i64 0) (.string ⟨t.text.toArray⟩) (.slice none 0 0) (.slice none 0 0) (.slice none 0 0)).heap.size = W1.heap.size := six7_size
  have f1 : PAt (six7 W1 w.heap.size (.int .i64 4) (.int .i64 0) (.string ⟨t.text.toArray⟩) (.slice none 0 0) (.slice none 0 0) (.slice none 0 0)) pb l d := six_pat H1.out (by omega)
  have f2 : w.grownBy (six7 W1 w.heap.size (.int .i64 4) (.int .i64 0) (.string ⟨t.text.toArray⟩) (.slice none 0 0) (.slice none 0 0) (.slice none 0 0)) (some pb) := six_gr (G1.out) (by omega)
  obtain ⟨WF, hWF⟩ : ∃ WF, six7 W1 w.heap.size (.int .i64 4) (.int .i64 0) (.string ⟨t.text.toArray⟩) (.slice none 0 0) (.slice none 0 0) (.slice none 0 0) = WF := ⟨_, rfl⟩
  rw [hWF] at y0 y1 y2 y3 y4 y5 hsz9 f1 f2
  unfold six7 at hWF
  rw [hWF]
  clear hWF
  have f4 : Lie (XE (textE ⟨t.text.toArray⟩) (.slice none 0 0) (.slice none 0 0) (.slice none 0 0)) w.heap.size WF.heap.size WF := leaf_lie (by omega) (Nat.le_refl _) (by decide) (by decide) (by first | decide | omega) (by first | decide | omega)
  have HF := Lib.hid f4
  clear f4 
  refine bodyPost_ret (v := exV (textE ⟨t.text.toArray⟩) (.slice none 0 0) (.slice none 0 0) (.slice none 0 0)) (by simp [results, Tryz.results218, go_sem, exV, textE, mkE, y0, y1, y2, y3, y4, y5, hsz9]) rfl (ret_ok (x := (textE ⟨t.text.toArray⟩)) (by simp only [pThing, hd0, List.headD_cons, List.tail_cons, textE, mkE, show ¬ ((3 : Nat) = 2) from by decide, HK3.out, PR.bind, ↓reduceIte, Bool.false_eq_true]) ⟨_, _, _, rfl, HF.out⟩ f1 f2)
 have hkn3 : ((t.kind : Int) == 3) = false := by simp; omega
 have hkm3 : ¬ ((t.kind : Int) = 3) := by omega
 have HK3 := Lib.hid hk3
 go_enter Tryz.func218, Tryz.ntmps218
 go_wp2_with fail
 refine (met_any (HP.out.alloc _) HGD.out 1 (by decide) wNil).mono ?_
 rintro en W1 ⟨rfl, h, g⟩
 rcases tf (isT 1 wNil ((t :: l))) with hi | hi
 ·rw [hi] at h ⊢
  rw [if_pos rfl] at h
  have D1 := Lib.hid hi
  have K1 : Hid (GoodT ((t :: l)).tail) := (keep_tail HGD.out (isT_kind hi) (by decide)).1
  clear hi
  have H1 := Lib.hid h
  have G1 : Hid (w.grownBy W1 (some pb)) := gr_trans (gr_alloc (gr_refl _ _) _) g
  have hs1 : w.heap.size ≤ W1.heap.size := G1.out.size
  have hm1 : w.heap.size + 1 ≤ W1.heap.size := by have := g.size; simpa using this
  have B1_0 : Hid (W1.heap[w.heap.size]? = some (.cells #[.int .i64 0, .int .i64 0, .string ⟨#[]⟩, .slice none 0 0, .slice none 0 0, .slice none 0 0] 35 (0, 0))) := blk_new g (by omega)
  clear h g
  clear c0 c1 q0 q1 q2 q3 h1 h2 f0 hg0 hg0l hkn2 hkm2 hkn3 hkm3 hk2 hk3
  have rh := B1_0.out
  have r0 : W1.cell? ⟨w.heap.size, 0, none⟩ = some (.int .i64 0) := by simp [World.cell?, rh]
  have r1 : W1.cell? ⟨w.heap.size, 1, none⟩ = some (.int .i64 0) := by simp [World.cell?, rh]
  have r2 : W1.cell? ⟨w.heap.size, 2, none⟩ = some (.string ⟨#[]⟩) := by simp [World.cell?, rh]
  have r3 : W1.cell? ⟨w.heap.size, 3, none⟩ = some (.slice none 0 0) := by simp [World.cell?, rh]
  have r4 : W1.cell? ⟨w.heap.size, 4, none⟩ = some (.slice none 0 0) := by simp [World.cell?, rh]
  have r5 : W1.cell? ⟨w.heap.size, 5, none⟩ = some (.slice none 0 0) := by simp [World.cell?, rh]
  have rf : ∀ i, W1.frozen? ⟨w.heap.size, i, none⟩ = false := fun i => by simp [World.frozen?, rh]
  have rl : w.heap.size < W1.heap.size := lt_of_block rh
  clear rh
  go_wp2_with fail
  obtain ⟨y0, y1, y2, y3, y4, y5⟩ := six7_cell (a := .int .i64 0) (b := .int .i64 0) (c := .string ⟨#[]⟩) (d := .slice none 0 0) (e := .slice none 0 0) (f := .slice none 0 0) B1_0.out
  have hsz9 : (six7 W1 w.heap.size (.int .i64 0) (.int .i64 0) (.string ⟨#[]⟩) (.slice none 0 0) (.slice none 0 0) (.slice none 0 0)).heap.size = W1.heap.size := six7_size
  have f1 : PAt (six7 W1 w.heap.size (.int .i64 0) (.int .i64 0) (.string ⟨#[]⟩) (.slice none 0 0) (.slice none 0 0) (.slice none 0 0)) pb (((t :: l)).tail) d := six_pat H1.out (by omega)
  have f2 : w.grownBy (six7 W1 w.heap.size (.int .i64 0) (.int .i64 0) (.string ⟨#[]⟩) (.slice none 0 0) (.slice none 0 0) (.slice none 0 0)) (some pb) := six_gr (G1.out) (by omega)
  obtain ⟨WF, hWF⟩ : ∃ WF, six7 W1 w.heap.size (.int .i64 0) (.int .i64 0) (.string ⟨#[]⟩) (.slice none 0 0) (.slice none 0 0) (.slice none 0 0) = WF := ⟨_, rfl⟩
  rw [hWF] at y0 y1 y2 y3 y4 y5 hsz9 f1 f2
  unfold six7 at hWF
  rw [hWF]
  clear hWF
  have f4 : Lie (XE (mkE 0 []) (.slice none 0 0) (.slice none 0 0) (.slice none 0 0)) w.heap.size WF.heap.size WF := leaf_lie (by omega) (Nat.le_refl _) (by decide) (by decide) (by first | decide | omega) (by first | decide | omega)
  have HF := Lib.hid f4
  clear f4 
  refine bodyPost_ret (v := exV (mkE 0 []) (.slice none 0 0) (.slice none 0 0) (.slice none 0 0)) (by simp [results, Tryz.results218, go_sem, exV, textE, mkE, y0, y1, y2, y3, y4, y5, hsz9]) rfl (ret_ok (x := (mkE 0 [])) (by simp only [pThing, hd0, List.headD_cons, List.tail_cons, textE, mkE, HK2.out, HK3.out, D1.out, PR.bind, ↓reduceIte, Bool.false_eq_true]) ⟨_, _, _, rfl, HF.out⟩ f1 f2)
 ·rw [hi] at h ⊢
  rw [if_neg (by simp)] at h
  have D1 := Lib.hid hi
  clear hi
  have H1 := Lib.hid h
  have G1 : Hid (w.grownBy W1 (some pb)) := gr_trans (gr_alloc (gr_refl _ _) _) g
  have hs1 : w.heap.size ≤ W1.heap.size := G1.out.size
  have hm1 : w.heap.size + 1 ≤ W1.heap.size := by have := g.size; simpa using this
  have B1_0 : Hid (W1.heap[w.heap.size]? = some (.cells #[.int .i64 0, .int .i64 0, .string ⟨#[]⟩, .slice none 0 0, .slice none 0 0, .slice none 0 0] 35 (0, 0))) := blk_new g (by omega)
  clear h g
  clear c0 c1 q0 q1 q2 q3 h1 h2 f0 hg0 hg0l hkn2 hkm2 hkn3 hkm3 hk2 hk3
  go_wp2_with fail
  refine (met_any H1.out HGD.out 1 (by decide) wTrue).mono ?_
  rintro en W2 ⟨rfl, h, g⟩
  rcases tf (isT 1 wTrue ((t :: l))) with hi | hi
  ·rw [hi] at h ⊢
   rw [if_pos rfl] at h
   have D2 := Lib.hid hi
   have K2 : Hid (GoodT ((t :: l)).tail) := (keep_tail HGD.out (isT_kind hi) (by decide)).1
   clear hi
   have H2 := Lib.hid h
   have G2 : Hid (w.grownBy W2 (some pb)) := gr_trans (G1.out) g
   have hs2 : w.heap.size ≤ W2.heap.size := G2.out.size
   have hm2 : W1.heap.size + 0 ≤ W2.heap.size := by have := g.size; simpa using this
   have B2_0 : Hid (W2.heap[w.heap.size]? = some (.cells #[.int .i64 0, .int .i64 0, .string ⟨#[]⟩, .slice none 0 0, .slice none 0 0, .slice none 0 0] 35 (0, 0))) := blk_next B1_0.out (Below.refl _ _) g (by omega)
   clear h g B1_0
   have rh := B2_0.out
   have r0 : W2.cell? ⟨w.heap.size, 0, none⟩ = some (.int .i64 0) := by simp [World.cell?, rh]
   have r1 : W2.cell? ⟨w.heap.size, 1, none⟩ = some (.int .i64 0) := by simp [World.cell?, rh]
   have r2 : W2.cell? ⟨w.heap.size, 2, none⟩ = some (.string ⟨#[]⟩) := by simp [World.cell?, rh]
   have r3 : W2.cell? ⟨w.heap.size, 3, none⟩ = some (.slice none 0 0) := by simp [World.cell?, rh]
   have r4 : W2.cell? ⟨w.heap.size, 4, none⟩ = some (.slice none 0 0) := by simp [World.cell?, rh]
   have r5 : W2.cell? ⟨w.heap.size, 5, none⟩ = some (.slice none 0 0) := by simp [World.cell?, rh]
   have rf : ∀ i, W2.frozen? ⟨w.heap.size, i, none⟩ = false := fun i => by simp [World.frozen?, rh]
   have rl : w.heap.size < W2.heap.size := lt_of_block rh
   clear rh
   go_wp2_with fail
   obtain ⟨y0, y1, y2, y3, y4, y5⟩ := six7_cell (a := .int .i64 2) (b := .int .i64 0) (c := .string ⟨#[]⟩) (d := .slice none 0 0) (e := .slice none 0 0) (f := .slice none 0 0) B2_0.out
   have hsz9 : (six7 W2 w.heap.size (.int .i64 2) (.int .i64 0) (.string ⟨#[]⟩) (.slice none 0 0) (.slice none 0 0) (.slice none 0 0)).heap.size = W2.heap.size := six7_size
   have f1 : PAt (six7 W2 w.heap.size (.int .i64 2) (.int .i64 0) (.string ⟨#[]⟩) (.slice none 0 0) (.slice none 0 0) (.slice none 0 0)) pb (((t :: l)).tail) d := six_pat H2.out (by omega)
   have f2 : w.grownBy (six7 W2 w.heap.size (.int .i64 2) (.int .i64 0) (.string ⟨#[]⟩) (.slice none 0 0) (.slice none 0 0) (.slice none 0 0)) (some pb) := six_gr (G2.out) (by omega)
   obtain ⟨WF, hWF⟩ : ∃ WF, six7 W2 w.heap.size (.int .i64 2) (.int .i64 0) (.string ⟨#[]⟩) (.slice none 0 0) (.slice none 0 0) (.slice none 0 0) = WF := ⟨_, rfl⟩
   rw [hWF] at y0 y1 y2 y3 y4 y5 hsz9 f1 f2
   unfold six7 at hWF
   rw [hWF]
   clear hWF
   have f4 : Lie (XE (mkE 2 []) (.slice none 0 0) (.slice none 0 0) (.slice none 0 0)) w.heap.size WF.heap.size WF := leaf_lie (by omega) (Nat.le_refl _) (by decide) (by decide) (by first | decide | omega) (by first | decide | omega)
   have HF := Lib.hid f4
   clear f4 
   refine bodyPost_ret (v := exV (mkE 2 []) (.slice none 0 0) (.slice none 0 0) (.slice none 0 0)) (by simp [results, Tryz.results218, go_sem, exV, textE, mkE, y0, y1, y2, y3, y4, y5, hsz9]) rfl (ret_ok (x := (mkE 2 [])) (by simp only [pThing, hd0, List.headD_cons, List.tail_cons, textE, mkE, HK2.out, HK3.out, D1.out, D2.out, PR.bind, ↓reduceIte, Bool.false_eq_true]) ⟨_, _, _, rfl, HF.out⟩ f1 f2)
  ·rw [hi] at h ⊢
   rw [if_neg (by simp)] at h
   have D2 := Lib.hid hi
   clear hi
   have H2 := Lib.hid h
   have G2 : Hid (w.grownBy W2 (some pb)) := gr_trans (G1.out) g
   have hs2 : w.heap.size ≤ W2.heap.size := G2.out.size
   have hm2 : W1.heap.size + 0 ≤ W2.heap.size := by have := g.size; simpa using this
   have B2_0 : Hid (W2.heap[w.heap.size]? = some (.cells #[.int .i64 0, .int .i64 0, .string ⟨#[]⟩, .slice none 0 0, .slice none 0 0, .slice none 0 0] 35 (0, 0))) := blk_next B1_0.out (Below.refl _ _) g (by omega)
   clear h g B1_0
   go_wp2_with fail
   refine (met_any H2.out HGD.out 1 (by decide) wFalse).mono ?_
   rintro en W3 ⟨rfl, h, g⟩
   rcases tf (isT 1 wFalse ((t :: l))) with hi | hi
   ·rw [hi] at h ⊢
    rw [if_pos rfl] at h
    have D3 := Lib.hid hi
    have K3 : Hid (GoodT ((t :: l)).tail) := (keep_tail HGD.out (isT_kind hi) (by decide)).1
    clear hi
    have H3 := Lib.hid h
    have G3 : Hid (w.grownBy W3 (some pb)) := gr_trans (G2.out) g
    have hs3 : w.heap.size ≤ W3.heap.size := G3.out.size
    have hm3 : W2.heap.size + 0 ≤ W3.heap.size := by have := g.size; simpa using this
    have B3_0 : Hid (W3.heap[w.heap.size]? = some (.cells #[.int .i64 0, .int .i64 0, .string ⟨#[]⟩, .slice none 0 0, .slice none 0 0, .slice none 0 0] 35 (0, 0))) := blk_next B2_0.out (Below.refl _ _) g (by omega)
    clear h g B2_0
    have rh := B3_0.out
    have r0 : W3.cell? ⟨w.heap.size, 0, none⟩ = some (.int .i64 0) := by simp [World.cell?, rh]
    have r1 : W3.cell? ⟨w.heap.size, 1, none⟩ = some (.int .i64 0) := by simp [World.cell?, rh]
    have r2 : W3.cell? ⟨w.heap.size, 2, none⟩ = some (.string ⟨#[]⟩) := by simp [World.cell?, rh]
    have r3 : W3.cell? ⟨w.heap.size, 3, none⟩ = some (.slice none 0 0) := by simp [World.cell?, rh]
    have r4 : W3.cell? ⟨w.heap.size, 4, none⟩ = some (.slice none 0 0) := by simp [World.cell?, rh]
    have r5 : W3.cell? ⟨w.heap.size, 5, none⟩ = some (.slice none 0 0) := by simp [World.cell?, rh]
    have rf : ∀ i, W3.frozen? ⟨w.heap.size, i, none⟩ = false := fun i => by simp [World.frozen?, rh]
    have rl : w.heap.size < W3.heap.size := lt_of_block rh
    clear rh
    go_wp2_with fail
    obtain ⟨y0, y1, y2, y3, y4, y5⟩ := six7_cell (a := .int .i64 1) (b := .int .i64 0) (c := .string ⟨#[]⟩) (d := .slice none 0 0) (e := .slice none 0 0) (f := .slice none 0 0) B3_0.out
    have hsz9 : (six7 W3 w.heap.size (.int .i64 1) (.int .i64 0) (.string ⟨#[]⟩) (.slice none 0 0) (.slice none 0 0) (.slice none 0 0)).heap.size = W3.heap.size := six7_size
    have f1 : PAt (six7 W3 w.heap.size (.int .i64 1) (.int .i64 0) (.string ⟨#[]⟩) (.slice none 0 0) (.slice none 0 0) (.slice none 0 0)) pb (((t :: l)).tail) d := six_pat H3.out (by omega)
    have f2 : w.grownBy (six7 W3 w.heap.size (.int .i64 1) (.int .i64 0) (.string ⟨#[]⟩) (.slice none 0 0) (.slice none 0 0) (.slice none 0 0)) (some pb) := six_gr (G3.out) (by omega)
    obtain ⟨WF, hWF⟩ : ∃ WF, six7 W3 w.heap.size (.int .i64 1) (.int .i64 0) (.string ⟨#[]⟩) (.slice none 0 0) (.slice none 0 0) (.slice none 0 0) = WF := ⟨_, rfl⟩
    rw [hWF] at y0 y1 y2 y3 y4 y5 hsz9 f1 f2
    unfold six7 at hWF
    rw [hWF]
    clear hWF
    have f4 : Lie (XE (mkE 1 []) (.slice none 0 0) (.slice none 0 0) (.slice none 0 0)) w.heap.size WF.heap.size WF := leaf_lie (by omega) (Nat.le_refl _) (by decide) (by decide) (by first | decide | omega) (by first | decide | omega)
    have HF := Lib.hid f4
    clear f4 
    refine bodyPost_ret (v := exV (mkE 1 []) (.slice none 0 0) (.slice none 0 0) (.slice none 0 0)) (by simp [results, Tryz.results218, go_sem, exV, textE, mkE, y0, y1, y2, y3, y4, y5, hsz9]) rfl (ret_ok (x := (mkE 1 [])) (by simp only [pThing, hd0, List.headD_cons, List.tail_cons, textE, mkE, HK2.out, HK3.out, D1.out, D2.out, D3.out, PR.bind, ↓reduceIte, Bool.false_eq_true]) ⟨_, _, _, rfl, HF.out⟩ f1 f2)
   ·rw [hi] at h ⊢
    rw [if_neg (by simp)] at h
    have D3 := Lib.hid hi
    clear hi
    have H3 := Lib.hid h
    have G3 : Hid (w.grownBy W3 (some pb)) := gr_trans (G2.out) g
    have hs3 : w.heap.size ≤ W3.heap.size := G3.out.size
    have hm3 : W2.heap.size + 0 ≤ W3.heap.size := by have := g.size; simpa using this
    have B3_0 : Hid (W3.heap[w.heap.size]? = some (.cells #[.int .i64 0, .int .i64 0, .string ⟨#[]⟩, .slice none 0 0, .slice none 0 0, .slice none 0 0] 35 (0, 0))) := blk_next B2_0.out (Below.refl _ _) g (by omega)
    clear h g B2_0
    go_wp2_with fail
    refine (met_any H3.out HGD.out 1 (by decide) wFn).mono ?_
    rintro en W4 ⟨rfl, h, g⟩
    rcases tf (isT 1 wFn ((t :: l))) with hi | hi
    ·rw [hi] at h ⊢
     rw [if_pos rfl] at h
     have D4 := Lib.hid hi
     have K4 : Hid (GoodT ((t :: l)).tail) := (keep_tail HGD.out (isT_kind hi) (by decide)).1
     clear hi
     have H4 := Lib.hid h
     have G4 : Hid (w.grownBy W4 (some pb)) := gr_trans (G3.out) g
     have hs4 : w.heap.size ≤ W4.heap.size := G4.out.size
     have hm4 : W3.heap.size + 0 ≤ W4.heap.size := by have := g.size; simpa using this
     have B4_0 : Hid (W4.heap[w.heap.size]? = some (.cells #[.int .i64 0, .int .i64 0, .string ⟨#[]⟩, .slice none 0 0, .slice none 0 0, .slice none 0 0] 35 (0, 0))) := blk_next B3_0.out (Below.refl _ _) g (by omega)
     clear h g B3_0
     go_wp2_with fail
     refine (hF _ l H4.out K4.out).mono ?_
     rintro en W5 hR
     cases hx : pFunction B l with
     | bad a e =>
      rw [hx] at hR
      obtain ⟨rfl, hb⟩ := hR
      exact ⟨rfl, ret_bad (by simp only [pThing, hd0, List.headD_cons, List.tail_cons, textE, mkE, HK2.out, HK3.out, D1.out, D2.out, D3.out, D4.out, hx, PR.bind, ↓reduceIte, Bool.false_eq_true]) ((grown_to_below (G4.out) (Nat.le_of_lt hpl)).trans hb)⟩
     | ok x5 ts5 =>
      rw [hx] at hR
      have K5 : Hid (GoodT ts5) := ((eats_function hB) _ K4.out _ _ hx).1
      obtain ⟨⟨va, vb, vc, rfl, hL⟩, h, g⟩ := hR
      obtain ⟨op5, num5, text5, ps5, pm5, bd5⟩ := x5
      obtain ⟨pa5, pc5, na5, nc5, ba5, bc5, rfl, rfl, rfl⟩ := hL.at'.slices
      have X5 := Lib.hid hx
      clear hx
      have hL2 := Lib.hid hL
      clear hL
      have H5 := Lib.hid h
      have G5 : Hid (w.grownBy W5 (some pb)) := gr_trans (G4.out) g
      have hs5 : w.heap.size ≤ W5.heap.size := G5.out.size
      have hm5 : W4.heap.size + 0 ≤ W5.heap.size := by have := g.size; simpa using this
      have B5_0 : Hid (W5.heap[w.heap.size]? = some (.cells #[.int .i64 0, .int .i64 0, .string ⟨#[]⟩, .slice none 0 0, .slice none 0 0, .slice none 0 0] 35 (0, 0))) := blk_next B4_0.out (Below.refl _ _) g (by omega)
      clear h g B4_0
      have L5_0 : Hid (Lie (XE (.mk op5 num5 text5 ps5 pm5 bd5) (.slice pa5 ps5.length pc5) (.slice na5 pm5.length nc5) (.slice ba5 bd5.length bc5)) (W4.heap.size) W5.heap.size W5) := hL2
      clear hL2
      unfold exV
      have rh := B5_0.out
      have r0 : W5.cell? ⟨w.heap.size, 0, none⟩ = some (.int .i64 0) := by simp [World.cell?, rh]
      have r1 : W5.cell? ⟨w.heap.size, 1, none⟩ = some (.int .i64 0) := by simp [World.cell?, rh]
      have r2 : W5.cell? ⟨w.heap.size, 2, none⟩ = some (.string ⟨#[]⟩) := by simp [World.cell?, rh]
      have r3 : W5.cell? ⟨w.heap.size, 3, none⟩ = some (.slice none 0 0) := by simp [World.cell?, rh]
      have r4 : W5.cell? ⟨w.heap.size, 4, none⟩ = some (.slice none 0 0) := by simp [World.cell?, rh]
      have r5 : W5.cell? ⟨w.heap.size, 5, none⟩ = some (.slice none 0 0) := by simp [World.cell?, rh]
      have rf : ∀ i, W5.frozen? ⟨w.heap.size, i, none⟩ = false := fun i => by simp [World.frozen?, rh]
      have rl : w.heap.size < W5.heap.size := lt_of_block rh
      clear rh
      go_wp2_with fail
      obtain ⟨y0, y1, y2, y3, y4, y5⟩ := six7_cell (a := .int .i64 (op5 : Int)) (b := .int .i64 num5) (c := .string text5) (d := .slice pa5 ps5.length pc5) (e := .slice na5 pm5.length nc5) (f := .slice ba5 bd5.length bc5) B5_0.out
      have hsz9 : (six7 W5 w.heap.size (.int .i64 (op5 : Int)) (.int .i64 num5) (.string text5) (.slice pa5 ps5.length pc5) (.slice na5 pm5.length nc5) (.slice ba5 bd5.length bc5)).heap.size = W5.heap.size := six7_size
      have f1 : PAt (six7 W5 w.heap.size (.int .i64 (op5 : Int)) (.int .i64 num5) (.string text5) (.slice pa5 ps5.length pc5) (.slice na5 pm5.length nc5) (.slice ba5 bd5.length bc5)) pb ts5 d := six_pat H5.out (by omega)
      have f2 : w.grownBy (six7 W5 w.heap.size (.int .i64 (op5 : Int)) (.int .i64 num5) (.string text5) (.slice pa5 ps5.length pc5) (.slice na5 pm5.length nc5) (.slice ba5 bd5.length bc5)) (some pb) := six_gr (G5.out) (by omega)
      have f3_0 : Lie (XE (.mk op5 num5 text5 ps5 pm5 bd5) (.slice pa5 ps5.length pc5) (.slice na5 pm5.length nc5) (.slice ba5 bd5.length bc5)) (W4.heap.size) W5.heap.size (six7 W5 w.heap.size (.int .i64 (op5 : Int)) (.int .i64 num5) (.string text5) (.slice pa5 ps5.length pc5) (.slice na5 pm5.length nc5) (.slice ba5 bd5.length bc5)) := six_lie L5_0.out (by omega)
      obtain ⟨WF, hWF⟩ : ∃ WF, six7 W5 w.heap.size (.int .i64 (op5 : Int)) (.int .i64 num5) (.string text5) (.slice pa5 ps5.length pc5) (.slice na5 pm5.length nc5) (.slice ba5 bd5.length bc5) = WF := ⟨_, rfl⟩
      rw [hWF] at y0 y1 y2 y3 y4 y5 hsz9 f1 f2 f3_0
      unfold six7 at hWF
      rw [hWF]
      clear hWF
      have f4 := f3_0.wider (s' := w.heap.size) (e' := WF.heap.size) (by omega) f3_0.lt (Nat.le_refl _)
      have HF := Lib.hid f4
      clear f4 f3_0
      refine bodyPost_ret (v := exV (.mk op5 num5 text5 ps5 pm5 bd5) (.slice pa5 ps5.length pc5) (.slice na5 pm5.length nc5) (.slice ba5 bd5.length bc5)) (by simp [results, Tryz.results218, go_sem, exV, y0, y1, y2, y3, y4, y5, hsz9]) rfl (ret_ok (x := (.mk op5 num5 text5 ps5 pm5 bd5)) (by simp only [pThing, hd0, List.headD_cons, List.tail_cons, textE, mkE, HK2.out, HK3.out, D1.out, D2.out, D3.out, D4.out, X5.out, PR.bind, ↓reduceIte, Bool.false_eq_true]) ⟨_, _, _, rfl, HF.out⟩ f1 f2)
    ·rw [hi] at h ⊢
     rw [if_neg (by simp)] at h
     have D4 := Lib.hid hi
     clear hi
     have H4 := Lib.hid h
     have G4 : Hid (w.grownBy W4 (some pb)) := gr_trans (G3.out) g
     have hs4 : w.heap.size ≤ W4.heap.size := G4.out.size
     have hm4 : W3.heap.size + 0 ≤ W4.heap.size := by have := g.size; simpa using this
     have B4_0 : Hid (W4.heap[w.heap.size]? = some (.cells #[.int .i64 0, .int .i64 0, .string ⟨#[]⟩, .slice none 0 0, .slice none 0 0, .slice none 0 0] 35 (0, 0))) := blk_next B3_0.out (Below.refl _ _) g (by omega)
     clear h g B3_0
     go_wp2_with fail
     refine (met_any H4.out HGD.out 4 (by decide) sLP).mono ?_
     rintro en W6 ⟨rfl, h, g⟩
     rcases tf (isT 4 sLP ((t :: l))) with hi | hi
     ·rw [hi] at h ⊢
      rw [if_pos rfl] at h
      have D6 := Lib.hid hi
      have K6 : Hid (GoodT ((t :: l)).tail) := (keep_tail HGD.out (isT_kind hi) (by decide)).1
      clear hi
      have H6 := Lib.hid h
      have G6 : Hid (w.grownBy W6 (some pb)) := gr_trans (G4.out) g
      have hs6 : w.heap.size ≤ W6.heap.size := G6.out.size
      have hm6 : W4.heap.size + 0 ≤ W6.heap.size := by have := g.size; simpa using this
      have B6_0 : Hid (W6.heap[w.heap.size]? = some (.cells #[.int .i64 0, .int .i64 0, .string ⟨#[]⟩, .slice none 0 0, .slice none 0 0, .slice none 0 0] 35 (0, 0))) := blk_next B4_0.out (Below.refl _ _) g (by omega)
      clear h g B4_0
      go_wp2_with fail
      refine (hO _ l H6.out K6.out).mono ?_
      rintro en W7 hR
      cases hx : E l with
      | bad a e =>
       rw [hx] at hR
       obtain ⟨rfl, hb⟩ := hR
       exact ⟨rfl, ret_bad (by simp only [pThing, hd0, List.headD_cons, List.tail_cons, textE, mkE, pParen, HK2.out, HK3.out, D1.out, D2.out, D3.out, D4.out, D6.out, hx, PR.bind, ↓reduceIte, Bool.false_eq_true]) ((grown_to_below (G6.out) (Nat.le_of_lt hpl)).trans hb)⟩
      | ok x7 ts7 =>
       rw [hx] at hR
       have K7 : Hid (GoodT ts7) := (hE _ K6.out _ _ hx).1
       obtain ⟨⟨va, vb, vc, rfl, hL⟩, h, g⟩ := hR
       obtain ⟨op7, num7, text7, ps7, pm7, bd7⟩ := x7
       obtain ⟨pa7, pc7, na7, nc7, ba7, bc7, rfl, rfl, rfl⟩ := hL.at'.slices
       have X7 := Lib.hid hx
       clear hx
       have hL2 := Lib.hid hL
       clear hL
       have H7 := Lib.hid h
       have G7 : Hid (w.grownBy W7 (some pb)) := gr_trans (G6.out) g
       have hs7 : w.heap.size ≤ W7.heap.size := G7.out.size
       have hm7 : W6.heap.size + 0 ≤ W7.heap.size := by have := g.size; simpa using this
       have B7_0 : Hid (W7.heap[w.heap.size]? = some (.cells #[.int .i64 0, .int .i64 0, .string ⟨#[]⟩, .slice none 0 0, .slice none 0 0, .slice none 0 0] 35 (0, 0))) := blk_next B6_0.out (Below.refl _ _) g (by omega)
       clear h g B6_0
       have L7_0 : Hid (Lie (XE (.mk op7 num7 text7 ps7 pm7 bd7) (.slice pa7 ps7.length pc7) (.slice na7 pm7.length nc7) (.slice ba7 bd7.length bc7)) (W6.heap.size) W7.heap.size W7) := hL2
       clear hL2
       unfold exV
       go_wp2_with fail
       refine (psign_any (H7.out.alloc _) K7.out sRP).mono ?_
       rintro en W8 hR
       cases hx : pSign sRP ts7 with
       | bad a e =>
        rw [hx] at hR
        obtain ⟨rfl, hb⟩ := hR
        exact ⟨rfl, ret_bad (by simp only [pThing, hd0, List.headD_cons, List.tail_cons, textE, mkE, pParen, HK2.out, HK3.out, D1.out, D2.out, D3.out, D4.out, D6.out, X7.out, hx, PR.bind, ↓reduceIte, Bool.false_eq_true]) ((grown_to_below (gr_alloc (G7.out) _) (Nat.le_of_lt hpl)).trans hb)⟩
       | ok x8 ts8 =>
        rw [hx] at hR
        have K8 : Hid (GoodT ts8) := ((eats_sign sRP) _ K7.out _ _ hx).1
        obtain ⟨hv, h, g⟩ := hR
        have hv2 : en = .returned (.tuple #[]) := hv
        subst hv2
        clear hv
        have X8 := Lib.hid hx
        clear hx
        have H8 := Lib.hid h
        have G8 : Hid (w.grownBy W8 (some pb)) := gr_trans (gr_alloc (G7.out) _) g
        have hs8 : w.heap.size ≤ W8.heap.size := G8.out.size
        have hm8 : W7.heap.size + 1 ≤ W8.heap.size := by have := g.size; simpa using this
        have B8_0 : Hid (W8.heap[w.heap.size]? = some (.cells #[.int .i64 0, .int .i64 0, .string ⟨#[]⟩, .slice none 0 0, .slice none 0 0, .slice none 0 0] 35 (0, 0))) := blk_next B7_0.out ((Below.refl _ _).alloc (Nat.le_refl _) _) g (by omega)
        have B8_1 : Hid (W8.heap[W7.heap.size]? = some (.cells #[.int .i64 (op7 : Int), .int .i64 num7, .string text7, .slice pa7 ps7.length pc7, .slice na7 pm7.length nc7, .slice ba7 bd7.length bc7] 35 (0, 0))) := blk_new g (by omega)
        have L8_0 : Hid (Lie (XE (.mk op7 num7 text7 ps7 pm7 bd7) (.slice pa7 ps7.length pc7) (.slice na7 pm7.length nc7) (.slice ba7 bd7.length bc7)) (W6.heap.size) W7.heap.size W8) := ((L7_0.out.alloc _)).gr g (by omega)
        clear h g B7_0 L7_0
        have rh := B8_0.out
        have r0 : W8.cell? ⟨w.heap.size, 0, none⟩ = some (.int .i64 0) := by simp [World.cell?, rh]
        have r1 : W8.cell? ⟨w.heap.size, 1, none⟩ = some (.int .i64 0) := by simp [World.cell?, rh]
        have r2 : W8.cell? ⟨w.heap.size, 2, none⟩ = some (.string ⟨#[]⟩) := by simp [World.cell?, rh]
        have r3 : W8.cell? ⟨w.heap.size, 3, none⟩ = some (.slice none 0 0) := by simp [World.cell?, rh]
        have r4 : W8.cell? ⟨w.heap.size, 4, none⟩ = some (.slice none 0 0) := by simp [World.cell?, rh]
        have r5 : W8.cell? ⟨w.heap.size, 5, none⟩ = some (.slice none 0 0) := by simp [World.cell?, rh]
        have rf : ∀ i, W8.frozen? ⟨w.heap.size, i, none⟩ = false := fun i => by simp [World.frozen?, rh]
        have rl : w.heap.size < W8.heap.size := lt_of_block rh
        clear rh
        have qh := B8_1.out
        have q0 : W8.cell? ⟨W7.heap.size, 0, none⟩ = some (.int .i64 (op7 : Int)) := by simp [World.cell?, qh]
        have q1 : W8.cell? ⟨W7.heap.size, 1, none⟩ = some (.int .i64 num7) := by simp [World.cell?, qh]
        have q2 : W8.cell? ⟨W7.heap.size, 2, none⟩ = some (.string text7) := by simp [World.cell?, qh]
        have q3 : W8.cell? ⟨W7.heap.size, 3, none⟩ = some (.slice pa7 ps7.length pc7) := by simp [World.cell?, qh]
        have q4 : W8.cell? ⟨W7.heap.size, 4, none⟩ = some (.slice na7 pm7.length nc7) := by simp [World.cell?, qh]
        have q5 : W8.cell? ⟨W7.heap.size, 5, none⟩ = some (.slice ba7 bd7.length bc7) := by simp [World.cell?, qh]
        have qf : ∀ i, W8.frozen? ⟨W7.heap.size, i, none⟩ = false := fun i => by simp [World.frozen?, qh]
        have ql : W7.heap.size < W8.heap.size := lt_of_block qh
        clear qh
        go_wp2_with fail
        obtain ⟨y0, y1, y2, y3, y4, y5⟩ := six7_cell (a := .int .i64 (op7 : Int)) (b := .int .i64 num7) (c := .string text7) (d := .slice pa7 ps7.length pc7) (e := .slice na7 pm7.length nc7) (f := .slice ba7 bd7.length bc7) B8_0.out
        have hsz9 : (six7 W8 w.heap.size (.int .i64 (op7 : Int)) (.int .i64 num7) (.string text7) (.slice pa7 ps7.length pc7) (.slice na7 pm7.length nc7) (.slice ba7 bd7.length bc7)).heap.size = W8.heap.size := six7_size
        have f1 : PAt (six7 W8 w.heap.size (.int .i64 (op7 : Int)) (.int .i64 num7) (.string text7) (.slice pa7 ps7.length pc7) (.slice na7 pm7.length nc7) (.slice ba7 bd7.length bc7)) pb ts8 d := six_pat H8.out (by omega)
        have f2 : w.grownBy (six7 W8 w.heap.size (.int .i64 (op7 : Int)) (.int .i64 num7) (.string text7) (.slice pa7 ps7.length pc7) (.slice na7 pm7.length nc7) (.slice ba7 bd7.length bc7)) (some pb) := six_gr (G8.out) (by omega)
        have f3_0 : Lie (XE (.mk op7 num7 text7 ps7 pm7 bd7) (.slice pa7 ps7.length pc7) (.slice na7 pm7.length nc7) (.slice ba7 bd7.length bc7)) (W6.heap.size) W7.heap.size (six7 W8 w.heap.size (.int .i64 (op7 : Int)) (.int .i64 num7) (.string text7) (.slice pa7 ps7.length pc7) (.slice na7 pm7.length nc7) (.slice ba7 bd7.length bc7)) := six_lie L8_0.out (by omega)
        have f5_1 : (six7 W8 w.heap.size (.int .i64 (op7 : Int)) (.int .i64 num7) (.string text7) (.slice pa7 ps7.length pc7) (.slice na7 pm7.length nc7) (.slice ba7 bd7.length bc7)).heap[W7.heap.size]? = some (.cells #[.int .i64 (op7 : Int), .int .i64 num7, .string text7, .slice pa7 ps7.length pc7, .slice na7 pm7.length nc7, .slice ba7 bd7.length bc7] 35 (0, 0)) := (six7_other (by omega)).trans B8_1.out
        obtain ⟨WF, hWF⟩ : ∃ WF, six7 W8 w.heap.size (.int .i64 (op7 : Int)) (.int .i64 num7) (.string text7) (.slice pa7 ps7.length pc7) (.slice na7 pm7.length nc7) (.slice ba7 bd7.length bc7) = WF := ⟨_, rfl⟩
        rw [hWF] at y0 y1 y2 y3 y4 y5 hsz9 f1 f2 f3_0 f5_1
        unfold six7 at hWF
        rw [hWF]
        clear hWF
        have f4 := f3_0.wider (s' := w.heap.size) (e' := WF.heap.size) (by omega) f3_0.lt (Nat.le_refl _)
        have HF := Lib.hid f4
        clear f4 f3_0 f5_1
        refine bodyPost_ret (v := exV (.mk op7 num7 text7 ps7 pm7 bd7) (.slice pa7 ps7.length pc7) (.slice na7 pm7.length nc7) (.slice ba7 bd7.length bc7)) (by simp [results, Tryz.results218, go_sem, exV, y0, y1, y2, y3, y4, y5, hsz9]) rfl (ret_ok (x := (.mk op7 num7 text7 ps7 pm7 bd7)) (by simp only [pThing, hd0, List.headD_cons, List.tail_cons, textE, mkE, pParen, HK2.out, HK3.out, D1.out, D2.out, D3.out, D4.out, D6.out, X7.out, X8.out, PR.bind, ↓reduceIte, Bool.false_eq_true]) ⟨_, _, _, rfl, HF.out⟩ f1 f2)
     ·rw [hi] at h ⊢
      rw [if_neg (by simp)] at h
      have D6 := Lib.hid hi
      clear hi
      have H6 := Lib.hid h
      have G6 : Hid (w.grownBy W6 (some pb)) := gr_trans (G4.out) g
      have hs6 : w.heap.size ≤ W6.heap.size := G6.out.size
      have hm6 : W4.heap.size + 0 ≤ W6.heap.size := by have := g.size; simpa using this
      have B6_0 : Hid (W6.heap[w.heap.size]? = some (.cells #[.int .i64 0, .int .i64 0, .string ⟨#[]⟩, .slice none 0 0, .slice none 0 0, .slice none 0 0] 35 (0, 0))) := blk_next B4_0.out (Below.refl _ _) g (by omega)
      clear h g B4_0
      go_wp2_with fail
      refine (met_any H6.out HGD.out 4 (by decide) sLB).mono ?_
      rintro en W9 ⟨rfl, h, g⟩
      rcases tf (isT 4 sLB ((t :: l))) with hi | hi
      ·rw [hi] at h ⊢
       rw [if_pos rfl] at h
       have D9 := Lib.hid hi
       have K9 : Hid (GoodT ((t :: l)).tail) := (keep_tail HGD.out (isT_kind hi) (by decide)).1
       clear hi
       have H9 := Lib.hid h
       have G9 : Hid (w.grownBy W9 (some pb)) := gr_trans (G6.out) g
       have hs9 : w.heap.size ≤ W9.heap.size := G9.out.size
       have hm9 : W6.heap.size + 0 ≤ W9.heap.size := by have := g.size; simpa using this
       have B9_0 : Hid (W9.heap[w.heap.size]? = some (.cells #[.int .i64 0, .int .i64 0, .string ⟨#[]⟩, .slice none 0 0, .slice none 0 0, .slice none 0 0] 35 (0, 0))) := blk_next B6_0.out (Below.refl _ _) g (by omega)
       clear h g B6_0
       go_wp2_with fail
       refine (hR0 _ l H9.out K9.out).mono ?_
       rintro en W10 hR
       cases hx : pRecord E l with
       | bad a e =>
        rw [hx] at hR
        obtain ⟨rfl, hb⟩ := hR
        exact ⟨rfl, ret_bad (by simp only [pThing, hd0, List.headD_cons, List.tail_cons, textE, mkE, HK2.out, HK3.out, D1.out, D2.out, D3.out, D4.out, D6.out, D9.out, hx, PR.bind, ↓reduceIte, Bool.false_eq_true]) ((grown_to_below (G9.out) (Nat.le_of_lt hpl)).trans hb)⟩
       | ok x10 ts10 =>
        rw [hx] at hR
        have K10 : Hid (GoodT ts10) := ((eats_record hE) _ K9.out _ _ hx).1
        obtain ⟨⟨va, vb, vc, rfl, hL⟩, h, g⟩ := hR
        obtain ⟨op10, num10, text10, ps10, pm10, bd10⟩ := x10
        obtain ⟨pa10, pc10, na10, nc10, ba10, bc10, rfl, rfl, rfl⟩ := hL.at'.slices
        have X10 := Lib.hid hx
        clear hx
        have hL2 := Lib.hid hL
        clear hL
        have H10 := Lib.hid h
        have G10 : Hid (w.grownBy W10 (some pb)) := gr_trans (G9.out) g
        have hs10 : w.heap.size ≤ W10.heap.size := G10.out.size
        have hm10 : W9.heap.size + 0 ≤ W10.heap.size := by have := g.size; simpa using this
        have B10_0 : Hid (W10.heap[w.heap.size]? = some (.cells #[.int .i64 0, .int .i64 0, .string ⟨#[]⟩, .slice none 0 0, .slice none 0 0, .slice none 0 0] 35 (0, 0))) := blk_next B9_0.out (Below.refl _ _) g (by omega)
        clear h g B9_0
        have L10_0 : Hid (Lie (XE (.mk op10 num10 text10 ps10 pm10 bd10) (.slice pa10 ps10.length pc10) (.slice na10 pm10.length nc10) (.slice ba10 bd10.length bc10)) (W9.heap.size) W10.heap.size W10) := hL2
        clear hL2
        unfold exV
        have rh := B10_0.out
        have r0 : W10.cell? ⟨w.heap.size, 0, none⟩ = some (.int .i64 0) := by simp [World.cell?, rh]
        have r1 : W10.cell? ⟨w.heap.size, 1, none⟩ = some (.int .i64 0) := by simp [World.cell?, rh]
        have r2 : W10.cell? ⟨w.heap.size, 2, none⟩ = some (.string ⟨#[]⟩) := by simp [World.cell?, rh]
        have r3 : W10.cell? ⟨w.heap.size, 3, none⟩ = some (.slice none 0 0) := by simp [World.cell?, rh]
        have r4 : W10.cell? ⟨w.heap.size, 4, none⟩ = some (.slice none 0 0) := by simp [World.cell?, rh]
        have r5 : W10.cell? ⟨w.heap.size, 5, none⟩ = some (.slice none 0 0) := by simp [World.cell?, rh]
        have rf : ∀ i, W10.frozen? ⟨w.heap.size, i, none⟩ = false := fun i => by simp [World.frozen?, rh]
        have rl : w.heap.size < W10.heap.size := lt_of_block rh
        clear rh
        go_wp2_with fail
        obtain ⟨y0, y1, y2, y3, y4, y5⟩ := six7_cell (a := .int .i64 (op10 : Int)) (b := .int .i64 num10) (c := .string text10) (d := .slice pa10 ps10.length pc10) (e := .slice na10 pm10.length nc10) (f := .slice ba10 bd10.length bc10) B10_0.out
        have hsz9 : (six7 W10 w.heap.size (.int .i64 (op10 : Int)) (.int .i64 num10) (.string text10) (.slice pa10 ps10.length pc10) (.slice na10 pm10.length nc10) (.slice ba10 bd10.length bc10)).heap.size = W10.heap.size := six7_size
        have f1 : PAt (six7 W10 w.heap.size (.int .i64 (op10 : Int)) (.int .i64 num10) (.string text10) (.slice pa10 ps10.length pc10) (.slice na10 pm10.length nc10) (.slice ba10 bd10.length bc10)) pb ts10 d := six_pat H10.out (by omega)
        have f2 : w.grownBy (six7 W10 w.heap.size (.int .i64 (op10 : Int)) (.int .i64 num10) (.string text10) (.slice pa10 ps10.length pc10) (.slice na10 pm10.length nc10) (.slice ba10 bd10.length bc10)) (some pb) := six_gr (G10.out) (by omega)
        have f3_0 : Lie (XE (.mk op10 num10 text10 ps10 pm10 bd10) (.slice pa10 ps10.length pc10) (.slice na10 pm10.length nc10) (.slice ba10 bd10.length bc10)) (W9.heap.size) W10.heap.size (six7 W10 w.heap.size (.int .i64 (op10 : Int)) (.int .i64 num10) (.string text10) (.slice pa10 ps10.length pc10) (.slice na10 pm10.length nc10) (.slice ba10 bd10.length bc10)) := six_lie L10_0.out (by omega)
        obtain ⟨WF, hWF⟩ : ∃ WF, six7 W10 w.heap.size (.int .i64 (op10 : Int)) (.int .i64 num10) (.string text10) (.slice pa10 ps10.length pc10) (.slice na10 pm10.length nc10) (.slice ba10 bd10.length bc10) = WF := ⟨_, rfl⟩
        rw [hWF] at y0 y1 y2 y3 y4 y5 hsz9 f1 f2 f3_0
        unfold six7 at hWF
        rw [hWF]
        clear hWF
        have f4 := f3_0.wider (s' := w.heap.size) (e' := WF.heap.size) (by omega) f3_0.lt (Nat.le_refl _)
        have HF := Lib.hid f4
        clear f4 f3_0
        refine bodyPost_ret (v := exV (.mk op10 num10 text10 ps10 pm10 bd10) (.slice pa10 ps10.length pc10) (.slice na10 pm10.length nc10) (.slice ba10 bd10.length bc10)) (by simp [results, Tryz.results218, go_sem, exV, y0, y1, y2, y3, y4, y5, hsz9]) rfl (ret_ok (x := (.mk op10 num10 text10 ps10 pm10 bd10)) (by simp only [pThing, hd0, List.headD_cons, List.tail_cons, textE, mkE, HK2.out, HK3.out, D1.out, D2.out, D3.out, D4.out, D6.out, D9.out, X10.out, PR.bind, ↓reduceIte, Bool.false_eq_true]) ⟨_, _, _, rfl, HF.out⟩ f1 f2)
      ·rw [hi] at h ⊢
       rw [if_neg (by simp)] at h
       have D9 := Lib.hid hi
       clear hi
       have H9 := Lib.hid h
       have G9 : Hid (w.grownBy W9 (some pb)) := gr_trans (G6.out) g
       have hs9 : w.heap.size ≤ W9.heap.size := G9.out.size
       have hm9 : W6.heap.size + 0 ≤ W9.heap.size := by have := g.size; simpa using this
       have B9_0 : Hid (W9.heap[w.heap.size]? = some (.cells #[.int .i64 0, .int .i64 0, .string ⟨#[]⟩, .slice none 0 0, .slice none 0 0, .slice none 0 0] 35 (0, 0))) := blk_next B6_0.out (Below.refl _ _) g (by omega)
       clear h g B6_0
       go_wp2_with fail
       have KL : Hid (Eats pName) := eats_name
       refine (name_p H9.out HGD.out).mono ?_
       rintro en W11 hR
       cases hx : pName (t :: l) with
       | bad a e =>
        rw [hx] at hR
        obtain ⟨rfl, hb⟩ := hR
        exact ⟨rfl, ret_bad (by simp only [pThing, hd0, List.headD_cons, List.tail_cons, textE, mkE, HK2.out, HK3.out, D1.out, D2.out, D3.out, D4.out, D6.out, D9.out, hx, PR.bind, ↓reduceIte, Bool.false_eq_true]) ((grown_to_below (G9.out) (Nat.le_of_lt hpl)).trans hb)⟩
       | ok x11 ts11 =>
        rw [hx] at hR
        have K11 : Hid (GoodT ts11) := (eats_name _ HGD.out _ _ hx).1
        obtain ⟨hv, h, g⟩ := hR
        have hv2 : en = .returned (.string x11) := hv
        subst hv2
        clear hv
        have X11 := Lib.hid hx
        clear hx
        have H11 := Lib.hid h
        have G11 : Hid (w.grownBy W11 (some pb)) := gr_trans (G9.out) g
        have hs11 : w.heap.size ≤ W11.heap.size := G11.out.size
        have hm11 : W9.heap.size + 0 ≤ W11.heap.size := by have := g.size; simpa using this
        have B11_0 : Hid (W11.heap[w.heap.size]? = some (.cells #[.int .i64 0, .int .i64 0, .string ⟨#[]⟩, .slice none 0 0, .slice none 0 0, .slice none 0 0] 35 (0, 0))) := blk_next B9_0.out (Below.refl _ _) g (by omega)
        clear h g B9_0
        have rh := B11_0.out
        have r0 : W11.cell? ⟨w.heap.size, 0, none⟩ = some (.int .i64 0) := by simp [World.cell?, rh]
        have r1 : W11.cell? ⟨w.heap.size, 1, none⟩ = some (.int .i64 0) := by simp [World.cell?, rh]
        have r2 : W11.cell? ⟨w.heap.size, 2, none⟩ = some (.string ⟨#[]⟩) := by simp [World.cell?, rh]
        have r3 : W11.cell? ⟨w.heap.size, 3, none⟩ = some (.slice none 0 0) := by simp [World.cell?, rh]
        have r4 : W11.cell? ⟨w.heap.size, 4, none⟩ = some (.slice none 0 0) := by simp [World.cell?, rh]
        have r5 : W11.cell? ⟨w.heap.size, 5, none⟩ = some (.slice none 0 0) := by simp [World.cell?, rh]
        have rf : ∀ i, W11.frozen? ⟨w.heap.size, i, none⟩ = false := fun i => by simp [World.frozen?, rh]
        have rl : w.heap.size < W11.heap.size := lt_of_block rh
        clear rh
        go_wp2_with fail
        obtain ⟨y0, y1, y2, y3, y4, y5⟩ := six7_cell (a := .int .i64 5) (b := .int .i64 0) (c := .string x11) (d := .slice none 0 0) (e := .slice none 0 0) (f := .slice none 0 0) B11_0.out
        have hsz9 : (six7 W11 w.heap.size (.int .i64 5) (.int .i64 0) (.string x11) (.slice none 0 0) (.slice none 0 0) (.slice none 0 0)).heap.size = W11.heap.size := six7_size
        have f1 : PAt (six7 W11 w.heap.size (.int .i64 5) (.int .i64 0) (.string x11) (.slice none 0 0) (.slice none 0 0) (.slice none 0 0)) pb ts11 d := six_pat H11.out (by omega)
        have f2 : w.grownBy (six7 W11 w.heap.size (.int .i64 5) (.int .i64 0) (.string x11) (.slice none 0 0) (.slice none 0 0) (.slice none 0 0)) (some pb) := six_gr (G11.out) (by omega)
        obtain ⟨WF, hWF⟩ : ∃ WF, six7 W11 w.heap.size (.int .i64 5) (.int .i64 0) (.string x11) (.slice none 0 0) (.slice none 0 0) (.slice none 0 0) = WF := ⟨_, rfl⟩
        rw [hWF] at y0 y1 y2 y3 y4 y5 hsz9 f1 f2
        unfold six7 at hWF
        rw [hWF]
        clear hWF
        have f4 : Lie (XE (.mk 5 0 x11 [] [] []) (.slice none 0 0) (.slice none 0 0) (.slice none 0 0)) w.heap.size WF.heap.size WF := leaf_lie (by omega) (Nat.le_refl _) (by decide) (by decide) (by first | decide | omega) (by first | decide | omega)
        have HF := Lib.hid f4
        clear f4 
        refine bodyPost_ret (v := exV (.mk 5 0 x11 [] [] []) (.slice none 0 0) (.slice none 0 0) (.slice none 0 0)) (by simp [results, Tryz.results218, go_sem, exV, textE, mkE, y0, y1, y2, y3, y4, y5, hsz9]) rfl (ret_ok (x := (.mk 5 0 x11 [] [] [])) (by simp only [pThing, hd0, List.headD_cons, List.tail_cons, textE, mkE, HK2.out, HK3.out, D1.out, D2.out, D3.out, D4.out, D6.out, D9.out, X11.out, PR.bind, ↓reduceIte, Bool.false_eq_true]) ⟨_, _, _, rfl, HF.out⟩ f1 f2)
end Go.Proofs.YtenfphbhofibjaaGreatDoor
namespace Go.Proofs.YtenfphbhofibjaaGreatDoor
open Go.RowKit LM TM PM
def VF (w : World) (p : TE × TE) (en : Ending) (w' : World) : Prop := ∃ v, en = .returned v ∧ Lie (RE v [p.1, p.2]) w.heap.size w'.heap.size w'
theorem field_ok {pb d : Nat} {E : List Tok → PR TE} (hO : OkE pb d E) (hE : Eats E) : ∀ (w : World) (ts : List Tok), PAt w pb ts d → GoodT ts → Calls Tryz.prog 234 #[.pointer (some ⟨pb, 0, none⟩)] w fun en w' => Ret (pField E ts) w pb d (VF w) en w' := by
 intro w ts hP hG
 have hpl := hP.lt
 have HP := Lib.hid hP
 have HGD := Lib.hid hG
 clear hP hG
 go_enter Tryz.func234, Tryz.ntmps234
 go_wp2_with fail
 refine (met_any (HP.out.alloc _) HGD.out 4 (by decide) sLK).mono ?_
 rintro en W1 ⟨rfl, h, g⟩
 rcases tf (isT 4 sLK ts) with hi | hi
 ·rw [hi] at h ⊢
  rw [if_pos rfl] at h
  have D1 := Lib.hid hi
  have K1 : Hid (GoodT ts.tail) := (keep_tail HGD.out (isT_kind hi) (by decide)).1
  clear hi
  have H1 := Lib.hid h
  have G1 : Hid (w.grownBy W1 (some pb)) := gr_trans (gr_alloc (gr_refl _ _) _) g
  have hs1 : w.heap.size ≤ W1.heap.size := G1.out.size
  have hm1 : w.heap.size + 1 ≤ W1.heap.size := by have := g.size; simpa using this
  have B1_0 : Hid (W1.heap[w.heap.size]? = some (.cells #[.int .i64 0, .int .i64 0, .string ⟨#[]⟩, .slice none 0 0, .slice none 0 0, .slice none 0 0] 35 (0, 0))) := blk_new g (by omega)
  clear h g
  go_wp2_with fail
  refine (key_ok hO hE _ _ H1.out K1.out).mono ?_
  rintro en W2 hR
  cases hx : pKeyE E ts.tail with
  | bad a e =>
   rw [hx] at hR
   obtain ⟨rfl, hb⟩ := hR
   exact ⟨rfl, ret_bad (by simp only [pField, D1.out, hx, PR.bind, ↓reduceIte, Bool.false_eq_true]) ((grown_to_below (G1.out) (Nat.le_of_lt hpl)).trans hb)⟩
  | ok x2 ts2 =>
   rw [hx] at hR
   have K2 : Hid (GoodT ts2) := ((eats_keyE hE) _ K1.out _ _ hx).1
   obtain ⟨⟨va, vb, vc, rfl, hL⟩, h, g⟩ := hR
   obtain ⟨op2, num2, text2, ps2, pm2, bd2⟩ := x2
   obtain ⟨pa2, pc2, na2, nc2, ba2, bc2, rfl, rfl, rfl⟩ := hL.at'.slices
   have X2 := Lib.hid hx
   clear hx
   have hL2 := Lib.hid hL
   clear hL
   have H2 := Lib.hid h
   have G2 : Hid (w.grownBy W2 (some pb)) := gr_trans (G1.out) g
   have hs2 : w.heap.size ≤ W2.heap.size := G2.out.size
   have hm2 : W1.heap.size + 0 ≤ W2.heap.size := by have := g.size; simpa using this
   have B2_0 : Hid (W2.heap[w.heap.size]? = some (.cells #[.int .i64 0, .int .i64 0, .string ⟨#[]⟩, .slice none 0 0, .slice none 0 0, .slice none 0 0] 35 (0, 0))) := blk_next B1_0.out (Below.refl _ _) g (by omega)
   clear h g B1_0
   have L2_0 : Hid (Lie (XE (.mk op2 num2 text2 ps2 pm2 bd2) (.slice pa2 ps2.length pc2) (.slice na2 pm2.length nc2) (.slice ba2 bd2.length bc2)) (W1.heap.size) W2.heap.size W2) := hL2
   clear hL2
   unfold exV
   have rh := B2_0.out
   have r0 : W2.cell? ⟨w.heap.size, 0, none⟩ = some (.int .i64 0) := by simp [World.cell?, rh]
   have r1 : W2.cell? ⟨w.heap.size, 1, none⟩ = some (.int .i64 0) := by simp [World.cell?, rh]
   have r2 : W2.cell? ⟨w.heap.size, 2, none⟩ = some (.string ⟨#[]⟩) := by simp [World.cell?, rh]
   have r3 : W2.cell? ⟨w.heap.size, 3, none⟩ = some (.slice none 0 0) := by simp [World.cell?, rh]
   have r4 : W2.cell? ⟨w.heap.size, 4, none⟩ = some (.slice none 0 0) := by simp [World.cell?, rh]
   have r5 : W2.cell? ⟨w.heap.size, 5, none⟩ = some (.slice none 0 0) := by simp [World.cell?, rh]
   have rf : ∀ i, W2.frozen? ⟨w.heap.size, i, none⟩ = false := fun i => by simp [World.frozen?, rh]
   have rl : w.heap.size < W2.heap.size := lt_of_block rh
   clear rh
   go_wp2_with fail
   clear r0 r1 r2 r3 r4 r5 rf rl
   have a_h : PAt (six7 W2 w.heap.size (.int .i64 (op2 : Int)) (.int .i64 num2) (.string text2) (.slice pa2 ps2.length pc2) (.slice na2 pm2.length nc2) (.slice ba2 bd2.length bc2)) pb ts2 d := six_pat H2.out (by omega)
   have a_g : w.grownBy (six7 W2 w.heap.size (.int .i64 (op2 : Int)) (.int .i64 num2) (.string text2) (.slice pa2 ps2.length pc2) (.slice na2 pm2.length nc2) (.slice ba2 bd2.length bc2)) (some pb) := six_gr G2.out (by omega)
   have a_z : (six7 W2 w.heap.size (.int .i64 (op2 : Int)) (.int .i64 num2) (.string text2) (.slice pa2 ps2.length pc2) (.slice na2 pm2.length nc2) (.slice ba2 bd2.length bc2)).heap.size = W2.heap.size := six7_size
   have a_b0 : (six7 W2 w.heap.size (.int .i64 (op2 : Int)) (.int .i64 num2) (.string text2) (.slice pa2 ps2.length pc2) (.slice na2 pm2.length nc2) (.slice ba2 bd2.length bc2)).heap[w.heap.size]? = some (.cells #[.int .i64 (op2 : Int), .int .i64 num2, .string text2, .slice pa2 ps2.length pc2, .slice na2 pm2.length nc2, .slice ba2 bd2.length bc2] 35 (0, 0)) := six7_block B2_0.out
   have a_l0 : Lie (XE (.mk op2 num2 text2 ps2 pm2 bd2) (.slice pa2 ps2.length pc2) (.slice na2 pm2.length nc2) (.slice ba2 bd2.length bc2)) (W1.heap.size) W2.heap.size (six7 W2 w.heap.size (.int .i64 (op2 : Int)) (.int .i64 num2) (.string text2) (.slice pa2 ps2.length pc2) (.slice na2 pm2.length nc2) (.slice ba2 bd2.length bc2)) := six_lie L2_0.out (by omega)
   obtain ⟨W3, hWn⟩ : ∃ Wn, six7 W2 w.heap.size (.int .i64 (op2 : Int)) (.int .i64 num2) (.string text2) (.slice pa2 ps2.length pc2) (.slice na2 pm2.length nc2) (.slice ba2 bd2.length bc2) = Wn := ⟨_, rfl⟩
   rw [hWn] at a_h a_g a_z a_b0 a_l0
   unfold six7 at hWn
   rw [hWn]
   have H3 := Lib.hid a_h
   have G3 := Lib.hid a_g
   have hs3 : w.heap.size ≤ W3.heap.size := a_g.size
   have hz3 := a_z
   have B3_0 := Lib.hid a_b0
   have L3_0 := Lib.hid a_l0
   clear hWn a_h a_g a_z a_b0 a_l0 B2_0 L2_0
   refine (psign_any H3.out K2.out sCL).mono ?_
   rintro en W4 hR
   cases hx : pSign sCL ts2 with
   | bad a e =>
    rw [hx] at hR
    obtain ⟨rfl, hb⟩ := hR
    exact ⟨rfl, ret_bad (by simp only [pField, D1.out, X2.out, hx, PR.bind, ↓reduceIte, Bool.false_eq_true]) ((grown_to_below (G3.out) (Nat.le_of_lt hpl)).trans hb)⟩
   | ok x4 ts4 =>
    rw [hx] at hR
    have K4 : Hid (GoodT ts4) := ((eats_sign sCL) _ K2.out _ _ hx).1
    obtain ⟨hv, h, g⟩ := hR
    have hv2 : en = .returned (.tuple #[]) := hv
    subst hv2
    clear hv
    have X4 := Lib.hid hx
    clear hx
    have H4 := Lib.hid h
    have G4 : Hid (w.grownBy W4 (some pb)) := gr_trans (G3.out) g
    have hs4 : w.heap.size ≤ W4.heap.size := G4.out.size
    have hm4 : W3.heap.size + 0 ≤ W4.heap.size := by have := g.size; simpa using this
    have B4_0 : Hid (W4.heap[w.heap.size]? = some (.cells #[.int .i64 (op2 : Int), .int .i64 num2, .string text2, .slice pa2 ps2.length pc2, .slice na2 pm2.length nc2, .slice ba2 bd2.length bc2] 35 (0, 0))) := blk_next B3_0.out (Below.refl _ _) g (by omega)
    have L4_0 : Hid (Lie (XE (.mk op2 num2 text2 ps2 pm2 bd2) (.slice pa2 ps2.length pc2) (.slice na2 pm2.length nc2) (.slice ba2 bd2.length bc2)) (W1.heap.size) W2.heap.size W4) := (L3_0.out).gr g (by omega)
    clear h g B3_0 L3_0
    have hpw : pb < W4.heap.size := by omega
    go_wp2_with fail
    refine region_sh (fun | 0 => some (.agg #[.int .i64 (op2 : Int), .int .i64 num2, .string text2, .slice pa2 ps2.length pc2, .slice na2 pm2.length nc2, .slice ba2 bd2.length bc2]) | 1 => some (.pointer (some ⟨pb, 0, none⟩)) | _ => none) (JG W4 3 (fun | 0 => 2 | 1 => 3 | _ => 4) (fun | 0 => 14 | 1 => 15 | _ => 2) (SF (E ts4) W4 pb d [.int .i64 (op2 : Int), .int .i64 num2, .string text2, .slice pa2 ps2.length pc2, .slice na2 pm2.length nc2, .slice ba2 bd2.length bc2])) (by kernel_rfl) (by kernel_rfl) (by kernel_rfl) (JG.start _) ?_ ?_
    ·intro hon q hq L a1 W hC hl hBh hS hJ K hK
     have hqn : q < 5 := hq
     clear hq
     rcases (show q = 0 ∨ q = 1 ∨ q = 2 ∨ q = 3 ∨ q = 4 from by omega) with rfl | rfl | rfl | rfl | rfl
     ·have e3 : a1.eval (.tmp 3) = .pointer (some ⟨w.heap.size, 0, none⟩) := (hS.kept 3 (by kernel_rfl)).trans rfl
      have n1 : L 3 = false := closed_not hC hl (i := 3) (j := 0) rfl (g := .data) (by simp) rfl
      have hbW : W.heap[w.heap.size]? = some (.cells #[.int .i64 (op2 : Int), .int .i64 num2, .string text2, .slice pa2 ps2.length pc2, .slice na2 pm2.length nc2, .slice ba2 bd2.length bc2] 35 (0, 0)) := hJ.read (by decide) (fun W => W.heap[w.heap.size]? = some (.cells #[.int .i64 (op2 : Int), .int .i64 num2, .string text2, .slice pa2 ps2.length pc2, .slice na2 pm2.length nc2, .slice ba2 bd2.length bc2] 35 (0, 0))) 1 (by decide) (fun _ => n1) B4_0.out (fun k v W hk hS2 => SF.blk (by omega) hS2 B4_0.out (by omega))
      refine wpOp_run rfl rfl (v := .agg #[.int .i64 (op2 : Int), .int .i64 num2, .string text2, .slice pa2 ps2.length pc2, .slice na2 pm2.length nc2, .slice ba2 bd2.length bc2]) (w' := W) (by simp [execOp, e3, ld6E hbW, Result.andThen]) (hK _ _ (hS.put hon (i := 0) rfl rfl (fun u hu => by cases hu; rfl)) (hJ.pure (by decide) (by decide) (by decide)))
     ·have e0 := (eval_tmp a1 0).symm.trans ((hS.kept 0 (by kernel_rfl)).trans rfl)
      refine wpOp_step rfl (fun K' hK' => ?_)
      go_simp
      exact hK' _ _ (hK _ _ (hS.put hon (i := 1) rfl rfl (fun u hu => by cases hu; rfl)) (hJ.pure (by decide) (by decide) (by decide)))
     ·have e13 := (eval_tmp a1 13).symm.trans (hS.get hBh (i := 2) rfl 1 (by simp) rfl rfl rfl)
      obtain rfl := hJ.n0 hl
      refine wpOp_callP (f := 141) (args := #[.pointer (some ⟨pb, 0, none⟩)]) (R := fun en W2 => Ret (E ts4) W4 pb d (VE W4) en W2) rfl rfl (by simp [execOp, resolve, invoke, e13, go_sem]) ((hO _ _ H4.out.drew K4.out).mono fun en W2 h => ret_drew (V := VE) (fun _ _ _ h => h) h) ?_ ?_ (fun W2 => ret_out VE_o)
      ·intro v W2 hR
       obtain ⟨y, ts', a, b, c, h1, h2, h3, h4, h5⟩ := ret_E hR
       exact hK _ _ (hS.put hon (i := 2) rfl rfl (fun u hu => by cases hu)) (hJ.eff 0 (by decide) (fun j hj => by omega) hl (by decide) (a1.put (some 14) v) (by show SF (E ts4) W4 pb d [.int .i64 (op2 : Int), .int .i64 num2, .string text2, .slice pa2 ps2.length pc2, .slice na2 pm2.length nc2, .slice ba2 bd2.length bc2] 0 ((a1.put (some 14) v).eval (.tmp 14)) _; rw [eval_put _ _ _ _ (by rw [hS.size]; exact (by decide : (14 : Nat) < 16)), if_pos rfl]; exact ⟨y, ts', a, b, c, h2, h1, h3, h4, h5⟩))
      ·intro ch W2 hR
       obtain ⟨pa, pe, h1, rfl, h3⟩ := ret_panic VE_p hR
       exact ⟨hS.defers.trans rfl, ret_bad (by simp only [pField, D1.out, X2.out, X4.out, h1, PR.bind, ↓reduceIte, Bool.false_eq_true]) ((grown_to_below (G4.out) (Nat.le_of_lt hpl)).trans h3)⟩
     ·have d0 : L 2 = true := hBh _ rfl ⟨2, .data⟩ (by simp) rfl
      have e12 := (hS.get hBh (i := 3) rfl 0 (by simp) rfl rfl rfl)
      obtain ⟨y, ts', a, b, c, hv, hY⟩ := hJ.cur 0 (by decide) d0 (fun _ => hl)
      obtain ⟨op9, num9, text9, ps9, pm9, bd9⟩ := y
      obtain ⟨pa9, pc9, na9, nc9, ba9, bc9, rfl, rfl, rfl⟩ := hY.lie.at'.slices
      have hv2 : a1.eval (.tmp 14) = .agg #[.int .i64 (op9 : Int), .int .i64 num9, .string text9, .slice pa9 ps9.length pc9, .slice na9 pm9.length nc9, .slice ba9 bd9.length bc9] := hv
      refine wpOp_run rfl rfl (v := (.slice (some ⟨W.heap.size, 0, none⟩) 2 2)) (w' := W.alloc (.cells #[.int .i64 (op2 : Int), .int .i64 num2, .string text2, .slice pa2 ps2.length pc2, .slice na2 pm2.length nc2, .slice ba2 bd2.length bc2, .int .i64 (op9 : Int), .int .i64 num9, .string text9, .slice pa9 ps9.length pc9, .slice na9 pm9.length nc9, .slice ba9 bd9.length bc9] 35)) (by simp [execOp, e12, hv2, lay2E, Result.andThen]) (hK _ _ (hS.put hon (i := 3) rfl rfl (fun u hu => by cases hu)) (hJ.eff 1 (by decide) (fun j hj => by obtain rfl : j = 0 := (by omega); exact d0) hl (by decide) (a1.put (some 15) (.slice (some ⟨W.heap.size, 0, none⟩) 2 2)) (by show SF (E ts4) W4 pb d [.int .i64 (op2 : Int), .int .i64 num2, .string text2, .slice pa2 ps2.length pc2, .slice na2 pm2.length nc2, .slice ba2 bd2.length bc2] 1 ((a1.put (some 15) (.slice (some ⟨W.heap.size, 0, none⟩) 2 2)).eval (.tmp 15)) _; rw [eval_put _ _ _ _ (by rw [hS.size]; exact (by decide : (15 : Nat) < 16)), if_pos rfl]; exact ⟨_, _, _, _, _, W, rfl, rfl, hY⟩)))
     ·have d1 : L 3 = true := hBh _ rfl ⟨3, .data⟩ (by simp) rfl
      obtain ⟨y, ts', a, b, c, Wc, hv, rfl, hY⟩ := hJ.cur 1 (by decide) d1 (fun _ => hl)
      have hv2 : a1.eval (.tmp 15) = (.slice (some ⟨Wc.heap.size, 0, none⟩) 2 2) := hv
      refine wpOp_run rfl rfl (v := (.slice (some ⟨Wc.heap.size, 0, none⟩) 2 2)) (w' := Wc.alloc (rowO [.int .i64 (op2 : Int), .int .i64 num2, .string text2, .slice pa2 ps2.length pc2, .slice na2 pm2.length nc2, .slice ba2 bd2.length bc2] y a b c)) (by simp [execOp, hv2, Result.andThen]) (hK _ _ (hS.put hon (i := 4) rfl rfl (fun u hu => by cases hu)) (hJ.eff 2 (by decide) (fun j hj => by obtain rfl : j = 1 := (by omega); exact d1) hl (by decide) (a1.put (some 2) (.slice (some ⟨Wc.heap.size, 0, none⟩) 2 2)) (by show SF (E ts4) W4 pb d [.int .i64 (op2 : Int), .int .i64 num2, .string text2, .slice pa2 ps2.length pc2, .slice na2 pm2.length nc2, .slice ba2 bd2.length bc2] 2 ((a1.put (some 2) (.slice (some ⟨Wc.heap.size, 0, none⟩) 2 2)).eval (.tmp 2)) _; rw [eval_put _ _ _ _ (by rw [hS.size]; exact (by decide : (2 : Nat) < 16)), if_pos rfl]; exact ⟨_, _, _, _, _, Wc, rfl, rfl, hY⟩)))
    ·intro L a1 wz hl hS hJ
     obtain ⟨y, ts', ya, yb, yc, Wc, hvz, hwz, hY⟩ := hJ.cur 2 (by decide) (hl 4 (by decide)) (fun h => absurd h (by decide))
     have hvz2 : a1.eval (.tmp 2) = .slice (some ⟨Wc.heap.size, 0, none⟩) 2 2 := hvz
     have hfr := hS.frame [12, 13, 14, 15, 2] rfl
     refine (‹∀ (a : Act) (w : World), Code.wp Tryz.prog _ _ a w → _› a1 wz ?_)
     obtain ⟨zz, hz⟩ : ∃ z : Nat → Value, z = fun k => a1.eval (.tmp k) := ⟨_, rfl⟩
     rw [← hz] at hfr
     rw [hfr]
     clear hfr hS hJ hl
     simp only [over, List.setIfInBounds_toArray, List.set_cons_zero, List.set_cons_succ]
     have hz2 : zz 2 = .slice (some ⟨Wc.heap.size, 0, none⟩) 2 2 := by rw [hz]; exact hvz2
     rw [hz2]
     clear hz hz2 hvz hvz2
     have hsc : W4.heap.size ≤ Wc.heap.size := hY.gr.size
     have f4 := row_lie (n := 2) (esc2 ((L4_0.out.gr hY.gr (by omega)).wider (s' := w.heap.size) (e' := Wc.heap.size) (by omega) (by omega) (Nat.le_refl _)) (hY.lie.wider (s' := w.heap.size) (e' := Wc.heap.size) (by omega) (Nat.le_refl _) (Nat.le_refl _))) (by omega) (Nat.le_refl _) rfl (by decide) (by decide)
     have HF := Lib.hid f4
     have HPz := Lib.hid (hY.pat.alloc (rowO [.int .i64 (op2 : Int), .int .i64 num2, .string text2, .slice pa2 ps2.length pc2, .slice na2 pm2.length nc2, .slice ba2 bd2.length bc2] y ya yb yc))
     have HGz : Hid (w.grownBy (Wc.alloc (rowO [.int .i64 (op2 : Int), .int .i64 num2, .string text2, .slice pa2 ps2.length pc2, .slice na2 pm2.length nc2, .slice ba2 bd2.length bc2] y ya yb yc)) (some pb)) := gr_alloc (gr_trans G4.out hY.gr) _
     have HEY := Lib.hid hY.eq
     subst hwz
     clear f4 hY
     go_wp2_with fail
     go_ret
     exact ret_ok (x := ((.mk op2 num2 text2 ps2 pm2 bd2), y)) (by simp only [pField, D1.out, X2.out, X4.out, HEY.out, PR.bind, ↓reduceIte, Bool.false_eq_true]) ⟨_, rfl, by show Lie _ _ (World.heap _).size _; rw [World.size_alloc]; exact HF.out⟩ HPz.out HGz.out
 ·rw [hi] at h ⊢
  rw [if_neg (by simp)] at h
  have D1 := Lib.hid hi
  clear hi
  have H1 := Lib.hid h
  have G1 : Hid (w.grownBy W1 (some pb)) := gr_trans (gr_alloc (gr_refl _ _) _) g
  have hs1 : w.heap.size ≤ W1.heap.size := G1.out.size
  have hm1 : w.heap.size + 1 ≤ W1.heap.size := by have := g.size; simpa using this
  have B1_0 : Hid (W1.heap[w.heap.size]? = some (.cells #[.int .i64 0, .int .i64 0, .string ⟨#[]⟩, .slice none 0 0, .slice none 0 0, .slice none 0 0] 35 (0, 0))) := blk_new g (by omega)
  clear h g
  go_wp2_with fail
  refine (word_ok _ _ H1.out HGD.out).mono ?_
  rintro en W5 hR
  cases hx : pKeyW ts with
  | bad a e =>
   rw [hx] at hR
   obtain ⟨rfl, hb⟩ := hR
   exact ⟨rfl, ret_bad (by simp only [pField, D1.out, hx, PR.bind, ↓reduceIte, Bool.false_eq_true]) ((grown_to_below (G1.out) (Nat.le_of_lt hpl)).trans hb)⟩
  | ok x5 ts5 =>
   rw [hx] at hR
   have K5 : Hid (GoodT ts5) := (eats_keyW _ HGD.out _ _ hx).1
   obtain ⟨⟨va, vb, vc, rfl, hL⟩, h, g⟩ := hR
   obtain ⟨op5, num5, text5, ps5, pm5, bd5⟩ := x5
   obtain ⟨pa5, pc5, na5, nc5, ba5, bc5, rfl, rfl, rfl⟩ := hL.at'.slices
   have X5 := Lib.hid hx
   clear hx
   have hL2 := Lib.hid hL
   clear hL
   have H5 := Lib.hid h
   have G5 : Hid (w.grownBy W5 (some pb)) := gr_trans (G1.out) g
   have hs5 : w.heap.size ≤ W5.heap.size := G5.out.size
   have hm5 : W1.heap.size + 0 ≤ W5.heap.size := by have := g.size; simpa using this
   have B5_0 : Hid (W5.heap[w.heap.size]? = some (.cells #[.int .i64 0, .int .i64 0, .string ⟨#[]⟩, .slice none 0 0, .slice none 0 0, .slice none 0 0] 35 (0, 0))) := blk_next B1_0.out (Below.refl _ _) g (by omega)
   clear h g B1_0
   have L5_0 : Hid (Lie (XE (.mk op5 num5 text5 ps5 pm5 bd5) (.slice pa5 ps5.length pc5) (.slice na5 pm5.length nc5) (.slice ba5 bd5.length bc5)) (W1.heap.size) W5.heap.size W5) := hL2
   clear hL2
   unfold exV
   have rh := B5_0.out
   have r0 : W5.cell? ⟨w.heap.size, 0, none⟩ = some (.int .i64 0) := by simp [World.cell?, rh]
   have r1 : W5.cell? ⟨w.heap.size, 1, none⟩ = some (.int .i64 0) := by simp [World.cell?, rh]
   have r2 : W5.cell? ⟨w.heap.size, 2, none⟩ = some (.string ⟨#[]⟩) := by simp [World.cell?, rh]
   have r3 : W5.cell? ⟨w.heap.size, 3, none⟩ = some (.slice none 0 0) := by simp [World.cell?, rh]
   have r4 : W5.cell? ⟨w.heap.size, 4, none⟩ = some (.slice none 0 0) := by simp [World.cell?, rh]
   have r5 : W5.cell? ⟨w.heap.size, 5, none⟩ = some (.slice none 0 0) := by simp [World.cell?, rh]
   have rf : ∀ i, W5.frozen? ⟨w.heap.size, i, none⟩ = false := fun i => by simp [World.frozen?, rh]
   have rl : w.heap.size < W5.heap.size := lt_of_block rh
   clear rh
   go_wp2_with fail
   clear r0 r1 r2 r3 r4 r5 rf rl
   have a_h : PAt (six7 W5 w.heap.size (.int .i64 (op5 : Int)) (.int .i64 num5) (.string text5) (.slice pa5 ps5.length pc5) (.slice na5 pm5.length nc5) (.slice ba5 bd5.length bc5)) pb ts5 d := six_pat H5.out (by omega)
   have a_g : w.grownBy (six7 W5 w.heap.size (.int .i64 (op5 : Int)) (.int .i64 num5) (.string text5) (.slice pa5 ps5.length pc5) (.slice na5 pm5.length nc5) (.slice ba5 bd5.length bc5)) (some pb) := six_gr G5.out (by omega)
   have a_z : (six7 W5 w.heap.size (.int .i64 (op5 : Int)) (.int .i64 num5) (.string text5) (.slice pa5 ps5.length pc5) (.slice na5 pm5.length nc5) (.slice ba5 bd5.length bc5)).heap.size = W5.heap.size := six7_size
   have a_b0 : (six7 W5 w.heap.size (.int .i64 (op5 : Int)) (.int .i64 num5) (.string text5) (.slice pa5 ps5.length pc5) (.slice na5 pm5.length nc5) (.slice ba5 bd5.length bc5)).heap[w.heap.size]? = some (.cells #[.int .i64 (op5 : Int), .int .i64 num5, .string text5, .slice pa5 ps5.length pc5, .slice na5 pm5.length nc5, .slice ba5 bd5.length bc5] 35 (0, 0)) := six7_block B5_0.out
   have a_l0 : Lie (XE (.mk op5 num5 text5 ps5 pm5 bd5) (.slice pa5 ps5.length pc5) (.slice na5 pm5.length nc5) (.slice ba5 bd5.length bc5)) (W1.heap.size) W5.heap.size (six7 W5 w.heap.size (.int .i64 (op5 : Int)) (.int .i64 num5) (.string text5) (.slice pa5 ps5.length pc5) (.slice na5 pm5.length nc5) (.slice ba5 bd5.length bc5)) := six_lie L5_0.out (by omega)
   obtain ⟨W6, hWn⟩ : ∃ Wn, six7 W5 w.heap.size (.int .i64 (op5 : Int)) (.int .i64 num5) (.string text5) (.slice pa5 ps5.length pc5) (.slice na5 pm5.length nc5) (.slice ba5 bd5.length bc5) = Wn := ⟨_, rfl⟩
   rw [hWn] at a_h a_g a_z a_b0 a_l0
   unfold six7 at hWn
   rw [hWn]
   have H6 := Lib.hid a_h
   have G6 := Lib.hid a_g
   have hs6 : w.heap.size ≤ W6.heap.size := a_g.size
   have hz6 := a_z
   have B6_0 := Lib.hid a_b0
   have L6_0 := Lib.hid a_l0
   clear hWn a_h a_g a_z a_b0 a_l0 B5_0 L5_0
   refine (psign_any H6.out K5.out sCL).mono ?_
   rintro en W7 hR
   cases hx : pSign sCL ts5 with
   | bad a e =>
    rw [hx] at hR
    obtain ⟨rfl, hb⟩ := hR
    exact ⟨rfl, ret_bad (by simp only [pField, D1.out, X5.out, hx, PR.bind, ↓reduceIte, Bool.false_eq_true]) ((grown_to_below (G6.out) (Nat.le_of_lt hpl)).trans hb)⟩
   | ok x7 ts7 =>
    rw [hx] at hR
    have K7 : Hid (GoodT ts7) := ((eats_sign sCL) _ K5.out _ _ hx).1
    obtain ⟨hv, h, g⟩ := hR
    have hv2 : en = .returned (.tuple #[]) := hv
    subst hv2
    clear hv
    have X7 := Lib.hid hx
    clear hx
    have H7 := Lib.hid h
    have G7 : Hid (w.grownBy W7 (some pb)) := gr_trans (G6.out) g
    have hs7 : w.heap.size ≤ W7.heap.size := G7.out.size
    have hm7 : W6.heap.size + 0 ≤ W7.heap.size := by have := g.size; simpa using this
    have B7_0 : Hid (W7.heap[w.heap.size]? = some (.cells #[.int .i64 (op5 : Int), .int .i64 num5, .string text5, .slice pa5 ps5.length pc5, .slice na5 pm5.length nc5, .slice ba5 bd5.length bc5] 35 (0, 0))) := blk_next B6_0.out (Below.refl _ _) g (by omega)
    have L7_0 : Hid (Lie (XE (.mk op5 num5 text5 ps5 pm5 bd5) (.slice pa5 ps5.length pc5) (.slice na5 pm5.length nc5) (.slice ba5 bd5.length bc5)) (W1.heap.size) W5.heap.size W7) := (L6_0.out).gr g (by omega)
    clear h g B6_0 L6_0
    have hpw : pb < W7.heap.size := by omega
    go_wp2_with fail
    refine region_sh (fun | 0 => some (.agg #[.int .i64 (op5 : Int), .int .i64 num5, .string text5, .slice pa5 ps5.length pc5, .slice na5 pm5.length nc5, .slice ba5 bd5.length bc5]) | 1 => some (.pointer (some ⟨pb, 0, none⟩)) | _ => none) (JG W7 3 (fun | 0 => 2 | 1 => 3 | _ => 4) (fun | 0 => 14 | 1 => 15 | _ => 2) (SF (E ts7) W7 pb d [.int .i64 (op5 : Int), .int .i64 num5, .string text5, .slice pa5 ps5.length pc5, .slice na5 pm5.length nc5, .slice ba5 bd5.length bc5])) (by kernel_rfl) (by kernel_rfl) (by kernel_rfl) (JG.start _) ?_ ?_
    ·intro hon q hq L a1 W hC hl hBh hS hJ K hK
     have hqn : q < 5 := hq
     clear hq
     rcases (show q = 0 ∨ q = 1 ∨ q = 2 ∨ q = 3 ∨ q = 4 from by omega) with rfl | rfl | rfl | rfl | rfl
     ·have e3 : a1.eval (.tmp 3) = .pointer (some ⟨w.heap.size, 0, none⟩) := (hS.kept 3 (by kernel_rfl)).trans rfl
      have n1 : L 3 = false := closed_not hC hl (i := 3) (j := 0) rfl (g := .data) (by simp) rfl
      have hbW : W.heap[w.heap.size]? = some (.cells #[.int .i64 (op5 : Int), .int .i64 num5, .string text5, .slice pa5 ps5.length pc5, .slice na5 pm5.length nc5, .slice ba5 bd5.length bc5] 35 (0, 0)) := hJ.read (by decide) (fun W => W.heap[w.heap.size]? = some (.cells #[.int .i64 (op5 : Int), .int .i64 num5, .string text5, .slice pa5 ps5.length pc5, .slice na5 pm5.length nc5, .slice ba5 bd5.length bc5] 35 (0, 0))) 1 (by decide) (fun _ => n1) B7_0.out (fun k v W hk hS2 => SF.blk (by omega) hS2 B7_0.out (by omega))
      refine wpOp_run rfl rfl (v := .agg #[.int .i64 (op5 : Int), .int .i64 num5, .string text5, .slice pa5 ps5.length pc5, .slice na5 pm5.length nc5, .slice ba5 bd5.length bc5]) (w' := W) (by simp [execOp, e3, ld6E hbW, Result.andThen]) (hK _ _ (hS.put hon (i := 0) rfl rfl (fun u hu => by cases hu; rfl)) (hJ.pure (by decide) (by decide) (by decide)))
     ·have e0 := (eval_tmp a1 0).symm.trans ((hS.kept 0 (by kernel_rfl)).trans rfl)
      refine wpOp_step rfl (fun K' hK' => ?_)
      go_simp
      exact hK' _ _ (hK _ _ (hS.put hon (i := 1) rfl rfl (fun u hu => by cases hu; rfl)) (hJ.pure (by decide) (by decide) (by decide)))
     ·have e13 := (eval_tmp a1 13).symm.trans (hS.get hBh (i := 2) rfl 1 (by simp) rfl rfl rfl)
      obtain rfl := hJ.n0 hl
      refine wpOp_callP (f := 141) (args := #[.pointer (some ⟨pb, 0, none⟩)]) (R := fun en W2 => Ret (E ts7) W7 pb d (VE W7) en W2) rfl rfl (by simp [execOp, resolve, invoke, e13, go_sem]) ((hO _ _ H7.out.drew K7.out).mono fun en W2 h => ret_drew (V := VE) (fun _ _ _ h => h) h) ?_ ?_ (fun W2 => ret_out VE_o)
      ·intro v W2 hR
       obtain ⟨y, ts', a, b, c, h1, h2, h3, h4, h5⟩ := ret_E hR
       exact hK _ _ (hS.put hon (i := 2) rfl rfl (fun u hu => by cases hu)) (hJ.eff 0 (by decide) (fun j hj => by omega) hl (by decide) (a1.put (some 14) v) (by show SF (E ts7) W7 pb d [.int .i64 (op5 : Int), .int .i64 num5, .string text5, .slice pa5 ps5.length pc5, .slice na5 pm5.length nc5, .slice ba5 bd5.length bc5] 0 ((a1.put (some 14) v).eval (.tmp 14)) _; rw [eval_put _ _ _ _ (by rw [hS.size]; exact (by decide : (14 : Nat) < 16)), if_pos rfl]; exact ⟨y, ts', a, b, c, h2, h1, h3, h4, h5⟩))
      ·intro ch W2 hR
       obtain ⟨pa, pe, h1, rfl, h3⟩ := ret_panic VE_p hR
       exact ⟨hS.defers.trans rfl, ret_bad (by simp only [pField, D1.out, X5.out, X7.out, h1, PR.bind, ↓reduceIte, Bool.false_eq_true]) ((grown_to_below (G7.out) (Nat.le_of_lt hpl)).trans h3)⟩
     ·have d0 : L 2 = true := hBh _ rfl ⟨2, .data⟩ (by simp) rfl
      have e12 := (hS.get hBh (i := 3) rfl 0 (by simp) rfl rfl rfl)
      obtain ⟨y, ts', a, b, c, hv, hY⟩ := hJ.cur 0 (by decide) d0 (fun _ => hl)
      obtain ⟨op9, num9, text9, ps9, pm9, bd9⟩ := y
      obtain ⟨pa9, pc9, na9, nc9, ba9, bc9, rfl, rfl, rfl⟩ := hY.lie.at'.slices
      have hv2 : a1.eval (.tmp 14) = .agg #[.int .i64 (op9 : Int), .int .i64 num9, .string text9, .slice pa9 ps9.length pc9, .slice na9 pm9.length nc9, .slice ba9 bd9.length bc9] := hv
      refine wpOp_run rfl rfl (v := (.slice (some ⟨W.heap.size, 0, none⟩) 2 2)) (w' := W.alloc (.cells #[.int .i64 (op5 : Int), .int .i64 num5, .string text5, .slice pa5 ps5.length pc5, .slice na5 pm5.length nc5, .slice ba5 bd5.length bc5, .int .i64 (op9 : Int), .int .i64 num9, .string text9, .slice pa9 ps9.length pc9, .slice na9 pm9.length nc9, .slice ba9 bd9.length bc9] 35)) (by simp [execOp, e12, hv2, lay2E, Result.andThen]) (hK _ _ (hS.put hon (i := 3) rfl rfl (fun u hu => by cases hu)) (hJ.eff 1 (by decide) (fun j hj => by obtain rfl : j = 0 := (by omega); exact d0) hl (by decide) (a1.put (some 15) (.slice (some ⟨W.heap.size, 0, none⟩) 2 2)) (by show SF (E ts7) W7 pb d [.int .i64 (op5 : Int), .int .i64 num5, .string text5, .slice pa5 ps5.length pc5, .slice na5 pm5.length nc5, .slice ba5 bd5.length bc5] 1 ((a1.put (some 15) (.slice (some ⟨W.heap.size, 0, none⟩) 2 2)).eval (.tmp 15)) _; rw [eval_put _ _ _ _ (by rw [hS.size]; exact (by decide : (15 : Nat) < 16)), if_pos rfl]; exact ⟨_, _, _, _, _, W, rfl, rfl, hY⟩)))
     ·have d1 : L 3 = true := hBh _ rfl ⟨3, .data⟩ (by simp) rfl
      obtain ⟨y, ts', a, b, c, Wc, hv, rfl, hY⟩ := hJ.cur 1 (by decide) d1 (fun _ => hl)
      have hv2 : a1.eval (.tmp 15) = (.slice (some ⟨Wc.heap.size, 0, none⟩) 2 2) := hv
      refine wpOp_run rfl rfl (v := (.slice (some ⟨Wc.heap.size, 0, none⟩) 2 2)) (w' := Wc.alloc (rowO [.int .i64 (op5 : Int), .int .i64 num5, .string text5, .slice pa5 ps5.length pc5, .slice na5 pm5.length nc5, .slice ba5 bd5.length bc5] y a b c)) (by simp [execOp, hv2, Result.andThen]) (hK _ _ (hS.put hon (i := 4) rfl rfl (fun u hu => by cases hu)) (hJ.eff 2 (by decide) (fun j hj => by obtain rfl : j = 1 := (by omega); exact d1) hl (by decide) (a1.put (some 2) (.slice (some ⟨Wc.heap.size, 0, none⟩) 2 2)) (by show SF (E ts7) W7 pb d [.int .i64 (op5 : Int), .int .i64 num5, .string text5, .slice pa5 ps5.length pc5, .slice na5 pm5.length nc5, .slice ba5 bd5.length bc5] 2 ((a1.put (some 2) (.slice (some ⟨Wc.heap.size, 0, none⟩) 2 2)).eval (.tmp 2)) _; rw [eval_put _ _ _ _ (by rw [hS.size]; exact (by decide : (2 : Nat) < 16)), if_pos rfl]; exact ⟨_, _, _, _, _, Wc, rfl, rfl, hY⟩)))
    ·intro L a1 wz hl hS hJ
     obtain ⟨y, ts', ya, yb, yc, Wc, hvz, hwz, hY⟩ := hJ.cur 2 (by decide) (hl 4 (by decide)) (fun h => absurd h (by decide))
     have hvz2 : a1.eval (.tmp 2) = .slice (some ⟨Wc.heap.size, 0, none⟩) 2 2 := hvz
     have hfr := hS.frame [12, 13, 14, 15, 2] rfl
     refine (‹∀ (a : Act) (w : World), Code.wp Tryz.prog _ _ a w → _› a1 wz ?_)
     obtain ⟨zz, hz⟩ : ∃ z : Nat → Value, z = fun k => a1.eval (.tmp k) := ⟨_, rfl⟩
     rw [← hz] at hfr
     rw [hfr]
     clear hfr hS hJ hl
     simp only [over, List.setIfInBounds_toArray, List.set_cons_zero, List.set_cons_succ]
     have hz2 : zz 2 = .slice (some ⟨Wc.heap.size, 0, none⟩) 2 2 := by rw [hz]; exact hvz2
     rw [hz2]
     clear hz hz2 hvz hvz2
     have hsc : W7.heap.size ≤ Wc.heap.size := hY.gr.size
     have f4 := row_lie (n := 2) (esc2 ((L7_0.out.gr hY.gr (by omega)).wider (s' := w.heap.size) (e' := Wc.heap.size) (by omega) (by omega) (Nat.le_refl _)) (hY.lie.wider (s' := w.heap.size) (e' := Wc.heap.size) (by omega) (Nat.le_refl _) (Nat.le_refl _))) (by omega) (Nat.le_refl _) rfl (by decide) (by decide)
     have HF := Lib.hid f4
     have HPz := Lib.hid (hY.pat.alloc (rowO [.int .i64 (op5 : Int), .int .i64 num5, .string text5, .slice pa5 ps5.length pc5, .slice na5 pm5.length nc5, .slice ba5 bd5.length bc5] y ya yb yc))
     have HGz : Hid (w.grownBy (Wc.alloc (rowO [.int .i64 (op5 : Int), .int .i64 num5, .string text5, .slice pa5 ps5.length pc5, .slice na5 pm5.length nc5, .slice ba5 bd5.length bc5] y ya yb yc)) (some pb)) := gr_alloc (gr_trans G7.out hY.gr) _
     have HEY := Lib.hid hY.eq
     subst hwz
     clear f4 hY
     go_wp2_with fail
     go_ret
     exact ret_ok (x := ((.mk op5 num5 text5 ps5 pm5 bd5), y)) (by simp only [pField, D1.out, X5.out, X7.out, HEY.out, PR.bind, ↓reduceIte, Bool.false_eq_true]) ⟨_, rfl, by show Lie _ _ (World.heap _).size _; rw [World.size_alloc]; exact HF.out⟩ HPz.out HGz.out
end Go.Proofs.YtenfphbhofibjaaGreatDoor

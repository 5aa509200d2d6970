/-
 Pa5, Pa6, Pa11, joined.
 Conditions: as each theorem says.
-/
import Derived.Test.YtenfphbhofibjaaGreatDoorZPbE
import Derived.Test.YtenfphbhofibjaaGreatDoorZPbD
set_option maxRecDepth 100000
set_option maxHeartbeats 4000000
set_option linter.unusedVariables false
set_option linter.unusedSimpArgs false
namespace Go.Proofs.YtenfphbhofibjaaGreatDoor
open Go.RowKit LM TM PM
def OkSim (pb d : Nat) (f : Nat → List Tok → PR TS) : Prop := ∀ (w : World) (ts : List Tok) (a : Nat), PAt w pb ts d → GoodT ts → Calls Tryz.prog 144 #[.pointer (some ⟨pb, 0, none⟩), .int .i64 (a : Int)] w fun en w' => Ret (f a ts) w pb d (VS w) en w'
theorem stmtAt_ok {pb d : Nat} {E : List Tok → PR TE} {B : List Tok → PR (List TS)} (hO : OkE pb d E) (hE : Eats E) (hOB : OkB pb d B) (hB : Eats B) (hS : OkSim pb d (pSimple E)) : ∀ (w : World) (ts : List Tok) (at0 : Nat), PAt w pb ts d → GoodT ts → Calls Tryz.prog 112 #[.pointer (some ⟨pb, 0, none⟩), .int .i64 (at0 : Int)] w fun en w' => Ret (pStmtAt E B at0 ts) w pb d (VS w) en w' := by
 intro w ts at0 hP hG
 have hpl := hP.lt
 have HP := Lib.hid hP
 have HGD := Lib.hid hG
 clear hP hG
 go_enter Tryz.func112, Tryz.ntmps112
 go_wp2_with fail
 refine (met_any (HP.out.alloc _) HGD.out 1 (by decide) wLet).mono ?_
 rintro en W1 ⟨rfl, h, g⟩
 rcases tf (isT 1 wLet ts) with hi | hi
 ·rw [hi] at h ⊢
  rw [if_pos rfl] at h
  have D1 := Lib.hid hi
  have K1 : Hid (GoodT ts.tail) := (keep_tail HGD.out (isT_kind hi) (by decide)).1
  clear hi
  have H1 := Lib.hid h
  have G1 : Hid (w.grownBy W1 (some pb)) := gr_trans (gr_alloc (gr_refl _ _) _) g
  have hs1 : w.heap.size ≤ W1.heap.size := G1.out.size
  have hm1 : w.heap.size + 1 ≤ W1.heap.size := by have := g.size; simpa using this
  have B1_0 : Hid (W1.heap[w.heap.size]? = some (.cells #[.int .i64 0, .string ⟨#[]⟩, .slice none 0 0, .slice none 0 0, .slice none 0 0, .int .i64 0] 30 (0, 0))) := blk_new g (by omega)
  clear h g
  go_wp2_with fail
  refine (let_ok hO hE _ _ H1.out K1.out).mono ?_
  rintro en W2 hR
  cases hx : pLet E ts.tail with
  | bad a e =>
   rw [hx] at hR
   obtain ⟨rfl, hb⟩ := hR
   exact ⟨rfl, ret_bad (by simp only [pStmtAt, D1.out, hx, PR.bind, ↓reduceIte, Bool.false_eq_true]) ((grown_to_below (G1.out) (Nat.le_of_lt hpl)).trans hb)⟩
  | ok x2 ts2 =>
   rw [hx] at hR
   have K2 : Hid (GoodT ts2) := ((eats_let hE) _ K1.out _ _ hx).1
   obtain ⟨⟨va, vb, vc, rfl, hL⟩, h, g⟩ := hR
   obtain ⟨kd2, nm2, xs2, bd2, el2, po2⟩ := x2
   obtain ⟨pa2, pc2, na2, nc2, ba2, bc2, rfl, rfl, rfl⟩ := hL.at'.slices
   have X2 := Lib.hid hx
   clear hx
   have hL2 := Lib.hid hL
   clear hL
   have H2 := Lib.hid h
   have G2 : Hid (w.grownBy W2 (some pb)) := gr_trans (G1.out) g
   have hs2 : w.heap.size ≤ W2.heap.size := G2.out.size
   have hm2 : W1.heap.size + 0 ≤ W2.heap.size := by have := g.size; simpa using this
   have B2_0 : Hid (W2.heap[w.heap.size]? = some (.cells #[.int .i64 0, .string ⟨#[]⟩, .slice none 0 0, .slice none 0 0, .slice none 0 0, .int .i64 0] 30 (0, 0))) := blk_next B1_0.out (Below.refl _ _) g (by omega)
   clear h g B1_0
   have L2_0 : Hid (Lie (XS (.mk kd2 nm2 xs2 bd2 el2 po2) (.slice pa2 xs2.length pc2) (.slice na2 bd2.length nc2) (.slice ba2 el2.length bc2)) (W1.heap.size) W2.heap.size W2) := hL2
   clear hL2
   unfold stV
   have rh := B2_0.out
   have r0 : W2.cell? ⟨w.heap.size, 0, none⟩ = some (.int .i64 0) := by simp [World.cell?, rh]
   have r1 : W2.cell? ⟨w.heap.size, 1, none⟩ = some (.string ⟨#[]⟩) := by simp [World.cell?, rh]
   have r2 : W2.cell? ⟨w.heap.size, 2, none⟩ = some (.slice none 0 0) := by simp [World.cell?, rh]
   have r3 : W2.cell? ⟨w.heap.size, 3, none⟩ = some (.slice none 0 0) := by simp [World.cell?, rh]
   have r4 : W2.cell? ⟨w.heap.size, 4, none⟩ = some (.slice none 0 0) := by simp [World.cell?, rh]
   have r5 : W2.cell? ⟨w.heap.size, 5, none⟩ = some (.int .i64 0) := by simp [World.cell?, rh]
   have rf : ∀ i, W2.frozen? ⟨w.heap.size, i, none⟩ = false := fun i => by simp [World.frozen?, rh]
   have rl : w.heap.size < W2.heap.size := lt_of_block rh
   clear rh
   go_wp2_with fail
   obtain ⟨y0, y1, y2, y3, y4, y5⟩ := six7_cell (a := .int .i64 (kd2 : Int)) (b := .string nm2) (c := .slice pa2 xs2.length pc2) (d := .slice na2 bd2.length nc2) (e := .slice ba2 el2.length bc2) (f := .int .i64 po2) B2_0.out
   have hsz9 : (six7 W2 w.heap.size (.int .i64 (kd2 : Int)) (.string nm2) (.slice pa2 xs2.length pc2) (.slice na2 bd2.length nc2) (.slice ba2 el2.length bc2) (.int .i64 po2)).heap.size = W2.heap.size := six7_size
   have f1 : PAt (six7 W2 w.heap.size (.int .i64 (kd2 : Int)) (.string nm2) (.slice pa2 xs2.length pc2) (.slice na2 bd2.length nc2) (.slice ba2 el2.length bc2) (.int .i64 po2)) pb ts2 d := six_pat H2.out (by omega)
   have f2 : w.grownBy (six7 W2 w.heap.size (.int .i64 (kd2 : Int)) (.string nm2) (.slice pa2 xs2.length pc2) (.slice na2 bd2.length nc2) (.slice ba2 el2.length bc2) (.int .i64 po2)) (some pb) := six_gr (G2.out) (by omega)
   have f3_0 : Lie (XS (.mk kd2 nm2 xs2 bd2 el2 po2) (.slice pa2 xs2.length pc2) (.slice na2 bd2.length nc2) (.slice ba2 el2.length bc2)) (W1.heap.size) W2.heap.size (six7 W2 w.heap.size (.int .i64 (kd2 : Int)) (.string nm2) (.slice pa2 xs2.length pc2) (.slice na2 bd2.length nc2) (.slice ba2 el2.length bc2) (.int .i64 po2)) := six_lie L2_0.out (by omega)
   obtain ⟨W9, hW9⟩ : ∃ W9, six7 W2 w.heap.size (.int .i64 (kd2 : Int)) (.string nm2) (.slice pa2 xs2.length pc2) (.slice na2 bd2.length nc2) (.slice ba2 el2.length bc2) (.int .i64 po2) = W9 := ⟨_, rfl⟩
   rw [hW9] at y0 y1 y2 y3 y4 y5 hsz9 f1 f2 f3_0
   unfold six7 at hW9
   rw [hW9]
   clear hW9
   have f4 := f3_0.wider (s' := w.heap.size) (e' := W9.heap.size) (by omega) f3_0.lt (Nat.le_refl _)
   have HF := Lib.hid f4
   clear f4 f3_0
   refine bodyPost_ret (v := stV (.mk kd2 nm2 xs2 bd2 el2 po2) (.slice pa2 xs2.length pc2) (.slice na2 bd2.length nc2) (.slice ba2 el2.length bc2)) (by simp [results, Tryz.results112, go_sem, stV, y0, y1, y2, y3, y4, y5, hsz9]) rfl (ret_ok (x := (.mk kd2 nm2 xs2 bd2 el2 po2)) (by simp only [pStmtAt, D1.out, X2.out, PR.bind, ↓reduceIte, Bool.false_eq_true]) ⟨_, _, _, rfl, HF.out⟩ f1 f2)
 ·rw [hi] at h ⊢
  rw [if_neg (by simp)] at h
  have D1 := Lib.hid hi
  clear hi
  have H1 := Lib.hid h
  have G1 : Hid (w.grownBy W1 (some pb)) := gr_trans (gr_alloc (gr_refl _ _) _) g
  have hs1 : w.heap.size ≤ W1.heap.size := G1.out.size
  have hm1 : w.heap.size + 1 ≤ W1.heap.size := by have := g.size; simpa using this
  have B1_0 : Hid (W1.heap[w.heap.size]? = some (.cells #[.int .i64 0, .string ⟨#[]⟩, .slice none 0 0, .slice none 0 0, .slice none 0 0, .int .i64 0] 30 (0, 0))) := blk_new g (by omega)
  clear h g
  go_wp2_with fail
  refine (met_any H1.out HGD.out 1 (by decide) wReturn).mono ?_
  rintro en W3 ⟨rfl, h, g⟩
  rcases tf (isT 1 wReturn ts) with hi | hi
  ·rw [hi] at h ⊢
   rw [if_pos rfl] at h
   have D3 := Lib.hid hi
   have K3 : Hid (GoodT ts.tail) := (keep_tail HGD.out (isT_kind hi) (by decide)).1
   clear hi
   have H3 := Lib.hid h
   have G3 : Hid (w.grownBy W3 (some pb)) := gr_trans (G1.out) g
   have hs3 : w.heap.size ≤ W3.heap.size := G3.out.size
   have hm3 : W1.heap.size + 0 ≤ W3.heap.size := by have := g.size; simpa using this
   have B3_0 : Hid (W3.heap[w.heap.size]? = some (.cells #[.int .i64 0, .string ⟨#[]⟩, .slice none 0 0, .slice none 0 0, .slice none 0 0, .int .i64 0] 30 (0, 0))) := blk_next B1_0.out (Below.refl _ _) g (by omega)
   clear h g B1_0
   go_wp2_with fail
   refine (value_ok hO hE _ _ H3.out K3.out).mono ?_
   rintro en W4 hR
   cases hx : pValue E ts.tail with
   | bad a e =>
    rw [hx] at hR
    obtain ⟨rfl, hb⟩ := hR
    exact ⟨rfl, ret_bad (by simp only [pStmtAt, D1.out, D3.out, hx, PR.bind, ↓reduceIte, Bool.false_eq_true]) ((grown_to_below (G3.out) (Nat.le_of_lt hpl)).trans hb)⟩
   | ok x4 ts4 =>
    rw [hx] at hR
    have K4 : Hid (GoodT ts4) := ((eats_value hE) _ K3.out _ _ hx).1
    obtain ⟨⟨va, rfl, hL⟩, h, g⟩ := hR
    obtain ⟨pa4, pc4, rfl, _⟩ := hL.at'
    have X4 := Lib.hid hx
    clear hx
    have hL2 := Lib.hid hL
    clear hL
    have H4 := Lib.hid h
    have G4 : Hid (w.grownBy W4 (some pb)) := gr_trans (G3.out) g
    have hs4 : w.heap.size ≤ W4.heap.size := G4.out.size
    have hm4 : W3.heap.size + 0 ≤ W4.heap.size := by have := g.size; simpa using this
    have B4_0 : Hid (W4.heap[w.heap.size]? = some (.cells #[.int .i64 0, .string ⟨#[]⟩, .slice none 0 0, .slice none 0 0, .slice none 0 0, .int .i64 0] 30 (0, 0))) := blk_next B3_0.out (Below.refl _ _) g (by omega)
    clear h g B3_0
    have L4_0 : Hid (Lie (RE (.slice pa4 x4.length pc4) x4) (W3.heap.size) W4.heap.size W4) := hL2
    clear hL2
    have rh := B4_0.out
    have r0 : W4.cell? ⟨w.heap.size, 0, none⟩ = some (.int .i64 0) := by simp [World.cell?, rh]
    have r1 : W4.cell? ⟨w.heap.size, 1, none⟩ = some (.string ⟨#[]⟩) := by simp [World.cell?, rh]
    have r2 : W4.cell? ⟨w.heap.size, 2, none⟩ = some (.slice none 0 0) := by simp [World.cell?, rh]
    have r3 : W4.cell? ⟨w.heap.size, 3, none⟩ = some (.slice none 0 0) := by simp [World.cell?, rh]
    have r4 : W4.cell? ⟨w.heap.size, 4, none⟩ = some (.slice none 0 0) := by simp [World.cell?, rh]
    have r5 : W4.cell? ⟨w.heap.size, 5, none⟩ = some (.int .i64 0) := by simp [World.cell?, rh]
    have rf : ∀ i, W4.frozen? ⟨w.heap.size, i, none⟩ = false := fun i => by simp [World.frozen?, rh]
    have rl : w.heap.size < W4.heap.size := lt_of_block rh
    clear rh
    go_wp2_with fail
    obtain ⟨y0, y1, y2, y3, y4, y5⟩ := six7_cell (a := .int .i64 5) (b := .string ⟨#[]⟩) (c := .slice pa4 x4.length pc4) (d := .slice none 0 0) (e := .slice none 0 0) (f := .int .i64 0) B4_0.out
    have hsz9 : (six7 W4 w.heap.size (.int .i64 5) (.string ⟨#[]⟩) (.slice pa4 x4.length pc4) (.slice none 0 0) (.slice none 0 0) (.int .i64 0)).heap.size = W4.heap.size := six7_size
    have f1 : PAt (six7 W4 w.heap.size (.int .i64 5) (.string ⟨#[]⟩) (.slice pa4 x4.length pc4) (.slice none 0 0) (.slice none 0 0) (.int .i64 0)) pb ts4 d := six_pat H4.out (by omega)
    have f2 : w.grownBy (six7 W4 w.heap.size (.int .i64 5) (.string ⟨#[]⟩) (.slice pa4 x4.length pc4) (.slice none 0 0) (.slice none 0 0) (.int .i64 0)) (some pb) := six_gr (G4.out) (by omega)
    have f3_0 : Lie (RE (.slice pa4 x4.length pc4) x4) (W3.heap.size) W4.heap.size (six7 W4 w.heap.size (.int .i64 5) (.string ⟨#[]⟩) (.slice pa4 x4.length pc4) (.slice none 0 0) (.slice none 0 0) (.int .i64 0)) := six_lie L4_0.out (by omega)
    obtain ⟨W9, hW9⟩ : ∃ W9, six7 W4 w.heap.size (.int .i64 5) (.string ⟨#[]⟩) (.slice pa4 x4.length pc4) (.slice none 0 0) (.slice none 0 0) (.int .i64 0) = W9 := ⟨_, rfl⟩
    rw [hW9] at y0 y1 y2 y3 y4 y5 hsz9 f1 f2 f3_0
    unfold six7 at hW9
    rw [hW9]
    clear hW9
    have f4 : Lie (XS (.mk 5 ⟨#[]⟩ x4 [] [] 0) (.slice pa4 x4.length pc4) (.slice none 0 0) (.slice none 0 0)) w.heap.size W9.heap.size W9 := st_lie (by decide) (f3_0.wider (by omega) f3_0.lt (Nat.le_refl _)) (nil_RS (by omega) (Nat.le_refl _)) (nil_RS (by omega) (Nat.le_refl _))
    have HF := Lib.hid f4
    clear f4 f3_0
    refine bodyPost_ret (v := stV (.mk 5 ⟨#[]⟩ x4 [] [] 0) (.slice pa4 x4.length pc4) (.slice none 0 0) (.slice none 0 0)) (by simp [results, Tryz.results112, go_sem, stV, y0, y1, y2, y3, y4, y5, hsz9]) rfl (ret_ok (x := (.mk 5 ⟨#[]⟩ x4 [] [] 0)) (by simp only [pStmtAt, D1.out, D3.out, X4.out, PR.bind, ↓reduceIte, Bool.false_eq_true]) ⟨_, _, _, rfl, HF.out⟩ f1 f2)
  ·rw [hi] at h ⊢
   rw [if_neg (by simp)] at h
   have D3 := Lib.hid hi
   clear hi
   have H3 := Lib.hid h
   have G3 : Hid (w.grownBy W3 (some pb)) := gr_trans (G1.out) g
   have hs3 : w.heap.size ≤ W3.heap.size := G3.out.size
   have hm3 : W1.heap.size + 0 ≤ W3.heap.size := by have := g.size; simpa using this
   have B3_0 : Hid (W3.heap[w.heap.size]? = some (.cells #[.int .i64 0, .string ⟨#[]⟩, .slice none 0 0, .slice none 0 0, .slice none 0 0, .int .i64 0] 30 (0, 0))) := blk_next B1_0.out (Below.refl _ _) g (by omega)
   clear h g B1_0
   go_wp2_with fail
   refine (met_any H3.out HGD.out 1 (by decide) wThrow).mono ?_
   rintro en W5 ⟨rfl, h, g⟩
   rcases tf (isT 1 wThrow ts) with hi | hi
   ·rw [hi] at h ⊢
    rw [if_pos rfl] at h
    have D5 := Lib.hid hi
    have K5 : Hid (GoodT ts.tail) := (keep_tail HGD.out (isT_kind hi) (by decide)).1
    clear hi
    have H5 := Lib.hid h
    have G5 : Hid (w.grownBy W5 (some pb)) := gr_trans (G3.out) g
    have hs5 : w.heap.size ≤ W5.heap.size := G5.out.size
    have hm5 : W3.heap.size + 0 ≤ W5.heap.size := by have := g.size; simpa using this
    have B5_0 : Hid (W5.heap[w.heap.size]? = some (.cells #[.int .i64 0, .string ⟨#[]⟩, .slice none 0 0, .slice none 0 0, .slice none 0 0, .int .i64 0] 30 (0, 0))) := blk_next B3_0.out (Below.refl _ _) g (by omega)
    clear h g B3_0
    go_wp2_with fail
    refine (value_ok hO hE _ _ H5.out K5.out).mono ?_
    rintro en W6 hR
    cases hx : pValue E ts.tail with
    | bad a e =>
     rw [hx] at hR
     obtain ⟨rfl, hb⟩ := hR
     exact ⟨rfl, ret_bad (by simp only [pStmtAt, D1.out, D3.out, D5.out, hx, PR.bind, ↓reduceIte, Bool.false_eq_true]) ((grown_to_below (G5.out) (Nat.le_of_lt hpl)).trans hb)⟩
    | ok x6 ts6 =>
     rw [hx] at hR
     have K6 : Hid (GoodT ts6) := ((eats_value hE) _ K5.out _ _ hx).1
     obtain ⟨⟨va, rfl, hL⟩, h, g⟩ := hR
     obtain ⟨pa6, pc6, rfl, _⟩ := hL.at'
     have X6 := Lib.hid hx
     clear hx
     have hL2 := Lib.hid hL
     clear hL
     have H6 := Lib.hid h
     have G6 : Hid (w.grownBy W6 (some pb)) := gr_trans (G5.out) g
     have hs6 : w.heap.size ≤ W6.heap.size := G6.out.size
     have hm6 : W5.heap.size + 0 ≤ W6.heap.size := by have := g.size; simpa using this
     have B6_0 : Hid (W6.heap[w.heap.size]? = some (.cells #[.int .i64 0, .string ⟨#[]⟩, .slice none 0 0, .slice none 0 0, .slice none 0 0, .int .i64 0] 30 (0, 0))) := blk_next B5_0.out (Below.refl _ _) g (by omega)
     clear h g B5_0
     have L6_0 : Hid (Lie (RE (.slice pa6 x6.length pc6) x6) (W5.heap.size) W6.heap.size W6) := hL2
     clear hL2
     have rh := B6_0.out
     have r0 : W6.cell? ⟨w.heap.size, 0, none⟩ = some (.int .i64 0) := by simp [World.cell?, rh]
     have r1 : W6.cell? ⟨w.heap.size, 1, none⟩ = some (.string ⟨#[]⟩) := by simp [World.cell?, rh]
     have r2 : W6.cell? ⟨w.heap.size, 2, none⟩ = some (.slice none 0 0) := by simp [World.cell?, rh]
     have r3 : W6.cell? ⟨w.heap.size, 3, none⟩ = some (.slice none 0 0) := by simp [World.cell?, rh]
     have r4 : W6.cell? ⟨w.heap.size, 4, none⟩ = some (.slice none 0 0) := by simp [World.cell?, rh]
     have r5 : W6.cell? ⟨w.heap.size, 5, none⟩ = some (.int .i64 0) := by simp [World.cell?, rh]
     have rf : ∀ i, W6.frozen? ⟨w.heap.size, i, none⟩ = false := fun i => by simp [World.frozen?, rh]
     have rl : w.heap.size < W6.heap.size := lt_of_block rh
     clear rh
     go_wp2_with fail
     obtain ⟨y0, y1, y2, y3, y4, y5⟩ := six7_cell (a := .int .i64 6) (b := .string ⟨#[]⟩) (c := .slice pa6 x6.length pc6) (d := .slice none 0 0) (e := .slice none 0 0) (f := .int .i64 0) B6_0.out
     have hsz9 : (six7 W6 w.heap.size (.int .i64 6) (.string ⟨#[]⟩) (.slice pa6 x6.length pc6) (.slice none 0 0) (.slice none 0 0) (.int .i64 0)).heap.size = W6.heap.size := six7_size
     have f1 : PAt (six7 W6 w.heap.size (.int .i64 6) (.string ⟨#[]⟩) (.slice pa6 x6.length pc6) (.slice none 0 0) (.slice none 0 0) (.int .i64 0)) pb ts6 d := six_pat H6.out (by omega)
     have f2 : w.grownBy (six7 W6 w.heap.size (.int .i64 6) (.string ⟨#[]⟩) (.slice pa6 x6.length pc6) (.slice none 0 0) (.slice none 0 0) (.int .i64 0)) (some pb) := six_gr (G6.out) (by omega)
     have f3_0 : Lie (RE (.slice pa6 x6.length pc6) x6) (W5.heap.size) W6.heap.size (six7 W6 w.heap.size (.int .i64 6) (.string ⟨#[]⟩) (.slice pa6 x6.length pc6) (.slice none 0 0) (.slice none 0 0) (.int .i64 0)) := six_lie L6_0.out (by omega)
     obtain ⟨W9, hW9⟩ : ∃ W9, six7 W6 w.heap.size (.int .i64 6) (.string ⟨#[]⟩) (.slice pa6 x6.length pc6) (.slice none 0 0) (.slice none 0 0) (.int .i64 0) = W9 := ⟨_, rfl⟩
     rw [hW9] at y0 y1 y2 y3 y4 y5 hsz9 f1 f2 f3_0
     unfold six7 at hW9
     rw [hW9]
     clear hW9
     have f4 : Lie (XS (.mk 6 ⟨#[]⟩ x6 [] [] 0) (.slice pa6 x6.length pc6) (.slice none 0 0) (.slice none 0 0)) w.heap.size W9.heap.size W9 := st_lie (by decide) (f3_0.wider (by omega) f3_0.lt (Nat.le_refl _)) (nil_RS (by omega) (Nat.le_refl _)) (nil_RS (by omega) (Nat.le_refl _))
     have HF := Lib.hid f4
     clear f4 f3_0
     refine bodyPost_ret (v := stV (.mk 6 ⟨#[]⟩ x6 [] [] 0) (.slice pa6 x6.length pc6) (.slice none 0 0) (.slice none 0 0)) (by simp [results, Tryz.results112, go_sem, stV, y0, y1, y2, y3, y4, y5, hsz9]) rfl (ret_ok (x := (.mk 6 ⟨#[]⟩ x6 [] [] 0)) (by simp only [pStmtAt, D1.out, D3.out, D5.out, X6.out, PR.bind, ↓reduceIte, Bool.false_eq_true]) ⟨_, _, _, rfl, HF.out⟩ f1 f2)
   ·rw [hi] at h ⊢
    rw [if_neg (by simp)] at h
    have D5 := Lib.hid hi
    clear hi
    have H5 := Lib.hid h
    have G5 : Hid (w.grownBy W5 (some pb)) := gr_trans (G3.out) g
    have hs5 : w.heap.size ≤ W5.heap.size := G5.out.size
    have hm5 : W3.heap.size + 0 ≤ W5.heap.size := by have := g.size; simpa using this
    have B5_0 : Hid (W5.heap[w.heap.size]? = some (.cells #[.int .i64 0, .string ⟨#[]⟩, .slice none 0 0, .slice none 0 0, .slice none 0 0, .int .i64 0] 30 (0, 0))) := blk_next B3_0.out (Below.refl _ _) g (by omega)
    clear h g B3_0
    go_wp2_with fail
    refine (met_any H5.out HGD.out 1 (by decide) wIf).mono ?_
    rintro en W7 ⟨rfl, h, g⟩
    rcases tf (isT 1 wIf ts) with hi | hi
    ·rw [hi] at h ⊢
     rw [if_pos rfl] at h
     have D7 := Lib.hid hi
     have K7 : Hid (GoodT ts.tail) := (keep_tail HGD.out (isT_kind hi) (by decide)).1
     clear hi
     have H7 := Lib.hid h
     have G7 : Hid (w.grownBy W7 (some pb)) := gr_trans (G5.out) g
     have hs7 : w.heap.size ≤ W7.heap.size := G7.out.size
     have hm7 : W5.heap.size + 0 ≤ W7.heap.size := by have := g.size; simpa using this
     have B7_0 : Hid (W7.heap[w.heap.size]? = some (.cells #[.int .i64 0, .string ⟨#[]⟩, .slice none 0 0, .slice none 0 0, .slice none 0 0, .int .i64 0] 30 (0, 0))) := blk_next B5_0.out (Below.refl _ _) g (by omega)
     clear h g B5_0
     go_wp2_with fail
     refine (question_ok hO hE hOB hB _ _ H7.out K7.out).mono ?_
     rintro en W8 hR
     cases hx : pQuestion E B ts.tail with
     | bad a e =>
      rw [hx] at hR
      obtain ⟨rfl, hb⟩ := hR
      exact ⟨rfl, ret_bad (by simp only [pStmtAt, D1.out, D3.out, D5.out, D7.out, hx, PR.bind, ↓reduceIte, Bool.false_eq_true]) ((grown_to_below (G7.out) (Nat.le_of_lt hpl)).trans hb)⟩
     | ok x8 ts8 =>
      rw [hx] at hR
      have K8 : Hid (GoodT ts8) := ((eats_question hE hB) _ K7.out _ _ hx).1
      obtain ⟨⟨va, vb, vc, rfl, hL⟩, h, g⟩ := hR
      obtain ⟨kd8, nm8, xs8, bd8, el8, po8⟩ := x8
      obtain ⟨pa8, pc8, na8, nc8, ba8, bc8, rfl, rfl, rfl⟩ := hL.at'.slices
      have X8 := Lib.hid hx
      clear hx
      have hL2 := Lib.hid hL
      clear hL
      have H8 := Lib.hid h
      have G8 : Hid (w.grownBy W8 (some pb)) := gr_trans (G7.out) g
      have hs8 : w.heap.size ≤ W8.heap.size := G8.out.size
      have hm8 : W7.heap.size + 0 ≤ W8.heap.size := by have := g.size; simpa using this
      have B8_0 : Hid (W8.heap[w.heap.size]? = some (.cells #[.int .i64 0, .string ⟨#[]⟩, .slice none 0 0, .slice none 0 0, .slice none 0 0, .int .i64 0] 30 (0, 0))) := blk_next B7_0.out (Below.refl _ _) g (by omega)
      clear h g B7_0
      have L8_0 : Hid (Lie (XS (.mk kd8 nm8 xs8 bd8 el8 po8) (.slice pa8 xs8.length pc8) (.slice na8 bd8.length nc8) (.slice ba8 el8.length bc8)) (W7.heap.size) W8.heap.size W8) := hL2
      clear hL2
      unfold stV
      have rh := B8_0.out
      have r0 : W8.cell? ⟨w.heap.size, 0, none⟩ = some (.int .i64 0) := by simp [World.cell?, rh]
      have r1 : W8.cell? ⟨w.heap.size, 1, none⟩ = some (.string ⟨#[]⟩) := by simp [World.cell?, rh]
      have r2 : W8.cell? ⟨w.heap.size, 2, none⟩ = some (.slice none 0 0) := by simp [World.cell?, rh]
      have r3 : W8.cell? ⟨w.heap.size, 3, none⟩ = some (.slice none 0 0) := by simp [World.cell?, rh]
      have r4 : W8.cell? ⟨w.heap.size, 4, none⟩ = some (.slice none 0 0) := by simp [World.cell?, rh]
      have r5 : W8.cell? ⟨w.heap.size, 5, none⟩ = some (.int .i64 0) := by simp [World.cell?, rh]
      have rf : ∀ i, W8.frozen? ⟨w.heap.size, i, none⟩ = false := fun i => by simp [World.frozen?, rh]
      have rl : w.heap.size < W8.heap.size := lt_of_block rh
      clear rh
      go_wp2_with fail
      obtain ⟨y0, y1, y2, y3, y4, y5⟩ := six7_cell (a := .int .i64 (kd8 : Int)) (b := .string nm8) (c := .slice pa8 xs8.length pc8) (d := .slice na8 bd8.length nc8) (e := .slice ba8 el8.length bc8) (f := .int .i64 po8) B8_0.out
      have hsz9 : (six7 W8 w.heap.size (.int .i64 (kd8 : Int)) (.string nm8) (.slice pa8 xs8.length pc8) (.slice na8 bd8.length nc8) (.slice ba8 el8.length bc8) (.int .i64 po8)).heap.size = W8.heap.size := six7_size
      have f1 : PAt (six7 W8 w.heap.size (.int .i64 (kd8 : Int)) (.string nm8) (.slice pa8 xs8.length pc8) (.slice na8 bd8.length nc8) (.slice ba8 el8.length bc8) (.int .i64 po8)) pb ts8 d := six_pat H8.out (by omega)
      have f2 : w.grownBy (six7 W8 w.heap.size (.int .i64 (kd8 : Int)) (.string nm8) (.slice pa8 xs8.length pc8) (.slice na8 bd8.length nc8) (.slice ba8 el8.length bc8) (.int .i64 po8)) (some pb) := six_gr (G8.out) (by omega)
      have f3_0 : Lie (XS (.mk kd8 nm8 xs8 bd8 el8 po8) (.slice pa8 xs8.length pc8) (.slice na8 bd8.length nc8) (.slice ba8 el8.length bc8)) (W7.heap.size) W8.heap.size (six7 W8 w.heap.size (.int .i64 (kd8 : Int)) (.string nm8) (.slice pa8 xs8.length pc8) (.slice na8 bd8.length nc8) (.slice ba8 el8.length bc8) (.int .i64 po8)) := six_lie L8_0.out (by omega)
      obtain ⟨W9, hW9⟩ : ∃ W9, six7 W8 w.heap.size (.int .i64 (kd8 : Int)) (.string nm8) (.slice pa8 xs8.length pc8) (.slice na8 bd8.length nc8) (.slice ba8 el8.length bc8) (.int .i64 po8) = W9 := ⟨_, rfl⟩
      rw [hW9] at y0 y1 y2 y3 y4 y5 hsz9 f1 f2 f3_0
      unfold six7 at hW9
      rw [hW9]
      clear hW9
      have f4 := f3_0.wider (s' := w.heap.size) (e' := W9.heap.size) (by omega) f3_0.lt (Nat.le_refl _)
      have HF := Lib.hid f4
      clear f4 f3_0
      refine bodyPost_ret (v := stV (.mk kd8 nm8 xs8 bd8 el8 po8) (.slice pa8 xs8.length pc8) (.slice na8 bd8.length nc8) (.slice ba8 el8.length bc8)) (by simp [results, Tryz.results112, go_sem, stV, y0, y1, y2, y3, y4, y5, hsz9]) rfl (ret_ok (x := (.mk kd8 nm8 xs8 bd8 el8 po8)) (by simp only [pStmtAt, D1.out, D3.out, D5.out, D7.out, X8.out, PR.bind, ↓reduceIte, Bool.false_eq_true]) ⟨_, _, _, rfl, HF.out⟩ f1 f2)
    ·rw [hi] at h ⊢
     rw [if_neg (by simp)] at h
     have D7 := Lib.hid hi
     clear hi
     have H7 := Lib.hid h
     have G7 : Hid (w.grownBy W7 (some pb)) := gr_trans (G5.out) g
     have hs7 : w.heap.size ≤ W7.heap.size := G7.out.size
     have hm7 : W5.heap.size + 0 ≤ W7.heap.size := by have := g.size; simpa using this
     have B7_0 : Hid (W7.heap[w.heap.size]? = some (.cells #[.int .i64 0, .string ⟨#[]⟩, .slice none 0 0, .slice none 0 0, .slice none 0 0, .int .i64 0] 30 (0, 0))) := blk_next B5_0.out (Below.refl _ _) g (by omega)
     clear h g B5_0
     go_wp2_with fail
     refine (met_any H7.out HGD.out 1 (by decide) wWhile).mono ?_
     rintro en W9 ⟨rfl, h, g⟩
     rcases tf (isT 1 wWhile ts) with hi | hi
     ·rw [hi] at h ⊢
      rw [if_pos rfl] at h
      have D9 := Lib.hid hi
      have K9 : Hid (GoodT ts.tail) := (keep_tail HGD.out (isT_kind hi) (by decide)).1
      clear hi
      have H9 := Lib.hid h
      have G9 : Hid (w.grownBy W9 (some pb)) := gr_trans (G7.out) g
      have hs9 : w.heap.size ≤ W9.heap.size := G9.out.size
      have hm9 : W7.heap.size + 0 ≤ W9.heap.size := by have := g.size; simpa using this
      have B9_0 : Hid (W9.heap[w.heap.size]? = some (.cells #[.int .i64 0, .string ⟨#[]⟩, .slice none 0 0, .slice none 0 0, .slice none 0 0, .int .i64 0] 30 (0, 0))) := blk_next B7_0.out (Below.refl _ _) g (by omega)
      clear h g B7_0
      go_wp2_with fail
      refine (hO _ _ H9.out K9.out).mono ?_
      rintro en W10 hR
      cases hx : E ts.tail with
      | bad a e =>
       rw [hx] at hR
       obtain ⟨rfl, hb⟩ := hR
       exact ⟨rfl, ret_bad (by simp only [pStmtAt, D1.out, D3.out, D5.out, D7.out, D9.out, hx, PR.bind, ↓reduceIte, Bool.false_eq_true]) ((grown_to_below (G9.out) (Nat.le_of_lt hpl)).trans hb)⟩
      | ok x10 ts10 =>
       rw [hx] at hR
       have K10 : Hid (GoodT ts10) := (hE _ K9.out _ _ hx).1
       obtain ⟨⟨va, vb, vc, rfl, hL⟩, h, g⟩ := hR
       obtain ⟨op10, num10, text10, ps10, pm10, bd10⟩ := x10
       obtain ⟨pa10, pc10, na10, nc10, ba10, bc10, rfl, rfl, rfl⟩ := hL.at'.slices
       have X10 := Lib.hid hx
       clear hx
       have hL2 := Lib.hid hL
       clear hL
       have H10 := Lib.hid h
       have G10 : Hid (w.grownBy W10 (some pb)) := gr_trans (G9.out) g
       have hs10 : w.heap.size ≤ W10.heap.size := G10.out.size
       have hm10 : W9.heap.size + 0 ≤ W10.heap.size := by have := g.size; simpa using this
       have B10_0 : Hid (W10.heap[w.heap.size]? = some (.cells #[.int .i64 0, .string ⟨#[]⟩, .slice none 0 0, .slice none 0 0, .slice none 0 0, .int .i64 0] 30 (0, 0))) := blk_next B9_0.out (Below.refl _ _) g (by omega)
       clear h g B9_0
       have L10_0 : Hid (Lie (XE (.mk op10 num10 text10 ps10 pm10 bd10) (.slice pa10 ps10.length pc10) (.slice na10 pm10.length nc10) (.slice ba10 bd10.length bc10)) (W9.heap.size) W10.heap.size W10) := hL2
       clear hL2
       unfold exV
       go_wp2_with fail
       refine (hOB _ _ (H10.out.alloc _) K10.out).mono ?_
       rintro en W11 hR
       cases hx : B ts10 with
       | bad a e =>
        rw [hx] at hR
        obtain ⟨rfl, hb⟩ := hR
        exact ⟨rfl, ret_bad (by simp only [pStmtAt, D1.out, D3.out, D5.out, D7.out, D9.out, X10.out, hx, PR.bind, ↓reduceIte, Bool.false_eq_true]) ((grown_to_below (gr_alloc (G10.out) _) (Nat.le_of_lt hpl)).trans hb)⟩
       | ok x11 ts11 =>
        rw [hx] at hR
        have K11 : Hid (GoodT ts11) := (hB _ K10.out _ _ hx).1
        obtain ⟨⟨va, rfl, hL⟩, h, g⟩ := hR
        obtain ⟨pa11, pc11, rfl, _⟩ := hL.at'
        have X11 := Lib.hid hx
        clear hx
        have hL2 : Hid (Lie (RS (.slice pa11 x11.length pc11) x11) (W10.heap.size + 1) W11.heap.size W11) := by have h9 := hL; simp only [World.size_alloc] at h9; exact h9
        clear hL
        have H11 := Lib.hid h
        have G11 : Hid (w.grownBy W11 (some pb)) := gr_trans (gr_alloc (G10.out) _) g
        have hs11 : w.heap.size ≤ W11.heap.size := G11.out.size
        have hm11 : W10.heap.size + 1 ≤ W11.heap.size := by have := g.size; simpa using this
        have B11_0 : Hid (W11.heap[w.heap.size]? = some (.cells #[.int .i64 0, .string ⟨#[]⟩, .slice none 0 0, .slice none 0 0, .slice none 0 0, .int .i64 0] 30 (0, 0))) := blk_next B10_0.out ((Below.refl _ _).alloc (Nat.le_refl _) _) g (by omega)
        have B11_1 : Hid (W11.heap[W10.heap.size]? = some (.cells #[.int .i64 (op10 : Int), .int .i64 num10, .string text10, .slice pa10 ps10.length pc10, .slice na10 pm10.length nc10, .slice ba10 bd10.length bc10] 35 (0, 0))) := blk_new g (by omega)
        have L11_0 : Hid (Lie (XE (.mk op10 num10 text10 ps10 pm10 bd10) (.slice pa10 ps10.length pc10) (.slice na10 pm10.length nc10) (.slice ba10 bd10.length bc10)) (W9.heap.size) W10.heap.size W11) := ((L10_0.out.alloc _)).gr g (by omega)
        clear h g B10_0 L10_0
        have L11_1 : Hid (Lie (RS (.slice pa11 x11.length pc11) x11) (W10.heap.size + 1) W11.heap.size W11) := hL2
        clear hL2
        have rh := B11_0.out
        have r0 : W11.cell? ⟨w.heap.size, 0, none⟩ = some (.int .i64 0) := by simp [World.cell?, rh]
        have r1 : W11.cell? ⟨w.heap.size, 1, none⟩ = some (.string ⟨#[]⟩) := by simp [World.cell?, rh]
        have r2 : W11.cell? ⟨w.heap.size, 2, none⟩ = some (.slice none 0 0) := by simp [World.cell?, rh]
        have r3 : W11.cell? ⟨w.heap.size, 3, none⟩ = some (.slice none 0 0) := by simp [World.cell?, rh]
        have r4 : W11.cell? ⟨w.heap.size, 4, none⟩ = some (.slice none 0 0) := by simp [World.cell?, rh]
        have r5 : W11.cell? ⟨w.heap.size, 5, none⟩ = some (.int .i64 0) := by simp [World.cell?, rh]
        have rf : ∀ i, W11.frozen? ⟨w.heap.size, i, none⟩ = false := fun i => by simp [World.frozen?, rh]
        have rl : w.heap.size < W11.heap.size := lt_of_block rh
        clear rh
        go_wp2_with fail
        obtain ⟨y0, y1, y2, y3, y4, y5⟩ := six7_cell (a := .int .i64 4) (b := .string ⟨#[]⟩) (c := .slice (some ⟨W10.heap.size, 0, none⟩) 1 1) (d := .slice pa11 x11.length pc11) (e := .slice none 0 0) (f := .int .i64 0) B11_0.out
        have hsz9 : (six7 W11 w.heap.size (.int .i64 4) (.string ⟨#[]⟩) (.slice (some ⟨W10.heap.size, 0, none⟩) 1 1) (.slice pa11 x11.length pc11) (.slice none 0 0) (.int .i64 0)).heap.size = W11.heap.size := six7_size
        have f1 : PAt (six7 W11 w.heap.size (.int .i64 4) (.string ⟨#[]⟩) (.slice (some ⟨W10.heap.size, 0, none⟩) 1 1) (.slice pa11 x11.length pc11) (.slice none 0 0) (.int .i64 0)) pb ts11 d := six_pat H11.out (by omega)
        have f2 : w.grownBy (six7 W11 w.heap.size (.int .i64 4) (.string ⟨#[]⟩) (.slice (some ⟨W10.heap.size, 0, none⟩) 1 1) (.slice pa11 x11.length pc11) (.slice none 0 0) (.int .i64 0)) (some pb) := six_gr (G11.out) (by omega)
        have f3_0 : Lie (XE (.mk op10 num10 text10 ps10 pm10 bd10) (.slice pa10 ps10.length pc10) (.slice na10 pm10.length nc10) (.slice ba10 bd10.length bc10)) (W9.heap.size) W10.heap.size (six7 W11 w.heap.size (.int .i64 4) (.string ⟨#[]⟩) (.slice (some ⟨W10.heap.size, 0, none⟩) 1 1) (.slice pa11 x11.length pc11) (.slice none 0 0) (.int .i64 0)) := six_lie L11_0.out (by omega)
        have f3_1 : Lie (RS (.slice pa11 x11.length pc11) x11) (W10.heap.size + 1) W11.heap.size (six7 W11 w.heap.size (.int .i64 4) (.string ⟨#[]⟩) (.slice (some ⟨W10.heap.size, 0, none⟩) 1 1) (.slice pa11 x11.length pc11) (.slice none 0 0) (.int .i64 0)) := six_lie L11_1.out (by omega)
        have f5_1 : (six7 W11 w.heap.size (.int .i64 4) (.string ⟨#[]⟩) (.slice (some ⟨W10.heap.size, 0, none⟩) 1 1) (.slice pa11 x11.length pc11) (.slice none 0 0) (.int .i64 0)).heap[W10.heap.size]? = some (.cells #[.int .i64 (op10 : Int), .int .i64 num10, .string text10, .slice pa10 ps10.length pc10, .slice na10 pm10.length nc10, .slice ba10 bd10.length bc10] 35 (0, 0)) := (six7_other (by omega)).trans B11_1.out
        obtain ⟨W9, hW9⟩ : ∃ W9, six7 W11 w.heap.size (.int .i64 4) (.string ⟨#[]⟩) (.slice (some ⟨W10.heap.size, 0, none⟩) 1 1) (.slice pa11 x11.length pc11) (.slice none 0 0) (.int .i64 0) = W9 := ⟨_, rfl⟩
        rw [hW9] at y0 y1 y2 y3 y4 y5 hsz9 f1 f2 f3_0 f3_1 f5_1
        unfold six7 at hW9
        rw [hW9]
        clear hW9
        have f4 : Lie (XS (.mk 4 ⟨#[]⟩ [(.mk op10 num10 text10 ps10 pm10 bd10)] x11 [] 0) (.slice (some ⟨W10.heap.size, 0, none⟩) 1 1) (.slice pa11 x11.length pc11) (.slice none 0 0)) w.heap.size W9.heap.size W9 := st_lie (by decide) ((row_blk (n := 1) (esc1 f3_0) f5_1 f3_0.le (by omega) rfl (by decide) (by decide)).wider (by omega) (by omega) (Nat.le_refl _)) (f3_1.wider (by omega) f3_1.lt (Nat.le_refl _)) (nil_RS (by omega) (Nat.le_refl _))
        have HF := Lib.hid f4
        clear f4 f3_0 f3_1 f5_1
        refine bodyPost_ret (v := stV (.mk 4 ⟨#[]⟩ [(.mk op10 num10 text10 ps10 pm10 bd10)] x11 [] 0) (.slice (some ⟨W10.heap.size, 0, none⟩) 1 1) (.slice pa11 x11.length pc11) (.slice none 0 0)) (by simp [results, Tryz.results112, go_sem, stV, y0, y1, y2, y3, y4, y5, hsz9]) rfl (ret_ok (x := (.mk 4 ⟨#[]⟩ [(.mk op10 num10 text10 ps10 pm10 bd10)] x11 [] 0)) (by simp only [pStmtAt, D1.out, D3.out, D5.out, D7.out, D9.out, X10.out, X11.out, PR.bind, ↓reduceIte, Bool.false_eq_true]) ⟨_, _, _, rfl, HF.out⟩ f1 f2)
     ·rw [hi] at h ⊢
      rw [if_neg (by simp)] at h
      have D9 := Lib.hid hi
      clear hi
      have H9 := Lib.hid h
      have G9 : Hid (w.grownBy W9 (some pb)) := gr_trans (G7.out) g
      have hs9 : w.heap.size ≤ W9.heap.size := G9.out.size
      have hm9 : W7.heap.size + 0 ≤ W9.heap.size := by have := g.size; simpa using this
      have B9_0 : Hid (W9.heap[w.heap.size]? = some (.cells #[.int .i64 0, .string ⟨#[]⟩, .slice none 0 0, .slice none 0 0, .slice none 0 0, .int .i64 0] 30 (0, 0))) := blk_next B7_0.out (Below.refl _ _) g (by omega)
      clear h g B7_0
      go_wp2_with fail
      refine (met_any H9.out HGD.out 1 (by decide) wTry).mono ?_
      rintro en W12 ⟨rfl, h, g⟩
      rcases tf (isT 1 wTry ts) with hi | hi
      ·rw [hi] at h ⊢
       rw [if_pos rfl] at h
       have D12 := Lib.hid hi
       have K12 : Hid (GoodT ts.tail) := (keep_tail HGD.out (isT_kind hi) (by decide)).1
       clear hi
       have H12 := Lib.hid h
       have G12 : Hid (w.grownBy W12 (some pb)) := gr_trans (G9.out) g
       have hs12 : w.heap.size ≤ W12.heap.size := G12.out.size
       have hm12 : W9.heap.size + 0 ≤ W12.heap.size := by have := g.size; simpa using this
       have B12_0 : Hid (W12.heap[w.heap.size]? = some (.cells #[.int .i64 0, .string ⟨#[]⟩, .slice none 0 0, .slice none 0 0, .slice none 0 0, .int .i64 0] 30 (0, 0))) := blk_next B9_0.out (Below.refl _ _) g (by omega)
       clear h g B9_0
       go_wp2_with fail
       refine (try_ok hOB hB _ _ H12.out K12.out).mono ?_
       rintro en W13 hR
       cases hx : pTry B ts.tail with
       | bad a e =>
        rw [hx] at hR
        obtain ⟨rfl, hb⟩ := hR
        exact ⟨rfl, ret_bad (by simp only [pStmtAt, D1.out, D3.out, D5.out, D7.out, D9.out, D12.out, hx, PR.bind, ↓reduceIte, Bool.false_eq_true]) ((grown_to_below (G12.out) (Nat.le_of_lt hpl)).trans hb)⟩
       | ok x13 ts13 =>
        rw [hx] at hR
        have K13 : Hid (GoodT ts13) := ((eats_try hB) _ K12.out _ _ hx).1
        obtain ⟨⟨va, vb, vc, rfl, hL⟩, h, g⟩ := hR
        obtain ⟨kd13, nm13, xs13, bd13, el13, po13⟩ := x13
        obtain ⟨pa13, pc13, na13, nc13, ba13, bc13, rfl, rfl, rfl⟩ := hL.at'.slices
        have X13 := Lib.hid hx
        clear hx
        have hL2 := Lib.hid hL
        clear hL
        have H13 := Lib.hid h
        have G13 : Hid (w.grownBy W13 (some pb)) := gr_trans (G12.out) g
        have hs13 : w.heap.size ≤ W13.heap.size := G13.out.size
        have hm13 : W12.heap.size + 0 ≤ W13.heap.size := by have := g.size; simpa using this
        have B13_0 : Hid (W13.heap[w.heap.size]? = some (.cells #[.int .i64 0, .string ⟨#[]⟩, .slice none 0 0, .slice none 0 0, .slice none 0 0, .int .i64 0] 30 (0, 0))) := blk_next B12_0.out (Below.refl _ _) g (by omega)
        clear h g B12_0
        have L13_0 : Hid (Lie (XS (.mk kd13 nm13 xs13 bd13 el13 po13) (.slice pa13 xs13.length pc13) (.slice na13 bd13.length nc13) (.slice ba13 el13.length bc13)) (W12.heap.size) W13.heap.size W13) := hL2
        clear hL2
        unfold stV
        have rh := B13_0.out
        have r0 : W13.cell? ⟨w.heap.size, 0, none⟩ = some (.int .i64 0) := by simp [World.cell?, rh]
        have r1 : W13.cell? ⟨w.heap.size, 1, none⟩ = some (.string ⟨#[]⟩) := by simp [World.cell?, rh]
        have r2 : W13.cell? ⟨w.heap.size, 2, none⟩ = some (.slice none 0 0) := by simp [World.cell?, rh]
        have r3 : W13.cell? ⟨w.heap.size, 3, none⟩ = some (.slice none 0 0) := by simp [World.cell?, rh]
        have r4 : W13.cell? ⟨w.heap.size, 4, none⟩ = some (.slice none 0 0) := by simp [World.cell?, rh]
        have r5 : W13.cell? ⟨w.heap.size, 5, none⟩ = some (.int .i64 0) := by simp [World.cell?, rh]
        have rf : ∀ i, W13.frozen? ⟨w.heap.size, i, none⟩ = false := fun i => by simp [World.frozen?, rh]
        have rl : w.heap.size < W13.heap.size := lt_of_block rh
        clear rh
        go_wp2_with fail
        obtain ⟨y0, y1, y2, y3, y4, y5⟩ := six7_cell (a := .int .i64 (kd13 : Int)) (b := .string nm13) (c := .slice pa13 xs13.length pc13) (d := .slice na13 bd13.length nc13) (e := .slice ba13 el13.length bc13) (f := .int .i64 po13) B13_0.out
        have hsz9 : (six7 W13 w.heap.size (.int .i64 (kd13 : Int)) (.string nm13) (.slice pa13 xs13.length pc13) (.slice na13 bd13.length nc13) (.slice ba13 el13.length bc13) (.int .i64 po13)).heap.size = W13.heap.size := six7_size
        have f1 : PAt (six7 W13 w.heap.size (.int .i64 (kd13 : Int)) (.string nm13) (.slice pa13 xs13.length pc13) (.slice na13 bd13.length nc13) (.slice ba13 el13.length bc13) (.int .i64 po13)) pb ts13 d := six_pat H13.out (by omega)
        have f2 : w.grownBy (six7 W13 w.heap.size (.int .i64 (kd13 : Int)) (.string nm13) (.slice pa13 xs13.length pc13) (.slice na13 bd13.length nc13) (.slice ba13 el13.length bc13) (.int .i64 po13)) (some pb) := six_gr (G13.out) (by omega)
        have f3_0 : Lie (XS (.mk kd13 nm13 xs13 bd13 el13 po13) (.slice pa13 xs13.length pc13) (.slice na13 bd13.length nc13) (.slice ba13 el13.length bc13)) (W12.heap.size) W13.heap.size (six7 W13 w.heap.size (.int .i64 (kd13 : Int)) (.string nm13) (.slice pa13 xs13.length pc13) (.slice na13 bd13.length nc13) (.slice ba13 el13.length bc13) (.int .i64 po13)) := six_lie L13_0.out (by omega)
        obtain ⟨W9, hW9⟩ : ∃ W9, six7 W13 w.heap.size (.int .i64 (kd13 : Int)) (.string nm13) (.slice pa13 xs13.length pc13) (.slice na13 bd13.length nc13) (.slice ba13 el13.length bc13) (.int .i64 po13) = W9 := ⟨_, rfl⟩
        rw [hW9] at y0 y1 y2 y3 y4 y5 hsz9 f1 f2 f3_0
        unfold six7 at hW9
        rw [hW9]
        clear hW9
        have f4 := f3_0.wider (s' := w.heap.size) (e' := W9.heap.size) (by omega) f3_0.lt (Nat.le_refl _)
        have HF := Lib.hid f4
        clear f4 f3_0
        refine bodyPost_ret (v := stV (.mk kd13 nm13 xs13 bd13 el13 po13) (.slice pa13 xs13.length pc13) (.slice na13 bd13.length nc13) (.slice ba13 el13.length bc13)) (by simp [results, Tryz.results112, go_sem, stV, y0, y1, y2, y3, y4, y5, hsz9]) rfl (ret_ok (x := (.mk kd13 nm13 xs13 bd13 el13 po13)) (by simp only [pStmtAt, D1.out, D3.out, D5.out, D7.out, D9.out, D12.out, X13.out, PR.bind, ↓reduceIte, Bool.false_eq_true]) ⟨_, _, _, rfl, HF.out⟩ f1 f2)
      ·rw [hi] at h ⊢
       rw [if_neg (by simp)] at h
       have D12 := Lib.hid hi
       clear hi
       have H12 := Lib.hid h
       have G12 : Hid (w.grownBy W12 (some pb)) := gr_trans (G9.out) g
       have hs12 : w.heap.size ≤ W12.heap.size := G12.out.size
       have hm12 : W9.heap.size + 0 ≤ W12.heap.size := by have := g.size; simpa using this
       have B12_0 : Hid (W12.heap[w.heap.size]? = some (.cells #[.int .i64 0, .string ⟨#[]⟩, .slice none 0 0, .slice none 0 0, .slice none 0 0, .int .i64 0] 30 (0, 0))) := blk_next B9_0.out (Below.refl _ _) g (by omega)
       clear h g B9_0
       go_wp2_with fail
       refine (hS _ _ at0 H12.out HGD.out).mono ?_
       rintro en W14 hR
       cases hx : pSimple E at0 ts with
       | bad a e =>
        rw [hx] at hR
        obtain ⟨rfl, hb⟩ := hR
        exact ⟨rfl, ret_bad (by simp only [pStmtAt, D1.out, D3.out, D5.out, D7.out, D9.out, D12.out, hx, PR.bind, ↓reduceIte, Bool.false_eq_true]) ((grown_to_below (G12.out) (Nat.le_of_lt hpl)).trans hb)⟩
       | ok x14 ts14 =>
        rw [hx] at hR
        have K14 : Hid (GoodT ts14) := ((eats_simple hE at0) _ HGD.out _ _ hx).1
        obtain ⟨⟨va, vb, vc, rfl, hL⟩, h, g⟩ := hR
        obtain ⟨kd14, nm14, xs14, bd14, el14, po14⟩ := x14
        obtain ⟨pa14, pc14, na14, nc14, ba14, bc14, rfl, rfl, rfl⟩ := hL.at'.slices
        have X14 := Lib.hid hx
        clear hx
        have hL2 := Lib.hid hL
        clear hL
        have H14 := Lib.hid h
        have G14 : Hid (w.grownBy W14 (some pb)) := gr_trans (G12.out) g
        have hs14 : w.heap.size ≤ W14.heap.size := G14.out.size
        have hm14 : W12.heap.size + 0 ≤ W14.heap.size := by have := g.size; simpa using this
        have B14_0 : Hid (W14.heap[w.heap.size]? = some (.cells #[.int .i64 0, .string ⟨#[]⟩, .slice none 0 0, .slice none 0 0, .slice none 0 0, .int .i64 0] 30 (0, 0))) := blk_next B12_0.out (Below.refl _ _) g (by omega)
        clear h g B12_0
        have L14_0 : Hid (Lie (XS (.mk kd14 nm14 xs14 bd14 el14 po14) (.slice pa14 xs14.length pc14) (.slice na14 bd14.length nc14) (.slice ba14 el14.length bc14)) (W12.heap.size) W14.heap.size W14) := hL2
        clear hL2
        unfold stV
        have rh := B14_0.out
        have r0 : W14.cell? ⟨w.heap.size, 0, none⟩ = some (.int .i64 0) := by simp [World.cell?, rh]
        have r1 : W14.cell? ⟨w.heap.size, 1, none⟩ = some (.string ⟨#[]⟩) := by simp [World.cell?, rh]
        have r2 : W14.cell? ⟨w.heap.size, 2, none⟩ = some (.slice none 0 0) := by simp [World.cell?, rh]
        have r3 : W14.cell? ⟨w.heap.size, 3, none⟩ = some (.slice none 0 0) := by simp [World.cell?, rh]
        have r4 : W14.cell? ⟨w.heap.size, 4, none⟩ = some (.slice none 0 0) := by simp [World.cell?, rh]
        have r5 : W14.cell? ⟨w.heap.size, 5, none⟩ = some (.int .i64 0) := by simp [World.cell?, rh]
        have rf : ∀ i, W14.frozen? ⟨w.heap.size, i, none⟩ = false := fun i => by simp [World.frozen?, rh]
        have rl : w.heap.size < W14.heap.size := lt_of_block rh
        clear rh
        go_wp2_with fail
        obtain ⟨y0, y1, y2, y3, y4, y5⟩ := six7_cell (a := .int .i64 (kd14 : Int)) (b := .string nm14) (c := .slice pa14 xs14.length pc14) (d := .slice na14 bd14.length nc14) (e := .slice ba14 el14.length bc14) (f := .int .i64 po14) B14_0.out
        have hsz9 : (six7 W14 w.heap.size (.int .i64 (kd14 : Int)) (.string nm14) (.slice pa14 xs14.length pc14) (.slice na14 bd14.length nc14) (.slice ba14 el14.length bc14) (.int .i64 po14)).heap.size = W14.heap.size := six7_size
        have f1 : PAt (six7 W14 w.heap.size (.int .i64 (kd14 : Int)) (.string nm14) (.slice pa14 xs14.length pc14) (.slice na14 bd14.length nc14) (.slice ba14 el14.length bc14) (.int .i64 po14)) pb ts14 d := six_pat H14.out (by omega)
        have f2 : w.grownBy (six7 W14 w.heap.size (.int .i64 (kd14 : Int)) (.string nm14) (.slice pa14 xs14.length pc14) (.slice na14 bd14.length nc14) (.slice ba14 el14.length bc14) (.int .i64 po14)) (some pb) := six_gr (G14.out) (by omega)
        have f3_0 : Lie (XS (.mk kd14 nm14 xs14 bd14 el14 po14) (.slice pa14 xs14.length pc14) (.slice na14 bd14.length nc14) (.slice ba14 el14.length bc14)) (W12.heap.size) W14.heap.size (six7 W14 w.heap.size (.int .i64 (kd14 : Int)) (.string nm14) (.slice pa14 xs14.length pc14) (.slice na14 bd14.length nc14) (.slice ba14 el14.length bc14) (.int .i64 po14)) := six_lie L14_0.out (by omega)
        obtain ⟨W9, hW9⟩ : ∃ W9, six7 W14 w.heap.size (.int .i64 (kd14 : Int)) (.string nm14) (.slice pa14 xs14.length pc14) (.slice na14 bd14.length nc14) (.slice ba14 el14.length bc14) (.int .i64 po14) = W9 := ⟨_, rfl⟩
        rw [hW9] at y0 y1 y2 y3 y4 y5 hsz9 f1 f2 f3_0
        unfold six7 at hW9
        rw [hW9]
        clear hW9
        have f4 := f3_0.wider (s' := w.heap.size) (e' := W9.heap.size) (by omega) f3_0.lt (Nat.le_refl _)
        have HF := Lib.hid f4
        clear f4 f3_0
        refine bodyPost_ret (v := stV (.mk kd14 nm14 xs14 bd14 el14 po14) (.slice pa14 xs14.length pc14) (.slice na14 bd14.length nc14) (.slice ba14 el14.length bc14)) (by simp [results, Tryz.results112, go_sem, stV, y0, y1, y2, y3, y4, y5, hsz9]) rfl (ret_ok (x := (.mk kd14 nm14 xs14 bd14 el14 po14)) (by simp only [pStmtAt, D1.out, D3.out, D5.out, D7.out, D9.out, D12.out, X14.out, PR.bind, ↓reduceIte, Bool.false_eq_true]) ⟨_, _, _, rfl, HF.out⟩ f1 f2)
theorem Lie.pos9 {kd : Nat} {nm : ByteArray} {xs : List TE} {bd el : List TS} {po : Int} {a b c : Value} {s e : Nat} {W : World} (h : Lie (XS (.mk kd nm xs bd el po) a b c) s e W) (po' : Int) : Lie (XS (.mk kd nm xs bd el po') a b c) s e W := ⟨stab_XS _ _ _ _, h.le, h.lt, h.at'⟩
theorem stmt_ok {pb d : Nat} {E : List Tok → PR TE} {B : List Tok → PR (List TS)} (hO : OkE pb d E) (hE : Eats E) (hOB : OkB pb d B) (hB : Eats B) (hS : OkSim pb d (pSimple E)) : OkS pb d (pStmt E B) := by
 intro w ts hP hG
 have hpl := hP.lt
 have HP := Lib.hid hP
 have HGD := Lib.hid hG
 obtain ⟨t, l, g0, o0, cap0, rfl, c0, c1, q0, q1, q2, q3, h1, h2, f0, hg0⟩ := hP.open hG
 unfold maxLen at h2
 have hg0l : g0 < w.heap.size := by omega
 clear hP hG
 go_enter Tryz.func91, Tryz.ntmps91
 go_wp2_with fail
 refine (stmtAt_ok hO hE hOB hB hS _ _ t.pos (HP.out.alloc _) HGD.out).mono ?_
 rintro en W1 hR
 cases hx : pStmtAt E B t.pos (t :: l) with
 | bad a e =>
  rw [hx] at hR
  obtain ⟨rfl, hb⟩ := hR
  exact ⟨rfl, ret_bad (by simp only [pStmt, hd0, List.headD_cons, hx, PR.bind, ↓reduceIte, Bool.false_eq_true]) ((grown_to_below (gr_alloc (gr_refl _ _) _) (Nat.le_of_lt hpl)).trans hb)⟩
 | ok x1 ts1 =>
  rw [hx] at hR
  have K1 : Hid (GoodT ts1) := ((eats_stmtAt hE hB t.pos) _ HGD.out _ _ hx).1
  obtain ⟨⟨va, vb, vc, rfl, hL⟩, h, g⟩ := hR
  obtain ⟨kd1, nm1, xs1, bd1, el1, po1⟩ := x1
  obtain ⟨pa1, pc1, na1, nc1, ba1, bc1, rfl, rfl, rfl⟩ := hL.at'.slices
  have X1 := Lib.hid hx
  clear hx
  have hL2 : Hid (Lie (XS (.mk kd1 nm1 xs1 bd1 el1 po1) (.slice pa1 xs1.length pc1) (.slice na1 bd1.length nc1) (.slice ba1 el1.length bc1)) (w.heap.size + 1) W1.heap.size W1) := by have h9 := hL; simp only [World.size_alloc] at h9; exact h9
  clear hL
  have H1 := Lib.hid h
  have G1 : Hid (w.grownBy W1 (some pb)) := gr_trans (gr_alloc (gr_refl _ _) _) g
  have hs1 : w.heap.size ≤ W1.heap.size := G1.out.size
  have hm1 : w.heap.size + 1 ≤ W1.heap.size := by have := g.size; simpa using this
  have B1_0 : Hid (W1.heap[w.heap.size]? = some (.cells #[.int .i64 0, .string ⟨#[]⟩, .slice none 0 0, .slice none 0 0, .slice none 0 0, .int .i64 0] 30 (0, 0))) := blk_new g (by omega)
  clear h g
  have L1_0 : Hid (Lie (XS (.mk kd1 nm1 xs1 bd1 el1 po1) (.slice pa1 xs1.length pc1) (.slice na1 bd1.length nc1) (.slice ba1 el1.length bc1)) (w.heap.size + 1) W1.heap.size W1) := hL2
  clear hL2
  unfold stV
  clear c0 c1 q0 q1 q2 q3 h1 h2 f0 hg0 hg0l
  have rh := B1_0.out
  have r0 : W1.cell? ⟨w.heap.size, 0, none⟩ = some (.int .i64 0) := by simp [World.cell?, rh]
  have r1 : W1.cell? ⟨w.heap.size, 1, none⟩ = some (.string ⟨#[]⟩) := by simp [World.cell?, rh]
  have r2 : W1.cell? ⟨w.heap.size, 2, none⟩ = some (.slice none 0 0) := by simp [World.cell?, rh]
  have r3 : W1.cell? ⟨w.heap.size, 3, none⟩ = some (.slice none 0 0) := by simp [World.cell?, rh]
  have r4 : W1.cell? ⟨w.heap.size, 4, none⟩ = some (.slice none 0 0) := by simp [World.cell?, rh]
  have r5 : W1.cell? ⟨w.heap.size, 5, none⟩ = some (.int .i64 0) := by simp [World.cell?, rh]
  have rf : ∀ i, W1.frozen? ⟨w.heap.size, i, none⟩ = false := fun i => by simp [World.frozen?, rh]
  have rl : w.heap.size < W1.heap.size := lt_of_block rh
  clear rh
  go_wp2_with fail
  obtain ⟨y0, y1, y2, y3, y4, y5⟩ := six7_cell (a := .int .i64 (kd1 : Int)) (b := .string nm1) (c := .slice pa1 xs1.length pc1) (d := .slice na1 bd1.length nc1) (e := .slice ba1 el1.length bc1) (f := .int .i64 (t.pos : Int)) B1_0.out
  have hsz9 : (six7 W1 w.heap.size (.int .i64 (kd1 : Int)) (.string nm1) (.slice pa1 xs1.length pc1) (.slice na1 bd1.length nc1) (.slice ba1 el1.length bc1) (.int .i64 (t.pos : Int))).heap.size = W1.heap.size := six7_size
  have f1 : PAt (six7 W1 w.heap.size (.int .i64 (kd1 : Int)) (.string nm1) (.slice pa1 xs1.length pc1) (.slice na1 bd1.length nc1) (.slice ba1 el1.length bc1) (.int .i64 (t.pos : Int))) pb ts1 d := six_pat H1.out (by omega)
  have f2 : w.grownBy (six7 W1 w.heap.size (.int .i64 (kd1 : Int)) (.string nm1) (.slice pa1 xs1.length pc1) (.slice na1 bd1.length nc1) (.slice ba1 el1.length bc1) (.int .i64 (t.pos : Int))) (some pb) := six_gr (G1.out) (by omega)
  have f3_0 : Lie (XS (.mk kd1 nm1 xs1 bd1 el1 po1) (.slice pa1 xs1.length pc1) (.slice na1 bd1.length nc1) (.slice ba1 el1.length bc1)) (w.heap.size + 1) W1.heap.size (six7 W1 w.heap.size (.int .i64 (kd1 : Int)) (.string nm1) (.slice pa1 xs1.length pc1) (.slice na1 bd1.length nc1) (.slice ba1 el1.length bc1) (.int .i64 (t.pos : Int))) := six_lie L1_0.out (by omega)
  obtain ⟨W9, hW9⟩ : ∃ W9, six7 W1 w.heap.size (.int .i64 (kd1 : Int)) (.string nm1) (.slice pa1 xs1.length pc1) (.slice na1 bd1.length nc1) (.slice ba1 el1.length bc1) (.int .i64 (t.pos : Int)) = W9 := ⟨_, rfl⟩
  rw [hW9] at y0 y1 y2 y3 y4 y5 hsz9 f1 f2 f3_0
  unfold six7 at hW9
  rw [hW9]
  clear hW9
  have f4a : Lie (XS (.mk kd1 nm1 xs1 bd1 el1 (t.pos : Int)) (.slice pa1 xs1.length pc1) (.slice na1 bd1.length nc1) (.slice ba1 el1.length bc1)) w.heap.size W9.heap.size W9 := (f3_0.wider (s' := w.heap.size) (e' := W9.heap.size) (by omega) f3_0.lt (Nat.le_refl _)).pos9 _
  have f4 := (f4a.alloc (.cells #[.int .i64 (kd1 : Int), .string nm1, .slice pa1 xs1.length pc1, .slice na1 bd1.length nc1, .slice ba1 el1.length bc1, .int .i64 (t.pos : Int)] 30)).wider (s' := w.heap.size) (Nat.le_refl _) (by rw [World.size_alloc]; omega) (Nat.le_refl _)
  have HF := Lib.hid f4
  clear f4 f3_0
  have hlt9 : w.heap.size < W9.heap.size := by omega
  have hpast : ∀ (o : Obj) (i : Nat), (W9.alloc o).cell? ⟨w.heap.size, i, none⟩ = W9.cell? ⟨w.heap.size, i, none⟩ := fun o i => cell_kept (Below.heap_alloc _ _ _ hlt9)
  refine bodyPost_ret (v := stV (.mk kd1 nm1 xs1 bd1 el1 (t.pos : Int)) (.slice pa1 xs1.length pc1) (.slice na1 bd1.length nc1) (.slice ba1 el1.length bc1)) (by simp [results, Tryz.results91, go_sem, stV, setAt, y0, y1, y2, y3, y4, y5, hsz9, hpast]) rfl (ret_ok (x := (.mk kd1 nm1 xs1 bd1 el1 (t.pos : Int))) (by simp only [setAt, pStmt, hd0, List.headD_cons, X1.out, PR.bind, ↓reduceIte, Bool.false_eq_true]) ⟨_, _, _, rfl, HF.out⟩ (f1.alloc _) (gr_alloc f2 _))
end Go.Proofs.YtenfphbhofibjaaGreatDoor
namespace Go.Proofs.YtenfphbhofibjaaGreatDoor
open Go.RowKit LM TM PM
theorem blockLoop_end {S : List Tok → PR TS} {k : Nat} {acc : List TS} {tk : List Tok} (h : isT 4 sRB tk = true) : blockLoop S (k + 1) acc tk = .ok acc tk.tail := by rw [blockLoop, if_pos h]
theorem blockLoop_bad {S : List Tok → PR TS} {k a e : Nat} {acc : List TS} {tk : List Tok} (h : isT 4 sRB tk = false) (hx : S tk = .bad a e) : blockLoop S (k + 1) acc tk = .bad a e := by rw [blockLoop, if_neg (by simp [h]), hx]; rfl
theorem blockLoop_ok {S : List Tok → PR TS} {k : Nat} {acc : List TS} {tk tk1 : List Tok} {x : TS} (h : isT 4 sRB tk = false) (hx : S tk = .ok x tk1) : blockLoop S (k + 1) acc tk = blockLoop S k (acc ++ [x]) tk1 := by rw [blockLoop, if_neg (by simp [h]), hx]; rfl
theorem moduleLoop_end {S : List Tok → PR TS} {k : Nat} {acc : List TS} {tk : List Tok} (h : (hd0 tk).kind = 0) : moduleLoop S (k + 1) acc tk = .ok acc tk := by rw [moduleLoop, if_pos h]
theorem moduleLoop_bad {S : List Tok → PR TS} {k a e : Nat} {acc : List TS} {tk : List Tok} (h : (hd0 tk).kind ≠ 0) (hx : S tk = .bad a e) : moduleLoop S (k + 1) acc tk = .bad a e := by rw [moduleLoop, if_neg h, hx]; rfl
theorem moduleLoop_ok {S : List Tok → PR TS} {k : Nat} {acc : List TS} {tk tk1 : List Tok} {x : TS} (h : (hd0 tk).kind ≠ 0) (hx : S tk = .ok x tk1) : moduleLoop S (k + 1) acc tk = moduleLoop S k (acc ++ [x]) tk1 := by rw [moduleLoop, if_neg h, hx]; rfl
theorem ssc_snoc {acc : List TS} {x : TS} {a b c : Value} {P : Nat → Prop} {W : World} {cs : List Value} (h : XSs acc P W cs) (hx : XS x a b c P W) : XSs (acc ++ [x]) P W (cs ++ sixS x a b c) := SsC.snoc hx h
theorem block_ok {pb d : Nat} {S : List Tok → PR TS} (hS : OkS pb (d + 1) S) (hSE : Eats S) (hd : d < 20) : OkB pb d (pBlock (stmtsIn S)) := by
 intro w ts hP hG
 have hpl := hP.lt
 have HP := Lib.hid hP
 have HGD := Lib.hid hG
 clear hP hG
 go_enter Tryz.func142, Tryz.ntmps142
 go_wp2_with fail
 refine (psign_any HP.out HGD.out sLB).mono ?_
 rintro en W1 hR
 cases hx : pSign sLB ts with
 | bad a e =>
  rw [hx] at hR
  obtain ⟨rfl, hb⟩ := hR
  exact ⟨rfl, ret_bad (by simp only [pBlock, hx, PR.bind, ↓reduceIte, Bool.false_eq_true]) ((Below.refl _ _).trans hb)⟩
 | ok x1 ts1 =>
  rw [hx] at hR
  have K1 : Hid (GoodT ts1) := ((eats_sign sLB) _ HGD.out _ _ hx).1
  obtain ⟨hv, h, g⟩ := hR
  have hv2 : en = .returned (.tuple #[]) := hv
  subst hv2
  clear hv
  have X1 := Lib.hid hx
  clear hx
  have H1 := Lib.hid h
  have G1 : Hid (w.grownBy W1 (some pb)) := gr_trans (gr_refl _ _) g
  have hs1 : w.heap.size ≤ W1.heap.size := G1.out.size
  have hm1 : w.heap.size + 0 ≤ W1.heap.size := by have := g.size; simpa using this
  clear h g
  go_wp2_with fail
  refine (enter_ok H1.out K1.out hd).mono ?_
  rintro en W2 ⟨rfl, h, g⟩
  have H2 := Lib.hid h
  have G2 : Hid (w.grownBy W2 (some pb)) := gr_trans (G1.out) g
  have hs2 : w.heap.size ≤ W2.heap.size := G2.out.size
  have hm2 : W1.heap.size + 0 ≤ W2.heap.size := by have := g.size; simpa using this
  clear h g
  go_wp2_with fail
  have HRR : Hid (pBlock (stmtsIn S) ts = blockLoop S (ts1.length + 1) [] ts1) := by show _ = _; simp only [pBlock, X1.out, PR.bind, stmtsIn]
  go_loopw [3] (fun vl wr => ∃ (k : Nat) (acc : List TS) (cs : List Value) (tk : List Tok), Hid (RowG (XSs acc) 30 6 w.heap.size acc.length wr vl cs) ∧ Hid (PAt wr pb tk ((d + 1))) ∧ Hid (w.grownBy wr (some pb)) ∧ Hid (GoodT tk) ∧ Hid (tk.length ≤ k) ∧ Hid (pBlock (stmtsIn S) ts = blockLoop S (k + 1) acc tk) ∧ Hid (acc.length + tk.length ≤ 100000))
   (fun vl wr => restLen wr pb)
  case atStart => exact ⟨ts1.length, [], [], ts1, RowG.nil_S _ _, H2, G2, K1, Nat.le_refl _, HRR, by show _ ≤ _; have := H2.out.len; simp; omega⟩
  case round =>
   obtain ⟨k, acc, cs, tk, HROW, HP2, HG2, HGK, HLE, HEQ, HAL⟩ := hrel
   have HM0 : Hid (restLen wr pb = tk.length) := restLen_of HP2.out
   clear H2 G2 HRR X1
   go_wp2_with fail
   refine (met_any HP2.out HGK.out 4 (by decide) sRB).mono ?_
   rintro en Wm ⟨rfl, h, g⟩
   have HROWM := Lib.hid (HROW.out.gr (stab_XSs _) g hpl)
   have HGM : Hid (w.grownBy Wm (some pb)) := gr_trans HG2.out g
   rcases tf (isT 4 sRB tk) with hi | hi
   ·rw [hi] at h ⊢
    rw [if_pos rfl] at h
    have HPM := Lib.hid h
    have HKK : Hid (GoodT tk.tail) := (keep_tail HGK.out (isT_kind hi) (by decide)).1
    have HI := Lib.hid hi
    clear h g hi
    go_wp2_with fail
    refine (leave_any HPM.out HKK.out (by omega)).mono ?_
    rintro en Wn ⟨rfl, h2, g2⟩
    have HPN := Lib.hid h2
    have HGN : Hid (w.grownBy Wn (some pb)) := gr_trans HGM.out g2
    have HLN := Lib.hid ((HROWM.out.gr (stab_XSs _) g2 hpl).lie_S rfl HGN.out.size)
    clear h2 g2
    go_wp2_with fail
    go_ret
    exact ret_ok (x := acc) (HEQ.out.trans (blockLoop_end HI.out)) ⟨_, rfl, HLN.out⟩ HPN.out HGN.out
   ·rw [hi] at h ⊢
    rw [if_neg (by simp)] at h
    have HPM := Lib.hid h
    have HI := Lib.hid hi
    clear h g hi
    go_wp2_with fail
    refine (hS _ tk HPM.out HGK.out).mono ?_
    rintro en W hR
    cases hx : S tk with
    | bad a e =>
     rw [hx] at hR
     obtain ⟨rfl, hb⟩ := hR
     exact ⟨rfl, ret_bad (HEQ.out.trans (blockLoop_bad HI.out hx)) ((grown_to_below HGM.out (Nat.le_of_lt hpl)).trans hb)⟩
    | ok x tk1 =>
     rw [hx] at hR
     obtain ⟨⟨va, vb, vc, rfl, hL⟩, h, g⟩ := hR
     obtain ⟨hG1, hl1⟩ := hSE tk HGK.out x tk1 hx
     have HG1 := Lib.hid hG1
     obtain ⟨kd, nm, xs, bd, el, po⟩ := x
     obtain ⟨pa, pc, na, nc, ba, bc, rfl, rfl, rfl⟩ := hL.at'.slices
     obtain ⟨k1, hk1⟩ : ∃ k1, k = k1 + 1 := ⟨k - 1, by have := HLE.out; omega⟩
     have HLE1 : Hid (tk1.length ≤ k1) := by show _ ≤ _; have := HLE.out; omega
     have HLT : Hid (tk1.length < tk.length) := hl1
     have HEQ1 : Hid (pBlock (stmtsIn S) ts = blockLoop S (k1 + 1) (acc ++ [.mk kd nm xs bd el po]) tk1) := by show _ = _; rw [HEQ.out, hk1]; exact blockLoop_ok HI.out hx
     have HAL1 : Hid ((acc ++ [(.mk kd nm xs bd el po : TS)]).length + tk1.length ≤ 100000) := by show _ ≤ _; have := HAL.out; simp; omega
     have HX := Lib.hid hx
     have HROW2 := Lib.hid (HROWM.out.gr (stab_XSs _) g (by omega))
     have HLX := Lib.hid hL
     have HPW := Lib.hid h
     have HGW : Hid (w.grownBy W (some pb)) := gr_trans HGM.out g
     have hsW : w.heap.size ≤ W.heap.size := HGW.out.size
     have hsm : Wm.heap.size ≤ W.heap.size := g.size
     have hsm0 : w.heap.size ≤ Wm.heap.size := HGM.out.size
     have HVL : Hid (∀ k, u3.ownBlock = some k → k < Wm.heap.size) := fun k hk => (HROWM.out.own.lt k hk).2
     have hal : acc.length ≤ 100000 := by have := HAL.out; omega
     clear hx hL h g hG1 hl1 HEQ HLE HAL hk1
     unfold stV
     obtain ⟨i0, hi0, hz0, hz1, hz2⟩ := info_parts infoStmt
     go_wp2_with (at_builtin; refine wpList_append_own2 rfl (.tmp 11) (.tmp 14) 24 rfl w.heap.size 30 i0 _ 6 104 Tryz.underlying24 hi0 hz0 hz1 hz2 rfl (by decide) _ acc.length cs rfl (HROW2.out.own.alloc _) ⟨W.heap.size, 0, none⟩ 1 1 [.int .i64 (kd : Int), .string nm, .slice pa xs.length pc, .slice na bd.length nc, .slice ba el.length bc, .int .i64 po] rfl rfl (fun q u hq => by match q, hq with | 0, hq => simp at hq; subst hq; simp [Addr.add] | 1, hq => simp at hq; subst hq; simp [Addr.add] | 2, hq => simp at hq; subst hq; simp [Addr.add] | 3, hq => simp at hq; subst hq; simp [Addr.add] | 4, hq => simp at hq; subst hq; simp [Addr.add] | 5, hq => simp at hq; subst hq; simp [Addr.add] | q + 6, hq => simp at hq) (by intro u hu; simp at hu; rcases hu with rfl | rfl | rfl | rfl | rfl | rfl <;> rfl) (by decide) (by unfold maxLen; omega) (by omega) (by simp; omega) ?_)
     intro v7 w7 hown7 hgr7 ho7
     obtain ⟨a1, a2, a3⟩ := HROW2.out.app (Z := XSs (acc ++ [.mk kd nm xs bd el po])) (stab_XSs _) HLX.out (by omega) HVL.out (by omega) hown7 hgr7 (by simpa using ho7) HGW.out (Nat.le_refl _) (fun P h1 h2 => ssc_snoc h1 h2)
     have HA1 : Hid (RowG (XSs (acc ++ [.mk kd nm xs bd el po])) 30 6 w.heap.size (acc ++ [(.mk kd nm xs bd el po : TS)]).length w7 v7 (cs ++ [.int .i64 (kd : Int), .string nm, .slice pa xs.length pc, .slice na bd.length nc, .slice ba el.length bc, .int .i64 po])) := by show RowG _ _ _ _ _ _ _ _; rw [List.length_append]; exact a1
     have HA2 := Lib.hid a2
     have HA3 := Lib.hid (HPW.out.bel a3 hpl)
     have HM1 : Hid (restLen w7 pb = tk1.length) := restLen_of HA3.out
     clear hown7 hgr7 ho7 a1 a2 a3 HROW HROW2 HLX HPW HGW HVL
     go_wp2_with fail
     go_roundw
     case rel => exact ⟨k1, _, _, tk1, HA1, HA3, HA2, HG1, HLE1, HEQ1, HAL1⟩
     case measure => rw [HM1.out, HM0.out]; exact HLT.out
theorem block_deep {pb : Nat} : OkB pb 20 (pBlock (pFail 3)) := by
 intro w ts hP hG
 have hpl := hP.lt
 have HP := Lib.hid hP
 have HGD := Lib.hid hG
 clear hP hG
 go_enter Tryz.func142, Tryz.ntmps142
 go_wp2_with fail
 refine (psign_any HP.out HGD.out sLB).mono ?_
 rintro en W1 hR
 cases hx : pSign sLB ts with
 | bad a e =>
  rw [hx] at hR
  obtain ⟨rfl, hb⟩ := hR
  exact ⟨rfl, ret_bad (by simp only [pBlock, pFail, hx, PR.bind, ↓reduceIte, Bool.false_eq_true]) ((Below.refl _ _).trans hb)⟩
 | ok x1 ts1 =>
  rw [hx] at hR
  have K1 : Hid (GoodT ts1) := ((eats_sign sLB) _ HGD.out _ _ hx).1
  obtain ⟨hv, h, g⟩ := hR
  have hv2 : en = .returned (.tuple #[]) := hv
  subst hv2
  clear hv
  have X1 := Lib.hid hx
  clear hx
  have H1 := Lib.hid h
  have G1 : Hid (w.grownBy W1 (some pb)) := gr_trans (gr_refl _ _) g
  have hs1 : w.heap.size ≤ W1.heap.size := G1.out.size
  have hm1 : w.heap.size + 0 ≤ W1.heap.size := by have := g.size; simpa using this
  clear h g
  go_wp2_with fail
  refine (enter_deep H1.out K1.out).mono ?_
  rintro en W9 ⟨rfl, rfl⟩
  exact ⟨rfl, ret_bad (by simp only [pBlock, pFail, X1.out, PR.bind, ↓reduceIte, Bool.false_eq_true]) (grown_to_below (G1.out) (Nat.le_of_lt hpl))⟩
theorem module_ok {pb d : Nat} {S : List Tok → PR TS} (hS : OkS pb d S) (hSE : Eats S) : ∀ (w : World) (ts : List Tok), PAt w pb ts d → GoodT ts → Calls Tryz.prog 63 #[.pointer (some ⟨pb, 0, none⟩)] w fun en w' => Ret (moduleLoop S (ts.length + 1) [] ts) w pb d (VLS w) en w' := by
 intro w ts hP hG
 have hpl := hP.lt
 have HP := Lib.hid hP
 have HGD := Lib.hid hG
 clear hP hG
 go_enter Tryz.func63, Tryz.ntmps63
 go_wp2_with fail
 go_loopw [3] (fun vl wr => ∃ (k : Nat) (acc : List TS) (cs : List Value) (tk : List Tok), Hid (RowG (XSs acc) 30 6 w.heap.size acc.length wr vl cs) ∧ Hid (PAt wr pb tk d) ∧ Hid (w.grownBy wr (some pb)) ∧ Hid (GoodT tk) ∧ Hid (tk.length ≤ k) ∧ Hid (moduleLoop S (ts.length + 1) [] ts = moduleLoop S (k + 1) acc tk) ∧ Hid (acc.length + tk.length ≤ 100000))
  (fun vl wr => restLen wr pb)
 case atStart => exact ⟨ts.length, [], [], ts, RowG.nil_S _ _, HP, gr_refl _ _, HGD, Nat.le_refl _, rfl, by show _ ≤ _; have := HP.out.len; simp; omega⟩
 case round =>
  obtain ⟨k, acc, cs, tk, HROW, HP2, HG2, HGK, HLE, HEQ, HAL⟩ := hrel
  have HM0 : Hid (restLen wr pb = tk.length) := restLen_of HP2.out
  have hplr : pb < wr.heap.size := HP2.out.lt
  obtain ⟨t0, l0, g0, o0, cap0, htk, c0, c1, q0, q1, q2, q3, h1, h2, f0, hg0⟩ := HP2.out.open HGK.out
  unfold maxLen at h2
  have hgl0 : g0 < wr.heap.size := by omega
  by_cases hk0 : t0.kind = 0
  ·have hkz : ((t0.kind : Int) != 0) = false := by simp [hk0]
   have HLN := Lib.hid (HROW.out.lie_S rfl HG2.out.size)
   have HI : Hid ((hd0 tk).kind = 0) := by show _ = _; rw [htk]; exact hk0
   clear htk
   go_wp2_with fail
   go_ret
   exact ret_ok (x := acc) (HEQ.out.trans (moduleLoop_end HI.out)) ⟨_, rfl, HLN.out⟩ HP2.out HG2.out
  ·have hkz : ((t0.kind : Int) != 0) = true := by simp; omega
   have hkz2 : ¬ ((t0.kind : Int) = 0) := by omega
   have HI : Hid ((hd0 tk).kind ≠ 0) := by show _ ≠ _; rw [htk]; exact hk0
   clear htk
   go_wp2_with fail
   clear c0 c1 q0 q1 q2 q3 h1 h2 f0 hg0 hgl0 hkz hkz2 hk0
   refine (hS _ tk HP2.out HGK.out).mono ?_
   rintro en W hR
   cases hx : S tk with
   | bad a e =>
    rw [hx] at hR
    obtain ⟨rfl, hb⟩ := hR
    exact ⟨rfl, ret_bad (HEQ.out.trans (moduleLoop_bad HI.out hx)) ((grown_to_below HG2.out (Nat.le_of_lt hpl)).trans hb)⟩
   | ok x tk1 =>
    rw [hx] at hR
    obtain ⟨⟨va, vb, vc, rfl, hL⟩, h, g⟩ := hR
    obtain ⟨hG1, hl1⟩ := hSE tk HGK.out x tk1 hx
    have HG1 := Lib.hid hG1
    obtain ⟨kd, nm, xs, bd, el, po⟩ := x
    obtain ⟨pa, pc, na, nc, ba, bc, rfl, rfl, rfl⟩ := hL.at'.slices
    obtain ⟨k1, hk1⟩ : ∃ k1, k = k1 + 1 := ⟨k - 1, by have := HLE.out; omega⟩
    have HLE1 : Hid (tk1.length ≤ k1) := by show _ ≤ _; have := HLE.out; omega
    have HLT : Hid (tk1.length < tk.length) := hl1
    have HEQ1 : Hid (moduleLoop S (ts.length + 1) [] ts = moduleLoop S (k1 + 1) (acc ++ [.mk kd nm xs bd el po]) tk1) := by show _ = _; rw [HEQ.out, hk1]; exact moduleLoop_ok HI.out hx
    have HAL1 : Hid ((acc ++ [(.mk kd nm xs bd el po : TS)]).length + tk1.length ≤ 100000) := by show _ ≤ _; have := HAL.out; simp; omega
    have HX := Lib.hid hx
    have HROW2 := Lib.hid (HROW.out.gr (stab_XSs _) g (by omega))
    have HLX := Lib.hid hL
    have HPW := Lib.hid h
    have HGW : Hid (w.grownBy W (some pb)) := gr_trans HG2.out g
    have hsW : w.heap.size ≤ W.heap.size := HGW.out.size
    have hsm : wr.heap.size ≤ W.heap.size := g.size
    have hsm0 : w.heap.size ≤ wr.heap.size := HG2.out.size
    have HVL : Hid (∀ k, u3.ownBlock = some k → k < wr.heap.size) := fun k hk => (HROW.out.own.lt k hk).2
    have hal : acc.length ≤ 100000 := by have := HAL.out; omega
    clear hx hL h g hG1 hl1 HEQ HLE HAL hk1
    unfold stV
    obtain ⟨i0, hi0, hz0, hz1, hz2⟩ := info_parts infoStmt
    go_wp2_with (at_builtin; refine wpList_append_own2 rfl (.tmp 12) (.tmp 15) 24 rfl w.heap.size 30 i0 _ 6 104 Tryz.underlying24 hi0 hz0 hz1 hz2 rfl (by decide) _ acc.length cs rfl (HROW2.out.own.alloc _) ⟨W.heap.size, 0, none⟩ 1 1 [.int .i64 (kd : Int), .string nm, .slice pa xs.length pc, .slice na bd.length nc, .slice ba el.length bc, .int .i64 po] rfl rfl (fun q u hq => by match q, hq with | 0, hq => simp at hq; subst hq; simp [Addr.add] | 1, hq => simp at hq; subst hq; simp [Addr.add] | 2, hq => simp at hq; subst hq; simp [Addr.add] | 3, hq => simp at hq; subst hq; simp [Addr.add] | 4, hq => simp at hq; subst hq; simp [Addr.add] | 5, hq => simp at hq; subst hq; simp [Addr.add] | q + 6, hq => simp at hq) (by intro u hu; simp at hu; rcases hu with rfl | rfl | rfl | rfl | rfl | rfl <;> rfl) (by decide) (by unfold maxLen; omega) (by omega) (by simp; omega) ?_)
    intro v7 w7 hown7 hgr7 ho7
    obtain ⟨a1, a2, a3⟩ := HROW2.out.app (Z := XSs (acc ++ [.mk kd nm xs bd el po])) (stab_XSs _) HLX.out (by omega) HVL.out (by omega) hown7 hgr7 (by simpa using ho7) HGW.out (Nat.le_refl _) (fun P h1 h2 => ssc_snoc h1 h2)
    have HA1 : Hid (RowG (XSs (acc ++ [.mk kd nm xs bd el po])) 30 6 w.heap.size (acc ++ [(.mk kd nm xs bd el po : TS)]).length w7 v7 (cs ++ [.int .i64 (kd : Int), .string nm, .slice pa xs.length pc, .slice na bd.length nc, .slice ba el.length bc, .int .i64 po])) := by show RowG _ _ _ _ _ _ _ _; rw [List.length_append]; exact a1
    have HA2 := Lib.hid a2
    have HA3 := Lib.hid (HPW.out.bel a3 hpl)
    have HM1 : Hid (restLen w7 pb = tk1.length) := restLen_of HA3.out
    clear hown7 hgr7 ho7 a1 a2 a3 HROW HROW2 HLX HPW HGW HVL
    go_wp2_with fail
    go_roundw
    case rel => exact ⟨k1, _, _, tk1, HA1, HA3, HA2, HG1, HLE1, HEQ1, HAL1⟩
    case measure => rw [HM1.out, HM0.out]; exact HLT.out
end Go.Proofs.YtenfphbhofibjaaGreatDoor
namespace Go.Proofs.YtenfphbhofibjaaGreatDoor
open Go.RowKit LM TM PM
theorem simple_ok {pb d : Nat} {E : List Tok → PR TE} (hO : OkE pb d E) (hE : Eats E) : OkSim pb d (pSimple E) := by
 intro w ts at0 hP hG
 have hpl := hP.lt
 have HP := Lib.hid hP
 have HGD := Lib.hid hG
 clear hP hG
 go_enter Tryz.func144, Tryz.ntmps144
 go_wp2_with fail
 refine (hO _ _ (HP.out.alloc _) HGD.out).mono ?_
 rintro en W1 hR
 cases hx : E ts with
 | bad a e =>
  rw [hx] at hR
  obtain ⟨rfl, hb⟩ := hR
  exact ⟨rfl, ret_bad (by simp only [pSimple, hx, PR.bind, ↓reduceIte, Bool.false_eq_true]) ((grown_to_below (gr_alloc (gr_refl _ _) _) (Nat.le_of_lt hpl)).trans hb)⟩
 | ok x1 ts1 =>
  rw [hx] at hR
  have K1 : Hid (GoodT ts1) := (hE _ HGD.out _ _ hx).1
  obtain ⟨⟨va, vb, vc, rfl, hL⟩, h, g⟩ := hR
  obtain ⟨op1, num1, text1, ps1, pm1, bd1⟩ := x1
  obtain ⟨pa1, pc1, na1, nc1, ba1, bc1, rfl, rfl, rfl⟩ := hL.at'.slices
  have X1 := Lib.hid hx
  clear hx
  have hL2 : Hid (Lie (XE (.mk op1 num1 text1 ps1 pm1 bd1) (.slice pa1 ps1.length pc1) (.slice na1 pm1.length nc1) (.slice ba1 bd1.length bc1)) (w.heap.size + 1) W1.heap.size W1) := by have h9 := hL; simp only [World.size_alloc] at h9; exact h9
  clear hL
  have H1 := Lib.hid h
  have G1 : Hid (w.grownBy W1 (some pb)) := gr_trans (gr_alloc (gr_refl _ _) _) g
  have hs1 : w.heap.size ≤ W1.heap.size := G1.out.size
  have hm1 : w.heap.size + 1 ≤ W1.heap.size := by have := g.size; simpa using this
  have B1_0 : Hid (W1.heap[w.heap.size]? = some (.cells #[.int .i64 0, .string ⟨#[]⟩, .slice none 0 0, .slice none 0 0, .slice none 0 0, .int .i64 0] 30 (0, 0))) := blk_new g (by omega)
  clear h g
  have L1_0 : Hid (Lie (XE (.mk op1 num1 text1 ps1 pm1 bd1) (.slice pa1 ps1.length pc1) (.slice na1 pm1.length nc1) (.slice ba1 bd1.length bc1)) (w.heap.size + 1) W1.heap.size W1) := hL2
  clear hL2
  unfold exV
  go_wp2_with fail
  refine (met_any (H1.out.alloc _) K1.out 4 (by decide) sEQ).mono ?_
  rintro en W2 ⟨rfl, h, g⟩
  rcases tf (isT 4 sEQ ts1) with hi | hi
  ·rw [hi] at h ⊢
   rw [if_pos rfl] at h
   have D2 := Lib.hid hi
   have K2 : Hid (GoodT ts1.tail) := (keep_tail K1.out (isT_kind hi) (by decide)).1
   clear hi
   have H2 := Lib.hid h
   have G2 : Hid (w.grownBy W2 (some pb)) := gr_trans (gr_alloc (G1.out) _) g
   have hs2 : w.heap.size ≤ W2.heap.size := G2.out.size
   have hm2 : W1.heap.size + 1 ≤ W2.heap.size := by have := g.size; simpa using this
   have B2_0 : Hid (W2.heap[w.heap.size]? = some (.cells #[.int .i64 0, .string ⟨#[]⟩, .slice none 0 0, .slice none 0 0, .slice none 0 0, .int .i64 0] 30 (0, 0))) := blk_next B1_0.out ((Below.refl _ _).alloc (Nat.le_refl _) _) g (by omega)
   have B2_1 : Hid (W2.heap[W1.heap.size]? = some (.cells #[.int .i64 (op1 : Int), .int .i64 num1, .string text1, .slice pa1 ps1.length pc1, .slice na1 pm1.length nc1, .slice ba1 bd1.length bc1] 35 (0, 0))) := blk_new g (by omega)
   have L2_0 : Hid (Lie (XE (.mk op1 num1 text1 ps1 pm1 bd1) (.slice pa1 ps1.length pc1) (.slice na1 pm1.length nc1) (.slice ba1 bd1.length bc1)) (w.heap.size + 1) W1.heap.size W2) := ((L1_0.out.alloc _)).gr g (by omega)
   clear h g B1_0 L1_0
   have qh := B2_1.out
   have q0 : W2.cell? ⟨W1.heap.size, 0, none⟩ = some (.int .i64 (op1 : Int)) := by simp [World.cell?, qh]
   have q1 : W2.cell? ⟨W1.heap.size, 1, none⟩ = some (.int .i64 num1) := by simp [World.cell?, qh]
   have q2 : W2.cell? ⟨W1.heap.size, 2, none⟩ = some (.string text1) := by simp [World.cell?, qh]
   have q3 : W2.cell? ⟨W1.heap.size, 3, none⟩ = some (.slice pa1 ps1.length pc1) := by simp [World.cell?, qh]
   have q4 : W2.cell? ⟨W1.heap.size, 4, none⟩ = some (.slice na1 pm1.length nc1) := by simp [World.cell?, qh]
   have q5 : W2.cell? ⟨W1.heap.size, 5, none⟩ = some (.slice ba1 bd1.length bc1) := by simp [World.cell?, qh]
   have qf : ∀ i, W2.frozen? ⟨W1.heap.size, i, none⟩ = false := fun i => by simp [World.frozen?, qh]
   have ql : W1.heap.size < W2.heap.size := lt_of_block qh
   clear qh
   have hpw : pb < W2.heap.size := by omega
   by_cases ho5 : op1 = 5
   ·have hkb : ((op1 : Int) == 5) = true := by simp [ho5]
    have HO5 : Hid (exOp (.mk op1 num1 text1 ps1 pm1 bd1) = 5) := ho5
    go_wp2_with fail
    refine region_sh (fun | 0 => some (.pointer (some ⟨W1.heap.size, 2, none⟩)) | 1 => some (.string text1) | 2 => some (.pointer (some ⟨pb, 0, none⟩)) | _ => none) (JG W2 3 (fun | 0 => 3 | 1 => 4 | _ => 5) (fun | 0 => 23 | 1 => 24 | _ => 0) (SA (pValue E ts1.tail) W2 pb d w.heap.size text1)) (by kernel_rfl) (by kernel_rfl) (by kernel_rfl) (JG.start _) ?_ ?_
    ·intro hon q hq L a1 W hC hl hBh hS hJ K hK
     have hqn : q < 6 := hq
     clear hq
     rcases (show q = 0 ∨ q = 1 ∨ q = 2 ∨ q = 3 ∨ q = 4 ∨ q = 5 from by omega) with rfl | rfl | rfl | rfl | rfl | rfl
     ·have e5 := (eval_tmp a1 5).symm.trans ((hS.kept 5 (by kernel_rfl)).trans rfl)
      refine wpOp_step rfl (fun K' hK' => ?_)
      go_simp
      exact hK' _ _ (hK _ _ (hS.put hon (i := 0) rfl rfl (fun u hu => by cases hu; rfl)) (hJ.pure (by decide) (by decide) (by decide)))
     ·have e20 := (eval_tmp a1 20).symm.trans (hS.get hBh (i := 1) rfl 0 (by simp) rfl rfl rfl)
      have n1 : L 4 = false := closed_not hC hl (i := 4) (j := 1) rfl (g := .data) (by simp) rfl
      have hbW : W.heap[W1.heap.size]? = some (.cells #[.int .i64 (op1 : Int), .int .i64 num1, .string text1, .slice pa1 ps1.length pc1, .slice na1 pm1.length nc1, .slice ba1 bd1.length bc1] 35 (0, 0)) := hJ.read (by decide) (fun W => W.heap[W1.heap.size]? = some (.cells #[.int .i64 (op1 : Int), .int .i64 num1, .string text1, .slice pa1 ps1.length pc1, .slice na1 pm1.length nc1, .slice ba1 bd1.length bc1] 35 (0, 0))) 1 (by decide) (fun _ => n1) B2_1.out (fun k v W hk hS2 => SA.blk (by omega) hS2 B2_1.out (by omega))
      have hcl : W.cell? ⟨W1.heap.size, 2, none⟩ = some (.string text1) := by simp [World.cell?, hbW]
      refine wpOp_step rfl (fun K' hK' => ?_)
      go_simp
      exact hK' _ _ (hK _ _ (hS.put hon (i := 1) rfl rfl (fun u hu => by cases hu; rfl)) (hJ.pure (by decide) (by decide) (by decide)))
     ·have e0 := (eval_tmp a1 0).symm.trans ((hS.kept 0 (by kernel_rfl)).trans rfl)
      refine wpOp_step rfl (fun K' hK' => ?_)
      go_simp
      exact hK' _ _ (hK _ _ (hS.put hon (i := 2) rfl rfl (fun u hu => by cases hu; rfl)) (hJ.pure (by decide) (by decide) (by decide)))
     ·have e22 := (eval_tmp a1 22).symm.trans (hS.get hBh (i := 3) rfl 2 (by simp) rfl rfl rfl)
      obtain rfl := hJ.n0 hl
      refine wpOp_callP (f := 139) (args := #[.pointer (some ⟨pb, 0, none⟩)]) (R := fun en WQ => Ret (pValue E ts1.tail) W2 pb d (VLE W2) en WQ) rfl rfl (by simp [execOp, resolve, invoke, e22, go_sem]) ((value_ok hO hE _ _ H2.out.drew K2.out).mono fun en WQ h => ret_drew (V := VLE) (fun _ _ _ h => h) h) ?_ ?_ (fun WQ => ret_out VLE_o)
      ·intro v WQ hR
       obtain ⟨l, ts', h1, h3, h4, h5⟩ := ret_LE hR
       exact hK _ _ (hS.put hon (i := 3) rfl rfl (fun u hu => by cases hu)) (hJ.eff 0 (by decide) (fun j hj => by omega) hl (by decide) (a1.put (some 23) v) (by show SA (pValue E ts1.tail) W2 pb d w.heap.size text1 0 ((a1.put (some 23) v).eval (.tmp 23)) _; rw [eval_put _ _ _ _ (by rw [hS.size]; exact (by decide : (23 : Nat) < 36)), if_pos rfl]; exact ⟨l, ts', h1, h3, h4, h5⟩))
      ·intro ch WQ hR
       obtain ⟨pa, pe, h1, rfl, h3⟩ := ret_panic VLE_p hR
       exact ⟨hS.defers.trans rfl, ret_bad (by simp only [pSimple, pSet, exText, exParts, X1.out, D2.out, HO5.out, h1, PR.bind, ↓reduceIte, Bool.false_eq_true]) ((grown_to_below (G2.out) (Nat.le_of_lt hpl)).trans h3)⟩
     ·have d0 : L 3 = true := hBh _ rfl ⟨3, .data⟩ (by simp) rfl
      have e21 := (hS.get hBh (i := 4) rfl 1 (by simp) rfl rfl rfl)
      have hS2 := hJ.cur 0 (by decide) d0 (fun _ => hl)
      obtain ⟨v9, hv9⟩ : ∃ v9, a1.eval (.tmp 23) = v9 := ⟨_, rfl⟩
      obtain ⟨l, ts', hY⟩ : ∃ l ts', Yl (pValue E ts1.tail) W2 pb d l ts' v9 W := by rw [← hv9]; exact hS2
      obtain ⟨va9, vc9, rfl, _⟩ := hY.lie.at'
      refine wpOp_run rfl rfl (v := (.agg #[.int .i64 1, .string text1, .slice va9 l.length vc9, .slice none 0 0, .slice none 0 0, .int .i64 0])) (w' := W) (by simp [execOp, e21, hv9, bldS1, eval_const, Result.andThen]) (hK _ _ (hS.put hon (i := 4) rfl rfl (fun u hu => by cases hu)) (hJ.eff 1 (by decide) (fun j hj => by obtain rfl : j = 0 := (by omega); exact d0) hl (by decide) (a1.put (some 24) (.agg #[.int .i64 1, .string text1, .slice va9 l.length vc9, .slice none 0 0, .slice none 0 0, .int .i64 0])) (by show SA (pValue E ts1.tail) W2 pb d w.heap.size text1 1 ((a1.put (some 24) (.agg #[.int .i64 1, .string text1, .slice va9 l.length vc9, .slice none 0 0, .slice none 0 0, .int .i64 0])).eval (.tmp 24)) _; rw [eval_put _ _ _ _ (by rw [hS.size]; exact (by decide : (24 : Nat) < 36)), if_pos rfl]; exact ⟨l, ts', _, _, _, rfl, hY⟩)))
     ·have d2 : L 4 = true := hBh _ rfl ⟨4, .data⟩ (by simp) rfl
      have e4 : a1.eval (.tmp 4) = .pointer (some ⟨w.heap.size, 0, none⟩) := (hS.kept 4 (by kernel_rfl)).trans rfl
      have hS2 := hJ.cur 1 (by decide) d2 (fun _ => hl)
      have hbW := SA.blk (by decide) hS2 B2_0.out (by omega)
      obtain ⟨l, ts', va, m1, m2, hv, hY⟩ := hS2
      have hv2 : a1.eval (.tmp 24) = .agg #[.int .i64 1, .string text1, .slice va m1 m2, .slice none 0 0, .slice none 0 0, .int .i64 0] := hv
      refine wpOp_skip rfl rfl rfl (w' := six7 W w.heap.size (.int .i64 1) (.string text1) (.slice va m1 m2) (.slice none 0 0) (.slice none 0 0) (.int .i64 0)) (by simp [execOp, e4, hv2, st6S hbW, Result.andThen]) (hK _ _ (hS.none (i := 5) rfl rfl) (hJ.eff 2 (by decide) (fun j hj => by obtain rfl : j = 1 := (by omega); exact d2) hl (by decide) _ ⟨l, ts', va, m1, m2, W, rfl, hY⟩))
    ·intro L a1 wz hl hS hJ
     obtain ⟨l9, ts', va, m1, m2, Wc, hwz, hY⟩ := hJ.cur 2 (by decide) (hl 5 (by decide)) (fun h => absurd h (by decide))
     have hfr := hS.frame [20, 21, 22, 23, 24] rfl
     refine (‹∀ (a : Act) (w : World), Code.wp Tryz.prog _ _ a w → _› a1 wz ?_)
     obtain ⟨zz, hz⟩ : ∃ z : Nat → Value, z = fun k => a1.eval (.tmp k) := ⟨_, rfl⟩
     rw [← hz] at hfr
     rw [hfr]
     clear hfr hS hJ hl
     simp only [over, List.setIfInBounds_toArray, List.set_cons_zero, List.set_cons_succ]
     have hsc : W2.heap.size ≤ Wc.heap.size := hY.gr.size
     have HB0c : Hid (Wc.heap[w.heap.size]? = some (.cells #[.int .i64 0, .string ⟨#[]⟩, .slice none 0 0, .slice none 0 0, .slice none 0 0, .int .i64 0] 30 (0, 0))) := blk_next B2_0.out (Below.refl _ _) hY.gr (by omega)
     have HGc : Hid (w.grownBy Wc (some pb)) := gr_trans G2.out hY.gr
     have HLc : Hid (Lie (RE (.slice va m1 m2) l9) (w.heap.size + 1) Wc.heap.size Wc) := hY.lie.wider (by omega) (Nat.le_refl _) (Nat.le_refl _)
     obtain ⟨y0, y1, y2, y3, y4, y5⟩ := six7_cell (a := .int .i64 1) (b := .string text1) (c := .slice va m1 m2) (d := .slice none 0 0) (e := .slice none 0 0) (f := .int .i64 0) HB0c.out
     rw [← hwz] at y0 y1 y2 y3 y4 y5
     have HPz : Hid (PAt wz pb ts' d) := by show PAt _ _ _ _; rw [hwz]; exact six_pat hY.pat (by omega)
     have HGz : Hid (w.grownBy wz (some pb)) := by show World.grownBy _ _ _; rw [hwz]; exact six_gr HGc.out (Nat.le_refl _)
     have f4 : Lie (XS (.mk 1 text1 l9 [] [] 0) (.slice va m1 m2) (.slice none 0 0) (.slice none 0 0)) w.heap.size wz.heap.size wz := by
      have h9 : Lie (RE (.slice va m1 m2) (l9)) (w.heap.size + 1) Wc.heap.size wz := by rw [hwz]; exact six_lie HLc.out (by omega)
      exact st_lie (by decide) (h9.wider (by omega) h9.lt (Nat.le_refl _)) (nil_RS HGz.out.size (Nat.le_refl _)) (nil_RS HGz.out.size (Nat.le_refl _))
     have HF := Lib.hid f4
     have HEY := Lib.hid hY.eq
     clear f4 hwz hY hz
     go_wp2_with fail
     refine bodyPost_ret (v := stV (.mk 1 text1 l9 [] [] 0) (.slice va m1 m2) (.slice none 0 0) (.slice none 0 0)) (by simp [results, Tryz.results144, go_sem, stV, y0, y1, y2, y3, y4, y5]) rfl (ret_ok (x := (.mk 1 text1 l9 [] [] 0)) (by simp only [pSimple, pSet, exText, exParts, X1.out, D2.out, HO5.out, HEY.out, PR.bind, ↓reduceIte, Bool.false_eq_true]) ⟨_, _, _, rfl, HF.out⟩ HPz.out HGz.out)
   ·have hkb : ((op1 : Int) == 5) = false := by simp; omega
    have hkm : ¬ ((op1 : Int) = 5) := by omega
    have HO5 : Hid (¬ exOp (.mk op1 num1 text1 ps1 pm1 bd1) = 5) := ho5
    by_cases ho14 : op1 = 14
    ·have hkc : ((op1 : Int) == 14) = true := by simp [ho14]
     have HO14 : Hid (exOp (.mk op1 num1 text1 ps1 pm1 bd1) = 14) := ho14
     go_wp2_with fail
     refine region_sh (fun | 0 => some (.pointer (some ⟨W1.heap.size, 3, none⟩)) | 1 => some (.slice pa1 ps1.length pc1) | 2 => some (.pointer (some ⟨pb, 0, none⟩)) | _ => none) (JG W2 4 (fun | 0 => 3 | 1 => 4 | 2 => 5 | _ => 6) (fun | 0 => 30 | 1 => 31 | 2 => 32 | _ => 0) (SP (pValue E ts1.tail) w W2 pb d (.cells #[.int .i64 0, .string ⟨#[]⟩, .slice none 0 0, .slice none 0 0, .slice none 0 0, .int .i64 0] 30 (0, 0)) ps1)) (by kernel_rfl) (by kernel_rfl) (by kernel_rfl) (JG.start _) ?_ ?_
     ·intro hon q hq L a1 W hC hl hBh hS hJ K hK
      have hqn : q < 7 := hq
      clear hq
      rcases (show q = 0 ∨ q = 1 ∨ q = 2 ∨ q = 3 ∨ q = 4 ∨ q = 5 ∨ q = 6 from by omega) with rfl | rfl | rfl | rfl | rfl | rfl | rfl
      ·have e5 := (eval_tmp a1 5).symm.trans ((hS.kept 5 (by kernel_rfl)).trans rfl)
       refine wpOp_step rfl (fun K' hK' => ?_)
       go_simp
       exact hK' _ _ (hK _ _ (hS.put hon (i := 0) rfl rfl (fun u hu => by cases hu; rfl)) (hJ.pure (by decide) (by decide) (by decide)))
      ·have e27 := (eval_tmp a1 27).symm.trans (hS.get hBh (i := 1) rfl 0 (by simp) rfl rfl rfl)
       have n1 : L 4 = false := closed_not hC hl (i := 4) (j := 1) rfl (g := .data) (by simp) rfl
       have hbW : W.heap[W1.heap.size]? = some (.cells #[.int .i64 (op1 : Int), .int .i64 num1, .string text1, .slice pa1 ps1.length pc1, .slice na1 pm1.length nc1, .slice ba1 bd1.length bc1] 35 (0, 0)) := hJ.read (by decide) (fun W => W.heap[W1.heap.size]? = some (.cells #[.int .i64 (op1 : Int), .int .i64 num1, .string text1, .slice pa1 ps1.length pc1, .slice na1 pm1.length nc1, .slice ba1 bd1.length bc1] 35 (0, 0))) 1 (by decide) (fun _ => n1) B2_1.out (fun k v W hk hS2 => SP.blk (by omega) hS2 B2_1.out (by omega))
       have hcl : W.cell? ⟨W1.heap.size, 3, none⟩ = some (.slice pa1 ps1.length pc1) := by simp [World.cell?, hbW]
       refine wpOp_step rfl (fun K' hK' => ?_)
       go_simp
       exact hK' _ _ (hK _ _ (hS.put hon (i := 1) rfl rfl (fun u hu => by cases hu; rfl)) (hJ.pure (by decide) (by decide) (by decide)))
      ·have e0 := (eval_tmp a1 0).symm.trans ((hS.kept 0 (by kernel_rfl)).trans rfl)
       refine wpOp_step rfl (fun K' hK' => ?_)
       go_simp
       exact hK' _ _ (hK _ _ (hS.put hon (i := 2) rfl rfl (fun u hu => by cases hu; rfl)) (hJ.pure (by decide) (by decide) (by decide)))
      ·have e29 := (eval_tmp a1 29).symm.trans (hS.get hBh (i := 3) rfl 2 (by simp) rfl rfl rfl)
       obtain rfl := hJ.n0 hl
       refine wpOp_callP (f := 139) (args := #[.pointer (some ⟨pb, 0, none⟩)]) (R := fun en WQ => Ret (pValue E ts1.tail) W2 pb d (VLE W2) en WQ) rfl rfl (by simp [execOp, resolve, invoke, e29, go_sem]) ((value_ok hO hE _ _ H2.out.drew K2.out).mono fun en WQ h => ret_drew (V := VLE) (fun _ _ _ h => h) h) ?_ ?_ (fun WQ => ret_out VLE_o)
       ·intro v WQ hR
        obtain ⟨l, ts', h1, h3, h4, h5⟩ := ret_LE hR
        exact hK _ _ (hS.put hon (i := 3) rfl rfl (fun u hu => by cases hu)) (hJ.eff 0 (by decide) (fun j hj => by omega) hl (by decide) (a1.put (some 30) v) (by show SP (pValue E ts1.tail) w W2 pb d (.cells #[.int .i64 0, .string ⟨#[]⟩, .slice none 0 0, .slice none 0 0, .slice none 0 0, .int .i64 0] 30 (0, 0)) ps1 0 ((a1.put (some 30) v).eval (.tmp 30)) _; rw [eval_put _ _ _ _ (by rw [hS.size]; exact (by decide : (30 : Nat) < 36)), if_pos rfl]; exact ⟨l, ts', h1, h3, h4, h5⟩))
       ·intro ch WQ hR
        obtain ⟨pa, pe, h1, rfl, h3⟩ := ret_panic VLE_p hR
        exact ⟨hS.defers.trans rfl, ret_bad (by simp only [pSimple, X1.out, D2.out, h1, pSet, PR.bind, ↓reduceIte, HO5.out, if_neg, if_pos HO14.out]) ((grown_to_below (G2.out) (Nat.le_of_lt hpl)).trans h3)⟩
      ·have d0 : L 3 = true := hBh _ rfl ⟨3, .data⟩ (by simp) rfl
       have e28 := (hS.get hBh (i := 4) rfl 1 (by simp) rfl rfl rfl)
       have hS2 := hJ.cur 0 (by decide) d0 (fun _ => hl)
       obtain ⟨v9, hv9⟩ : ∃ v9, a1.eval (.tmp 30) = v9 := ⟨_, rfl⟩
       obtain ⟨l, ts', hY⟩ : ∃ l ts', Yl (pValue E ts1.tail) W2 pb d l ts' v9 W := by rw [← hv9]; exact hS2
       obtain ⟨va, n9, m9, WQ, hrun, hYp⟩ := put_app L2_0.out HO14.out (by omega) (by omega) G2.out B2_0.out hY 28
       refine wpOp_run rfl rfl (v := (.slice va n9 m9)) (w' := WQ) (by simp [execOp, resolve, invoke, builtin, e28, hv9, hrun, Result.andThen]) (hK _ _ (hS.put hon (i := 4) rfl rfl (fun u hu => by cases hu)) (hJ.eff 1 (by decide) (fun j hj => by obtain rfl : j = 0 := (by omega); exact d0) hl (by decide) (a1.put (some 31) (.slice va n9 m9)) (by show SP (pValue E ts1.tail) w W2 pb d (.cells #[.int .i64 0, .string ⟨#[]⟩, .slice none 0 0, .slice none 0 0, .slice none 0 0, .int .i64 0] 30 (0, 0)) ps1 1 ((a1.put (some 31) (.slice va n9 m9)).eval (.tmp 31)) _; rw [eval_put _ _ _ _ (by rw [hS.size]; exact (by decide : (31 : Nat) < 36)), if_pos rfl]; exact ⟨l, ts', _, _, _, rfl, hYp⟩)))
      ·have d1 : L 4 = true := hBh _ rfl ⟨4, .data⟩ (by simp) rfl
       obtain ⟨l, ts', va, n9, m9, hv, hYp⟩ := hJ.cur 1 (by decide) d1 (fun _ => hl)
       have hv2 : a1.eval (.tmp 31) = .slice va n9 m9 := hv
       refine wpOp_run rfl rfl (v := (.agg #[.int .i64 2, .string ⟨#[]⟩, .slice va n9 m9, .slice none 0 0, .slice none 0 0, .int .i64 0])) (w' := W) (by simp [execOp, hv2, bldS2, eval_const, Result.andThen]) (hK _ _ (hS.put hon (i := 5) rfl rfl (fun u hu => by cases hu)) (hJ.eff 2 (by decide) (fun j hj => by obtain rfl : j = 1 := (by omega); exact d1) hl (by decide) (a1.put (some 32) (.agg #[.int .i64 2, .string ⟨#[]⟩, .slice va n9 m9, .slice none 0 0, .slice none 0 0, .int .i64 0])) (by show SP (pValue E ts1.tail) w W2 pb d (.cells #[.int .i64 0, .string ⟨#[]⟩, .slice none 0 0, .slice none 0 0, .slice none 0 0, .int .i64 0] 30 (0, 0)) ps1 2 ((a1.put (some 32) (.agg #[.int .i64 2, .string ⟨#[]⟩, .slice va n9 m9, .slice none 0 0, .slice none 0 0, .int .i64 0])).eval (.tmp 32)) _; rw [eval_put _ _ _ _ (by rw [hS.size]; exact (by decide : (32 : Nat) < 36)), if_pos rfl]; exact ⟨l, ts', _, _, _, rfl, hYp⟩)))
      ·have d2 : L 5 = true := hBh _ rfl ⟨5, .data⟩ (by simp) rfl
       have e4 : a1.eval (.tmp 4) = .pointer (some ⟨w.heap.size, 0, none⟩) := (hS.kept 4 (by kernel_rfl)).trans rfl
       obtain ⟨l, ts', va, m1, m2, hv, hYp⟩ := hJ.cur 2 (by decide) d2 (fun _ => hl)
       have hv2 : a1.eval (.tmp 32) = .agg #[.int .i64 2, .string ⟨#[]⟩, .slice va m1 m2, .slice none 0 0, .slice none 0 0, .int .i64 0] := hv
       refine wpOp_skip rfl rfl rfl (w' := six7 W w.heap.size (.int .i64 2) (.string ⟨#[]⟩) (.slice va m1 m2) (.slice none 0 0) (.slice none 0 0) (.int .i64 0)) (by simp [execOp, e4, hv2, st6S hYp.blk, Result.andThen]) (hK _ _ (hS.none (i := 6) rfl rfl) (hJ.eff 3 (by decide) (fun j hj => by obtain rfl : j = 2 := (by omega); exact d2) hl (by decide) _ ⟨l, ts', va, m1, m2, W, rfl, hYp⟩))
     ·intro L a1 wz hl hS hJ
      obtain ⟨l9, ts', va, m1, m2, Wc, hwz, hY⟩ := hJ.cur 3 (by decide) (hl 6 (by decide)) (fun h => absurd h (by decide))
      have hfr := hS.frame [27, 28, 29, 30, 31, 32] rfl
      refine (‹∀ (a : Act) (w : World), Code.wp Tryz.prog _ _ a w → _› a1 wz ?_)
      obtain ⟨zz, hz⟩ : ∃ z : Nat → Value, z = fun k => a1.eval (.tmp k) := ⟨_, rfl⟩
      rw [← hz] at hfr
      rw [hfr]
      clear hfr hS hJ hl
      simp only [over, List.setIfInBounds_toArray, List.set_cons_zero, List.set_cons_succ]
      have HB0c := Lib.hid hY.blk
      have HGc := Lib.hid hY.gr
      have HLc := Lib.hid hY.lie
      obtain ⟨y0, y1, y2, y3, y4, y5⟩ := six7_cell (a := .int .i64 2) (b := .string ⟨#[]⟩) (c := .slice va m1 m2) (d := .slice none 0 0) (e := .slice none 0 0) (f := .int .i64 0) HB0c.out
      rw [← hwz] at y0 y1 y2 y3 y4 y5
      have HPz : Hid (PAt wz pb ts' d) := by show PAt _ _ _ _; rw [hwz]; exact six_pat hY.pat (by omega)
      have HGz : Hid (w.grownBy wz (some pb)) := by show World.grownBy _ _ _; rw [hwz]; exact six_gr HGc.out (Nat.le_refl _)
      have f4 : Lie (XS (.mk 2 ⟨#[]⟩ (ps1 ++ l9) [] [] 0) (.slice va m1 m2) (.slice none 0 0) (.slice none 0 0)) w.heap.size wz.heap.size wz := by
       have h9 : Lie (RE (.slice va m1 m2) ((ps1 ++ l9))) (w.heap.size + 1) Wc.heap.size wz := by rw [hwz]; exact six_lie HLc.out (by omega)
       exact st_lie (by decide) (h9.wider (by omega) h9.lt (Nat.le_refl _)) (nil_RS HGz.out.size (Nat.le_refl _)) (nil_RS HGz.out.size (Nat.le_refl _))
      have HF := Lib.hid f4
      have HEY := Lib.hid hY.eq
      clear f4 hwz hY hz
      go_wp2_with fail
      refine bodyPost_ret (v := stV (.mk 2 ⟨#[]⟩ ((ps1 ++ l9)) [] [] 0) (.slice va m1 m2) (.slice none 0 0) (.slice none 0 0)) (by simp [results, Tryz.results144, go_sem, stV, y0, y1, y2, y3, y4, y5]) rfl (ret_ok (x := (.mk 2 ⟨#[]⟩ ((ps1 ++ l9)) [] [] 0)) (by simp only [pSimple, X1.out, D2.out, HEY.out, pSet, exText, exParts, PR.bind, ↓reduceIte, HO5.out, if_neg, if_pos HO14.out]) ⟨_, _, _, rfl, HF.out⟩ HPz.out HGz.out)
    ·have hkc : ((op1 : Int) == 14) = false := by simp; omega
     have hkn : ¬ ((op1 : Int) = 14) := by omega
     have HO14 : Hid (¬ exOp (.mk op1 num1 text1 ps1 pm1 bd1) = 14) := ho14
     go_wp2_with fail
     exact ⟨rfl, ret_bad (by simp only [pSimple, X1.out, D2.out, pSet, PR.bind, ↓reduceIte, HO5.out, HO14.out]) (grown_to_below (G2.out) (Nat.le_of_lt hpl))⟩
  ·rw [hi] at h ⊢
   rw [if_neg (by simp)] at h
   have D2 := Lib.hid hi
   clear hi
   have H2 := Lib.hid h
   have G2 : Hid (w.grownBy W2 (some pb)) := gr_trans (gr_alloc (G1.out) _) g
   have hs2 : w.heap.size ≤ W2.heap.size := G2.out.size
   have hm2 : W1.heap.size + 1 ≤ W2.heap.size := by have := g.size; simpa using this
   have B2_0 : Hid (W2.heap[w.heap.size]? = some (.cells #[.int .i64 0, .string ⟨#[]⟩, .slice none 0 0, .slice none 0 0, .slice none 0 0, .int .i64 0] 30 (0, 0))) := blk_next B1_0.out ((Below.refl _ _).alloc (Nat.le_refl _) _) g (by omega)
   have B2_1 : Hid (W2.heap[W1.heap.size]? = some (.cells #[.int .i64 (op1 : Int), .int .i64 num1, .string text1, .slice pa1 ps1.length pc1, .slice na1 pm1.length nc1, .slice ba1 bd1.length bc1] 35 (0, 0))) := blk_new g (by omega)
   have L2_0 : Hid (Lie (XE (.mk op1 num1 text1 ps1 pm1 bd1) (.slice pa1 ps1.length pc1) (.slice na1 pm1.length nc1) (.slice ba1 bd1.length bc1)) (w.heap.size + 1) W1.heap.size W2) := ((L1_0.out.alloc _)).gr g (by omega)
   clear h g B1_0 L1_0
   go_wp2_with fail
   refine (psign_any H2.out K1.out sSE).mono ?_
   rintro en W3 hR
   cases hx : pSign sSE ts1 with
   | bad a e =>
    rw [hx] at hR
    obtain ⟨rfl, hb⟩ := hR
    exact ⟨rfl, ret_bad (by simp only [pSimple, X1.out, D2.out, hx, PR.bind, ↓reduceIte, Bool.false_eq_true]) ((grown_to_below (G2.out) (Nat.le_of_lt hpl)).trans hb)⟩
   | ok x3 ts3 =>
    rw [hx] at hR
    have K3 : Hid (GoodT ts3) := ((eats_sign sSE) _ K1.out _ _ hx).1
    obtain ⟨hv, h, g⟩ := hR
    have hv2 : en = .returned (.tuple #[]) := hv
    subst hv2
    clear hv
    have X3 := Lib.hid hx
    clear hx
    have H3 := Lib.hid h
    have G3 : Hid (w.grownBy W3 (some pb)) := gr_trans (G2.out) g
    have hs3 : w.heap.size ≤ W3.heap.size := G3.out.size
    have hm3 : W2.heap.size + 0 ≤ W3.heap.size := by have := g.size; simpa using this
    have B3_0 : Hid (W3.heap[w.heap.size]? = some (.cells #[.int .i64 0, .string ⟨#[]⟩, .slice none 0 0, .slice none 0 0, .slice none 0 0, .int .i64 0] 30 (0, 0))) := blk_next B2_0.out (Below.refl _ _) g (by omega)
    have B3_1 : Hid (W3.heap[W1.heap.size]? = some (.cells #[.int .i64 (op1 : Int), .int .i64 num1, .string text1, .slice pa1 ps1.length pc1, .slice na1 pm1.length nc1, .slice ba1 bd1.length bc1] 35 (0, 0))) := blk_next B2_1.out (Below.refl _ _) g (by omega)
    have L3_0 : Hid (Lie (XE (.mk op1 num1 text1 ps1 pm1 bd1) (.slice pa1 ps1.length pc1) (.slice na1 pm1.length nc1) (.slice ba1 bd1.length bc1)) (w.heap.size + 1) W1.heap.size W3) := (L2_0.out).gr g (by omega)
    clear h g B2_0 B2_1 L2_0
    have rh := B3_0.out
    have r0 : W3.cell? ⟨w.heap.size, 0, none⟩ = some (.int .i64 0) := by simp [World.cell?, rh]
    have r1 : W3.cell? ⟨w.heap.size, 1, none⟩ = some (.string ⟨#[]⟩) := by simp [World.cell?, rh]
    have r2 : W3.cell? ⟨w.heap.size, 2, none⟩ = some (.slice none 0 0) := by simp [World.cell?, rh]
    have r3 : W3.cell? ⟨w.heap.size, 3, none⟩ = some (.slice none 0 0) := by simp [World.cell?, rh]
    have r4 : W3.cell? ⟨w.heap.size, 4, none⟩ = some (.slice none 0 0) := by simp [World.cell?, rh]
    have r5 : W3.cell? ⟨w.heap.size, 5, none⟩ = some (.int .i64 0) := by simp [World.cell?, rh]
    have rf : ∀ i, W3.frozen? ⟨w.heap.size, i, none⟩ = false := fun i => by simp [World.frozen?, rh]
    have rl : w.heap.size < W3.heap.size := lt_of_block rh
    clear rh
    have qh := B3_1.out
    have q0 : W3.cell? ⟨W1.heap.size, 0, none⟩ = some (.int .i64 (op1 : Int)) := by simp [World.cell?, qh]
    have q1 : W3.cell? ⟨W1.heap.size, 1, none⟩ = some (.int .i64 num1) := by simp [World.cell?, qh]
    have q2 : W3.cell? ⟨W1.heap.size, 2, none⟩ = some (.string text1) := by simp [World.cell?, qh]
    have q3 : W3.cell? ⟨W1.heap.size, 3, none⟩ = some (.slice pa1 ps1.length pc1) := by simp [World.cell?, qh]
    have q4 : W3.cell? ⟨W1.heap.size, 4, none⟩ = some (.slice na1 pm1.length nc1) := by simp [World.cell?, qh]
    have q5 : W3.cell? ⟨W1.heap.size, 5, none⟩ = some (.slice ba1 bd1.length bc1) := by simp [World.cell?, qh]
    have qf : ∀ i, W3.frozen? ⟨W1.heap.size, i, none⟩ = false := fun i => by simp [World.frozen?, qh]
    have ql : W1.heap.size < W3.heap.size := lt_of_block qh
    clear qh
    go_wp2_with fail
    obtain ⟨y0, y1, y2, y3, y4, y5⟩ := six7_cell (a := .int .i64 8) (b := .string ⟨#[]⟩) (c := .slice (some ⟨W3.heap.size, 0, none⟩) 1 1) (d := .slice none 0 0) (e := .slice none 0 0) (f := .int .i64 0) B3_0.out
    have hsz9 : (six7 W3 w.heap.size (.int .i64 8) (.string ⟨#[]⟩) (.slice (some ⟨W3.heap.size, 0, none⟩) 1 1) (.slice none 0 0) (.slice none 0 0) (.int .i64 0)).heap.size = W3.heap.size := six7_size
    have f1 : PAt (six7 W3 w.heap.size (.int .i64 8) (.string ⟨#[]⟩) (.slice (some ⟨W3.heap.size, 0, none⟩) 1 1) (.slice none 0 0) (.slice none 0 0) (.int .i64 0)) pb ts3 d := six_pat H3.out (by omega)
    have f2 : w.grownBy (six7 W3 w.heap.size (.int .i64 8) (.string ⟨#[]⟩) (.slice (some ⟨W3.heap.size, 0, none⟩) 1 1) (.slice none 0 0) (.slice none 0 0) (.int .i64 0)) (some pb) := six_gr (G3.out) (by omega)
    have f3_0 : Lie (XE (.mk op1 num1 text1 ps1 pm1 bd1) (.slice pa1 ps1.length pc1) (.slice na1 pm1.length nc1) (.slice ba1 bd1.length bc1)) (w.heap.size + 1) W1.heap.size (six7 W3 w.heap.size (.int .i64 8) (.string ⟨#[]⟩) (.slice (some ⟨W3.heap.size, 0, none⟩) 1 1) (.slice none 0 0) (.slice none 0 0) (.int .i64 0)) := six_lie L3_0.out (by omega)
    have f5_1 : (six7 W3 w.heap.size (.int .i64 8) (.string ⟨#[]⟩) (.slice (some ⟨W3.heap.size, 0, none⟩) 1 1) (.slice none 0 0) (.slice none 0 0) (.int .i64 0)).heap[W1.heap.size]? = some (.cells #[.int .i64 (op1 : Int), .int .i64 num1, .string text1, .slice pa1 ps1.length pc1, .slice na1 pm1.length nc1, .slice ba1 bd1.length bc1] 35 (0, 0)) := (six7_other (by omega)).trans B3_1.out
    obtain ⟨WF, hWF⟩ : ∃ WF, six7 W3 w.heap.size (.int .i64 8) (.string ⟨#[]⟩) (.slice (some ⟨W3.heap.size, 0, none⟩) 1 1) (.slice none 0 0) (.slice none 0 0) (.int .i64 0) = WF := ⟨_, rfl⟩
    rw [hWF] at y0 y1 y2 y3 y4 y5 hsz9 f1 f2 f3_0 f5_1
    unfold six7 at hWF
    rw [hWF]
    clear hWF
    have f4a := row_lie (n := 1) (esc1 f3_0) f3_0.le f3_0.lt rfl (by decide) (by decide)
    rw [hsz9] at f4a
    have f4b := f4a.wider (s' := w.heap.size) (by omega) (by rw [World.size_alloc, hsz9]; exact Nat.le_refl _) (Nat.le_refl _)
    have f4 := st_lie (kind := 8) (name := ⟨#[]⟩) (pos := 0) (by decide) f4b (nil_RS f4b.le (Nat.le_refl _)) (nil_RS f4b.le (Nat.le_refl _))
    clear f4a f4b
    have HF := Lib.hid f4
    clear f4 f3_0 f5_1
    have hlt9 : w.heap.size < WF.heap.size := by omega
    have hpast : ∀ (o : Obj) (i : Nat), (WF.alloc o).cell? ⟨w.heap.size, i, none⟩ = WF.cell? ⟨w.heap.size, i, none⟩ := fun o i => cell_kept (Below.heap_alloc _ _ _ hlt9)
    refine bodyPost_ret (v := stV (.mk 8 ⟨#[]⟩ [(.mk op1 num1 text1 ps1 pm1 bd1)] [] [] 0) (.slice (some ⟨W3.heap.size, 0, none⟩) 1 1) (.slice none 0 0) (.slice none 0 0)) (by simp [results, Tryz.results144, go_sem, stV, y0, y1, y2, y3, y4, y5, hsz9, hpast]) rfl (ret_ok (x := (.mk 8 ⟨#[]⟩ [(.mk op1 num1 text1 ps1 pm1 bd1)] [] [] 0)) (by simp only [pSimple, X1.out, D2.out, X3.out, PR.bind, ↓reduceIte, Bool.false_eq_true]) ⟨_, _, _, rfl, HF.out⟩ (f1.alloc _) (gr_alloc f2 _))
end Go.Proofs.YtenfphbhofibjaaGreatDoor

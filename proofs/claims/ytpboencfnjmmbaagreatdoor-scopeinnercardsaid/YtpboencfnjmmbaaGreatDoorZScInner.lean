/-
 The law ScopeInner.
 Conditions: the listed variables as they are laid.
-/
import Derived.Test.YtpboencfnjmmbaaGreatDoorZScLib
import Derived.Test.YtpboencfnjmmbaaGreatDoorZEzAw8
set_option maxRecDepth 100000
set_option maxHeartbeats 8000000
set_option linter.unusedVariables false
set_option linter.unusedSimpArgs false
namespace Go.Proofs.YtpboencfnjmmbaaGreatDoor
open Go.RowKit TM
theorem sc_wf : ∀ {T : List TS}, (∀ e ∈ T, wfS e) → wfSs T
 | [], _ => trivial
 | e :: T, h => ⟨h e (by simp), sc_wf fun x hx => h x (by simp [hx])⟩
theorem sc_lenT : ∀ {T : List TS}, (∀ e ∈ T, (txS e).length ≤ 1000000) → (txSs T).length ≤ 1000000 * T.length
 | [], _ => by simp [txSs]
 | e :: T, h => by
  have h1 := h e (by simp)
  have h2 := sc_lenT (T := T) fun x hx => h x (by simp [hx])
  simp only [txSs, List.length_append, List.length_cons]
  omega
theorem sc_nm (n : Nat) : (nm n).size ≤ 3 := by
 unfold nm
 have h8 : n % 8 < 8 := Nat.mod_lt _ (by decide)
 generalize n % 8 = q at *
 rcases (show q = 0 ∨ q = 1 ∨ q = 2 ∨ q = 3 ∨ q = 4 ∨ q = 5 ∨ q = 6 ∨ q = 7 from by omega) with rfl | rfl | rfl | rfl | rfl | rfl | rfl | rfl <;> decide
theorem sc_wtN : ∀ l : List Nat, wtNs (l.map nm) ≤ 4 * l.length
 | [] => by simp [wtNs]
 | n :: l => by
  have h1 := sc_nm n
  have h2 := sc_wtN l
  simp only [List.map_cons, wtNs, List.length_cons]
  omega
theorem sc_wtP (l : List Nat) : wtNs (fnP l) ≤ 12 := by
 have h := sc_wtN (l.take 3)
 have : (l.take 3).length ≤ 3 := by rw [List.length_take]; omega
 unfold fnP
 omega
theorem sc_wtT {T : List TS} {n : Nat} (h : ∀ e ∈ T, wfS e ∧ dpS e ≤ 5 ∧ (txS e).length ≤ 1000000) (hn : T.length ≤ n) (h60 : n ≤ 60) : wtSs T ≤ 120000000 := by
 have h1 := wtSs_le (sc_wf fun e he => (h e he).1)
 have h2 := sc_lenT fun e he => (h e he).2.2
 omega
theorem ein_upS {w w' : World} {x : TE} {a b c : Value} (h : EIn (· < w.heap.size) w x a b c) (hb : Below w.heap.size w w') : EIn (· < w'.heap.size) w' x a b c := EIn.kept (fun k hk => ⟨Nat.lt_of_lt_of_le hk hb.size, hb.block k hk⟩) x h
theorem outer_in {w : World} {gx gy : Nat} {os ps : List ByteArray} {T : List TS} {pa1 na1 ba1 pa2 na2 : Option Addr} {pc1 nc1 bc1 pc2 nc2 : Nat}
 (hi : EIn (· < w.heap.size) w (.mk 17 0 ⟨#[]⟩ [] ps T) (.slice pa1 0 pc1) (.slice na1 ps.length nc1) (.slice ba1 T.length bc1))
 (ho : EIn (· < w.heap.size) w (.mk 17 0 ⟨#[]⟩ [] os []) (.slice pa2 0 pc2) (.slice na2 os.length nc2) (.slice none 0 0))
 (hx : w.heap[gx]? = some (.cells #[.int .i64 17, .int .i64 0, .string ⟨#[]⟩, .slice pa1 0 pc1, .slice na1 ps.length nc1, .slice ba1 T.length bc1] 65 (0, 0)))
 (hy : w.heap[gy]? = some (.cells #[.int .i64 5, .string ⟨#[]⟩, .slice (some ⟨gx, 0, none⟩) 1 1, .slice none 0 0, .slice none 0 0, .int .i64 0] 60 (0, 0))) :
 EIn (· < w.heap.size) w (.mk 17 0 ⟨#[]⟩ [] os [.mk 5 ⟨#[]⟩ [.mk 17 0 ⟨#[]⟩ [] ps T] [] [] 0]) (.slice pa2 0 pc2) (.slice na2 os.length nc2) (.slice (some ⟨gy, 0, none⟩) 1 1) := by
 have c : ∀ k, w.cell? ⟨gx, k, none⟩ = (#[.int .i64 17, .int .i64 0, .string ⟨#[]⟩, .slice pa1 0 pc1, .slice na1 ps.length nc1, .slice ba1 T.length bc1] : Array Value)[k]? := fun k => by simp only [World.cell?, hx]; rfl
 have d : ∀ k, w.cell? ⟨gy, k, none⟩ = (#[.int .i64 5, .string ⟨#[]⟩, .slice (some ⟨gx, 0, none⟩) 1 1, .slice none 0 0, .slice none 0 0, .int .i64 0] : Array Value)[k]? := fun k => by simp only [World.cell?, hy]; rfl
 have n0 : ∀ A : Nat → Nat → Prop, SlAt (· < w.heap.size) (.slice none 0 0) 0 A := fun A => ⟨none, 0, rfl, Nat.le_refl _, by simp [maxLen], fun h => absurd h (by simp)⟩
 refine ⟨ho.1, ho.2.1, ho.2.2.1, ⟨_, 1, rfl, Nat.le_refl _, by simp [maxLen], fun _ => ⟨gy, 0, rfl, lt_of_block hy, ⟨⟨.slice (some ⟨gx, 0, none⟩) 1 1, .slice none 0 0, .slice none 0 0, ⟨d 0, d 1, d 2, d 3, d 4, d 5⟩, ?_⟩, trivial⟩⟩⟩⟩
 exact ⟨by decide, ⟨_, 1, rfl, Nat.le_refl _, by simp [maxLen], fun _ => ⟨gx, 0, rfl, lt_of_block hx, ⟨⟨_, _, _, ⟨c 0, c 1, c 2, c 3, c 4, c 5⟩, hi⟩, trivial⟩⟩⟩, n0 _, n0 _⟩
theorem scopeInner_any {xs : List XX} {ps os : List Nat} (hok : ∀ x ∈ xs, x.ok) (hpo : ∀ n ∈ ps, n ≤ 255) (hoo : ∀ n ∈ os, n ≤ 255) {w : World} {vp vo v : Value} (hp : U8s w vp ps) (ho : U8s w vo os) (hv : XSl w v xs) (hE : Go.Ex.Held gs0 w) :
 Calls Tryz.prog 11 #[vp, vo, v] w fun e w' => e = .returned (.bool true) ∧ Below w.heap.size w w' := by
 have HE := Lib.hid hE
 have HP := Lib.hid hp
 have HO := Lib.hid ho
 have HV := Lib.hid hv
 obtain ⟨ap, cp, rfl, _, hcp, _⟩ := hp
 obtain ⟨ao, co, rfl, _, hco, _⟩ := ho
 obtain ⟨ad, cap, rfl, hc1, hc2, _⟩ := hv
 unfold maxLen at hc2 hcp hco
 clear hE
 go_enter Tryz.func11, Tryz.ntmps11
 go_wp2_with fail
 refine (awakeX8 _ HE.out).mono ?_
 rintro e wa ⟨rfl, ba⟩
 have HBa := Lib.hid ba
 have HPa := Lib.hid (HP.out.up ba)
 have HOa := Lib.hid (HO.out.up ba)
 have HVa := Lib.hid (HV.out.up ba)
 clear ba HE HV HP HO
 by_cases h60 : 60 < xs.length
 ·have h60i : 60 < (xs.length : Int) := by omega
  go_wp2
  go_ret
  exact ⟨rfl, HBa.out⟩
 have h60i : ¬ 60 < (xs.length : Int) := by omega
 obtain ⟨T, hT, hTl, hFn⟩ := fn8_any (xs := xs) (ps := ps) (by omega) hok hpo
 obtain ⟨T2, _, hT2, hFn2⟩ := fn8_any (xs := []) (ps := os) (by simp) (by simp) hoo
 obtain rfl : T2 = [] := List.length_eq_zero_iff.1 (by simpa using hT2)
 have HT := Lib.hid hT
 have HF := Lib.hid hFn
 have HF2 := Lib.hid hFn2
 clear hT hFn hFn2 hT2 hok hpo hoo
 go_wp2_with fail
 refine (HF.out wa _ _ HPa.out HVa.out).mono ?_
 rintro e w1 ⟨a, b, c, rfl, hin1, b1⟩
 have HB1 : Hid (Below w.heap.size w w1) := HBa.out.trans (b1.mono HBa.out.size)
 have HI1 := Lib.hid hin1
 have HO1 := Lib.hid (HOa.out.up b1)
 obtain ⟨_, ⟨pa1, pc1, rfl, _⟩, ⟨na1, nc1, rfl, _⟩, ⟨ba1, bc1, rfl, _⟩⟩ := hin1
 simp only [exV]
 clear b1 HBa HPa HOa HVa HF
 go_wp2_with fail
 obtain ⟨W1, hW1⟩ : ∃ W1, W1 = w1.alloc (.cells #[.int .i64 17, .int .i64 0, .string ⟨#[]⟩, .slice pa1 0 pc1, .slice na1 (fnP ps).length nc1, .slice ba1 T.length bc1] 65) := ⟨_, rfl⟩
 have HG1 : Hid (W1.heap[w1.heap.size]? = some (.cells #[.int .i64 17, .int .i64 0, .string ⟨#[]⟩, .slice pa1 0 pc1, .slice na1 (fnP ps).length nc1, .slice ba1 T.length bc1] 65 (0, 0))) := by refine Lib.hid ?_; rw [hW1]; exact heap_alloc_new _ _
 have hs1 : w1.heap.size < W1.heap.size := by rw [hW1]; simp
 have HB11 : Hid (Below w1.heap.size w1 W1) := by refine Lib.hid ?_; rw [hW1]; exact (Below.refl _ _).alloc (Nat.le_refl _) _
 first | rw [← hW1] | skip
 clear hW1
 refine (HF2.out W1 _ _ (HO1.out.up HB11.out) ⟨none, 0, rfl, by simp, by simp [maxLen], fun h => absurd h (by simp)⟩).mono ?_
 rintro e w2 ⟨a, b, c, rfl, hin2, b2⟩
 have HI2 := Lib.hid hin2
 obtain ⟨_, ⟨pa2, pc2, rfl, _⟩, ⟨na2, nc2, rfl, _⟩, ⟨ba2, bc2, rfl, _⟩⟩ := hin2
 have HB2 : Hid (Below w1.heap.size w1 w2) := HB11.out.trans (b2.mono HB11.out.size)
 have HG2 : Hid (w2.heap[w1.heap.size]? = _) := Lib.hid ((b2.block _ hs1).trans HG1.out)
 have hs2 : w1.heap.size < w2.heap.size := lt_of_block HG2.out
 simp only [exV]
 clear b2 HO1 HF2 HG1 HB11 hs1
 go_upto_region 7 with fail
 obtain ⟨W2, hW2⟩ : ∃ W2, W2 = w2.alloc (.cells #[.int .i64 17, .int .i64 0, .string ⟨#[]⟩, .slice pa2 0 pc2, .slice na2 (fnP os).length nc2, .slice ba2 0 bc2] 65) := ⟨_, rfl⟩
 have HGO : Hid (W2.heap[w2.heap.size]? = some (.cells #[.int .i64 17, .int .i64 0, .string ⟨#[]⟩, .slice pa2 0 pc2, .slice na2 (fnP os).length nc2, .slice ba2 0 bc2] 65 (0, 0))) := by refine Lib.hid ?_; rw [hW2]; exact heap_alloc_new _ _
 have HB22 : Hid (Below w2.heap.size w2 W2) := by refine Lib.hid ?_; rw [hW2]; exact (Below.refl _ _).alloc (Nat.le_refl _) _
 have hs3 : w2.heap.size < W2.heap.size := by rw [hW2]; simp
 first | rw [← hW2] | skip
 clear hW2
 have hg1 : W2.heap[w1.heap.size]? = _ := (HB22.out.block _ hs2).trans HG2.out
 have q0 : W2.cell? ⟨w1.heap.size, 0, none⟩ = some (.int .i64 17) := by simp only [World.cell?, hg1]; rfl
 have q1 : W2.cell? ⟨w1.heap.size, 1, none⟩ = some (.int .i64 0) := by simp only [World.cell?, hg1]; rfl
 have q2 : W2.cell? ⟨w1.heap.size, 2, none⟩ = some (.string ⟨#[]⟩) := by simp only [World.cell?, hg1]; rfl
 have q3 : W2.cell? ⟨w1.heap.size, 3, none⟩ = some (.slice pa1 0 pc1) := by simp only [World.cell?, hg1]; rfl
 have q4 : W2.cell? ⟨w1.heap.size, 4, none⟩ = some (.slice na1 (fnP ps).length nc1) := by simp only [World.cell?, hg1]; rfl
 have q5 : W2.cell? ⟨w1.heap.size, 5, none⟩ = some (.slice ba1 T.length bc1) := by simp only [World.cell?, hg1]; rfl
 have hgo := HGO.out
 have x5 : W2.cell? ⟨w2.heap.size, 5, none⟩ = some (.slice ba2 0 bc2) := by simp only [World.cell?, hgo]; rfl
 have xf : W2.frozen? ⟨w2.heap.size, 5, none⟩ = false := by simp [World.frozen?, hgo]
 clear hgo hg1
 go_upto_region 8 with fail
 obtain ⟨W3, hW3⟩ : ∃ W3, W3 = ((W2.setCell ⟨w2.heap.size, 5, none⟩ (.slice (some ⟨W2.heap.size + 1, 0, none⟩) 1 1)).alloc (.cells #[.int .i64 17, .int .i64 0, .string ⟨#[]⟩, .slice pa1 0 pc1, .slice na1 (fnP ps).length nc1, .slice ba1 T.length bc1] 65)).alloc (.cells #[.int .i64 5, .string ⟨#[]⟩, .slice (some ⟨W2.heap.size, 0, none⟩) 1 1, .slice none 0 0, .slice none 0 0, .int .i64 0] 60) := ⟨_, rfl⟩
 have hss : (W2.setCell ⟨w2.heap.size, 5, none⟩ (.slice (some ⟨W2.heap.size + 1, 0, none⟩) 1 1)).heap.size = W2.heap.size := by simp [World.setCell]
 have hB3 : Below w2.heap.size w2 W3 := by
  rw [hW3]
  exact (((HB22.out.setCell (Nat.le_refl _) _).alloc (by rw [hss]; omega) _).alloc (by simp only [World.size_alloc, hss]; omega) _)
 have HB3 := Lib.hid hB3
 have HO3 : Hid (W3.heap[w2.heap.size]? = some (.cells #[.int .i64 17, .int .i64 0, .string ⟨#[]⟩, .slice pa2 0 pc2, .slice na2 (fnP os).length nc2, .slice (some ⟨W2.heap.size + 1, 0, none⟩) 1 1] 65 (0, 0))) := by
  refine Lib.hid ?_
  rw [hW3]
  exact block_alloc (block_alloc (block_set_same HGO.out _) _) _
 have HX3 : Hid (W3.heap[W2.heap.size]? = some (.cells #[.int .i64 17, .int .i64 0, .string ⟨#[]⟩, .slice pa1 0 pc1, .slice na1 (fnP ps).length nc1, .slice ba1 T.length bc1] 65 (0, 0))) := by
  refine Lib.hid ?_
  rw [hW3]
  refine block_alloc ?_ _
  have := heap_alloc_new (W2.setCell ⟨w2.heap.size, 5, none⟩ (.slice (some ⟨W2.heap.size + 1, 0, none⟩) 1 1)) (.cells #[.int .i64 17, .int .i64 0, .string ⟨#[]⟩, .slice pa1 0 pc1, .slice na1 (fnP ps).length nc1, .slice ba1 T.length bc1] 65)
  rwa [hss] at this
 have HY3 : Hid (W3.heap[W2.heap.size + 1]? = some (.cells #[.int .i64 5, .string ⟨#[]⟩, .slice (some ⟨W2.heap.size, 0, none⟩) 1 1, .slice none 0 0, .slice none 0 0, .int .i64 0] 60 (0, 0))) := by
  refine Lib.hid ?_
  rw [hW3]
  have := heap_alloc_new ((W2.setCell ⟨w2.heap.size, 5, none⟩ (.slice (some ⟨W2.heap.size + 1, 0, none⟩) 1 1)).alloc (.cells #[.int .i64 17, .int .i64 0, .string ⟨#[]⟩, .slice pa1 0 pc1, .slice na1 (fnP ps).length nc1, .slice ba1 T.length bc1] 65)) (.cells #[.int .i64 5, .string ⟨#[]⟩, .slice (some ⟨W2.heap.size, 0, none⟩) 1 1, .slice none 0 0, .slice none 0 0, .int .i64 0] 60)
  rwa [World.size_alloc, hss] at this
 first | rw [← hW3] | skip
 clear hW3 hss q0 q1 q2 q3 q4 q5 x5 xf HGO
 have hI3 : EIn (· < W3.heap.size) W3 (.mk 17 0 ⟨#[]⟩ [] (fnP ps) T) (.slice pa1 0 pc1) (.slice na1 (fnP ps).length nc1) (.slice ba1 T.length bc1) := ein_upS HI1.out (HB2.out.trans (hB3.mono HB2.out.size))
 have hJ3 := ein_upS HI2.out hB3
 have HI3 := Lib.hid hI3
 have HN3 : Hid (SlAt (· < W3.heap.size) (.slice na2 (fnP os).length nc2) (fnP os).length (fun g o => StrAt W3 g o (fnP os))) := hJ3.2.2.1
 have HJ3 : Hid (EIn (· < W3.heap.size) W3 (.mk 17 0 ⟨#[]⟩ [] (fnP os) [.mk 5 ⟨#[]⟩ [.mk 17 0 ⟨#[]⟩ [] (fnP ps) T] [] [] 0]) (.slice pa2 0 pc2) (.slice na2 (fnP os).length nc2) (.slice (some ⟨W2.heap.size + 1, 0, none⟩) 1 1)) :=
  outer_in hI3 ⟨hJ3.1, hJ3.2.1, hJ3.2.2.1, ⟨none, 0, rfl, Nat.le_refl _, by simp [maxLen], fun h => absurd h (by simp)⟩⟩ HX3.out HY3.out
 have hwT : wtSs T ≤ 120000000 := sc_wtT HT.out hTl (by omega)
 have HF1 : Hid (Calls Tryz.prog 30 #[exV (.mk 17 0 ⟨#[]⟩ [] (fnP ps) T) (.slice pa1 0 pc1) (.slice na1 (fnP ps).length nc1) (.slice ba1 T.length bc1)] W3 fun en w' => ∃ v, en = .returned v ∧ w'.ownsRow W3.heap.size 9 1 v (frSs T (fnP ps) []).length ((frSs T (fnP ps) []).map .string) ∧ Below W3.heap.size W3 w') :=
  fdFree_any HI3.out (by have := sc_wtP ps; omega)
 have HF3 : Hid (∀ W, Below W3.heap.size W3 W → Calls Tryz.prog 30 #[exV (.mk 17 0 ⟨#[]⟩ [] (fnP os) [.mk 5 ⟨#[]⟩ [.mk 17 0 ⟨#[]⟩ [] (fnP ps) T] [] [] 0]) (.slice pa2 0 pc2) (.slice na2 (fnP os).length nc2) (.slice (some ⟨W2.heap.size + 1, 0, none⟩) 1 1)] W fun en w' => ∃ v, en = .returned v ∧ w'.ownsRow W.heap.size 9 1 v (outN (fnP os) (frSs T (fnP ps) [])).length ((outN (fnP os) (frSs T (fnP ps) [])).map .string) ∧ Below W.heap.size W w') := fun W hb => by
  have hk : 2 * (wtNs (fnP os) + wtSs [.mk 5 ⟨#[]⟩ [.mk 17 0 ⟨#[]⟩ [] (fnP ps) T] [] [] 0]) ≤ 1000000000000 := by
   have h1 := sc_wtP ps
   have h2 := sc_wtP os
   have hz : (⟨#[]⟩ : ByteArray).size = 0 := rfl
   simp only [wtSs, wtS, wtEs, wtE, hz]
   omega
  have h := fdFree_any (ein_upS HJ3.out hb) hk
  rwa [show frSs [.mk 5 ⟨#[]⟩ [.mk 17 0 ⟨#[]⟩ [] (fnP ps) T] [] [] 0] (fnP os) [] = outN (fnP os) (frSs T (fnP ps) []) from by
   rw [← free_more']
   simp [frSs, frS, frEs, frE]] at h
 have HBW : Hid (Below w.heap.size w W3) := HB1.out.trans ((HB2.out.trans (hB3.mono HB2.out.size)).mono HB1.out.size)
 simp only [exV] at HF1 HF3
 have hg1 : W3.heap[w1.heap.size]? = _ := (hB3.block _ hs2).trans HG2.out
 have q0 : W3.cell? ⟨w1.heap.size, 0, none⟩ = some (.int .i64 17) := by simp only [World.cell?, hg1]; rfl
 have q1 : W3.cell? ⟨w1.heap.size, 1, none⟩ = some (.int .i64 0) := by simp only [World.cell?, hg1]; rfl
 have q2 : W3.cell? ⟨w1.heap.size, 2, none⟩ = some (.string ⟨#[]⟩) := by simp only [World.cell?, hg1]; rfl
 have q3 : W3.cell? ⟨w1.heap.size, 3, none⟩ = some (.slice pa1 0 pc1) := by simp only [World.cell?, hg1]; rfl
 have q4 : W3.cell? ⟨w1.heap.size, 4, none⟩ = some (.slice na1 (fnP ps).length nc1) := by simp only [World.cell?, hg1]; rfl
 have q5 : W3.cell? ⟨w1.heap.size, 5, none⟩ = some (.slice ba1 T.length bc1) := by simp only [World.cell?, hg1]; rfl
 clear hB3 hI3 hJ3 hwT hg1 HI1 HI2 HG2 HB22
 go_wp2_with fail
 refine HF1.out.mono ?_
 rintro e w4 ⟨u, rfl, hr4, b4⟩
 have HR4 := Lib.hid hr4
 have HB4 := Lib.hid b4
 obtain ⟨uo, uc, rfl, _, _⟩ := row_shape hr4
 have ho2 : w2.heap.size < W3.heap.size := lt_of_block HO3.out
 clear hr4 b4 q0 q1 q2 q3 q4 q5
 go_wp2_with fail
 have hc4 : w4.cell? ⟨w2.heap.size, 4, none⟩ = some (.slice na2 (fnP os).length nc2) := by simp only [World.cell?, (HB4.out.block _ ho2).trans HO3.out]; rfl
 refine (delS_any HR4.out hc4 ho2 HB4.out.size (SlAt.imp HN3.out (fun k hk => hk) fun g o hg hA => StrAt.kept (HB4.out.block g hg) _ _ hA)).mono ?_
 rintro e w5 ⟨u5, rfl, hr5, g5⟩
 have HR5 := Lib.hid hr5
 have HB5 : Hid (Below W3.heap.size W3 w5) := HB4.out.grown g5 HB4.out.size (fun k hk => (HR4.out.lt k hk).1)
 have hO5 : w5.heap[w2.heap.size]? = _ := (HB5.out.block _ ho2).trans HO3.out
 have HF5 := Lib.hid (HF3.out w5 HB5.out)
 have HBW5 : Hid (Below w.heap.size w w5) := HBW.out.trans (HB5.out.mono HBW.out.size)
 obtain ⟨u5o, u5c, rfl, _, _⟩ := row_shape hr5
 have q0 : w5.cell? ⟨w2.heap.size, 0, none⟩ = some (.int .i64 17) := by simp only [World.cell?, hO5]; rfl
 have q1 : w5.cell? ⟨w2.heap.size, 1, none⟩ = some (.int .i64 0) := by simp only [World.cell?, hO5]; rfl
 have q2 : w5.cell? ⟨w2.heap.size, 2, none⟩ = some (.string ⟨#[]⟩) := by simp only [World.cell?, hO5]; rfl
 have q3 : w5.cell? ⟨w2.heap.size, 3, none⟩ = some (.slice pa2 0 pc2) := by simp only [World.cell?, hO5]; rfl
 have q4 : w5.cell? ⟨w2.heap.size, 4, none⟩ = some (.slice na2 (fnP os).length nc2) := by simp only [World.cell?, hO5]; rfl
 have q5 : w5.cell? ⟨w2.heap.size, 5, none⟩ = some (.slice (some ⟨W2.heap.size + 1, 0, none⟩) 1 1) := by simp only [World.cell?, hO5]; rfl
 clear hr5 g5 hO5 HB5 HR4 HB4 hc4 HF3 HF1 HI3 HJ3 HX3 HY3 HO3 HB3 HN3
 go_wp2_with fail
 refine HF5.out.mono ?_
 rintro e w6 ⟨u6, rfl, hr6, b6⟩
 have HR6 := Lib.hid hr6
 have HB6 := Lib.hid b6
 obtain ⟨u6o, u6c, rfl, _, _⟩ := row_shape hr6
 clear hr6 b6 q0 q1 q2 q3 q4 q5
 go_wp2_with fail
 refine (eqS_same (row_strs HR6.out) (row_strs (row_keep HR5.out fun k hk => HB6.out.block k (HR5.out.lt k hk).2))).mono ?_
 rintro e w7 ⟨rfl, q, rfl⟩
 have HBE : Hid (Below w.heap.size w (w6.drewN q)) := by
  have h := HBW5.out.trans (HB6.out.mono HBW5.out.size)
  exact ⟨h.os, h.tape, h.output, h.size, h.block⟩
 go_wp2_with fail
 go_ret
 exact ⟨rfl, HBE.out⟩
end Go.Proofs.YtpboencfnjmmbaaGreatDoor

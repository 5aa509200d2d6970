/-
 The laws' Print of layer 6: statements' texts.
 Conditions: as each theorem says.
-/
import Derived.Test.YtpboencfnjmmbaaGreatDoorZLpExpr
set_option maxRecDepth 100000
set_option maxHeartbeats 8000000
set_option linter.unusedVariables false
set_option linter.unusedSimpArgs false
namespace Go.Proofs.YtpboencfnjmmbaaGreatDoor
open Go.RowKit TM
theorem wfSs_get : ∀ {l : List TS} {j : Nat} {s : TS}, wfSs l → l[j]? = some s → wfS s
 | [], j, s, _, h => by simp at h
 | x :: l, 0, s, hw, h => by simp at h; subst h; exact hw.1
 | x :: l, j + 1, s, hw, h => wfSs_get hw.2 (by simpa using h)
theorem txSs_take_len (l : List TS) (j : Nat) : (txSs (l.take j)).length ≤ (txSs l).length := by
 have h := txSs_append (l.take j) (l.drop j)
 rw [List.take_append_drop] at h
 rw [h, List.length_append]
 omega
theorem expr_le {kind : Nat} {name : ByteArray} {exprs : List TE} {body els : List TS} {pos : Int} (hw : wfS (.mk kind name exprs body els pos)) {p : TE} (hp : p ∈ exprs) : (txE p).length ≤ (txS (.mk kind name exprs body els pos)).length := by
 obtain ⟨h8, h2, h1, h7, _⟩ := hw
 have hpl : 0 < exprs.length := List.length_pos_of_mem hp
 rw [txS]
 by_cases k2 : kind = 2
 ·subst k2
  have h3 := h2 rfl
  match exprs, h3 with
  | [a, b, c], _ =>
   simp at hp
   rcases hp with rfl | rfl | rfl <;> simp [stT, simpleT, fieldT, txEs, pt] <;> omega
 by_cases k7 : kind = 7
 ·rw [h7 k7] at hpl; simp at hpl
 have h3 := h1 ⟨k2, k7⟩
 match exprs, h3 with
 | [a], _ =>
  simp at hp
  subst hp
  simp only [stT, blocksT, simpleT, txEs, pt]
  repeat' split
  all_goals simp
  all_goals omega
theorem ein_at {w w' w2 : World} {x : TE} {a b c : Value} (h : EIn (· < w.heap.size) w x a b c) (hb : Below w.heap.size w w') (hb2 : Below w'.heap.size w' w2) : EIn (· < w2.heap.size) w2 x a b c := ein_up (ein_up h hb) hb2
def JOut (w0 : World) (q : Nat) (u : Value) (l : Nat → Bool) (a : Act) (W : World) : Prop := Below w0.heap.size w0 W ∧ (l q = false → a.eval (.tmp 3) = u)
theorem JOut.step {w0 W W2 : World} {q i d : Nat} {u v : Value} {l : Nat → Bool} {a : Act} (h : JOut w0 q u l a W) (hb : Below w0.heap.size w0 W2) (h1 : q ≠ i) (hd : 3 ≠ d) : JOut w0 q u (more l i) (a.put (some d) v) W2 := by
 refine ⟨hb, fun k => ?_⟩
 rw [more_ne _ h1] at k
 rw [eval_other hd]
 exact h.2 k
theorem JOut.last {w0 W : World} {q d : Nat} {u v : Value} {l : Nat → Bool} {a : Act} (h : JOut w0 q u l a W) : JOut w0 q u (more l q) (a.put (some d) v) W :=
 ⟨h.1, fun k => by rw [more_self] at k; cases k⟩
theorem len3 {α : Type} {l : List α} (h : l.length = 3) : ∃ a b c, l = [a, b, c] := by
 match l, h with
 | [a, b, c], _ => exact ⟨a, b, c, rfl⟩
theorem bytes_assoc (a b c : ByteArray) : a ++ (b ++ c) = a ++ b ++ c := (ByteArray.append_assoc ..).symm
theorem nm_mk (n : ByteArray) : n = mkB n.data.toList := by simp [mkB]
theorem lprint_step {n : Nat} (hA : LSm n) (ss : List TS) (hsz : szSs ss ≤ n) : LP ss := by
 intro hw w v hL hI hl
 have HW := Lib.hid hw
 have HA := Lib.hid hA
 have HL : Hid (Lw w) := hL
 have HLEN := Lib.hid hl
 have HSZ := Lib.hid hsz
 obtain ⟨ao, cap, rfl, hc1, hc2, hg⟩ := hI
 have HG := Lib.hid hg
 unfold maxLen at hc2
 obtain ⟨i0, hi, hz0, hz1, hz2⟩ := info_parts infoString
 clear hw hA hL hl hsz hg
 go_enter Tryz.func17, Tryz.ntmps17
 go_wp2_with fail
 go_loopw [11, 3] (fun i u wr => ∃ (j : Nat) (OUT : ByteArray), i = .int .i64 (j : Int) ∧ u = .string OUT ∧ j ≤ ss.length ∧ Hid (OUT = mkB (txSs (ss.take j))) ∧ Hid (Below w.heap.size w wr))
  (fun i _ _ => ss.length - (intOf i).toNat)
 case atStart => exact ⟨0, ⟨#[]⟩, rfl, rfl, Nat.zero_le _, by refine Lib.hid ?_; rfl, Below.refl _ _⟩
 case round =>
  obtain ⟨j, OUT, rfl, rfl, hjl, HOUT, HB⟩ := hrel
  by_cases hlt : j < ss.length
  ·obtain ⟨s, hs⟩ : ∃ s, ss[j]? = some s := ⟨_, List.getElem?_eq_getElem hlt⟩
   obtain ⟨g, o, rfl, hgl, hAt⟩ := HG.out (by omega)
   obtain ⟨vx, vb, ve, hce, hin⟩ := SsAt.get hAt hs
   have HTK := Lib.hid (txSs_take hs)
   have HWS := Lib.hid (wfSs_get HW.out hs)
   have HSS : Hid (szS s ≤ n) := Nat.le_trans (szSs_get hs) HSZ.out
   have HTL : Hid ((txS s).length + (txSs (ss.take j)).length ≤ 1000000000) := by
    have h := txSs_take_len ss (j + 1)
    rw [HTK.out, List.length_append] at h
    have := HLEN.out
    refine Lib.hid ?_
    omega
   have hce2 := hce.kept (HB.out.block g hgl)
   clear hAt hce hs
   obtain ⟨kind, name, exprs, body, els, pos⟩ := s
   have HIN := Lib.hid hin
   obtain ⟨h8, ⟨xa, xc, rfl, hx1, hx2, hxg⟩, ⟨ba, bc, rfl, hb1, hb2, hbg⟩, ⟨ea, ec, rfl, he1, he2, heg⟩⟩ := hin
   obtain ⟨q0, q1, q2, q3, q4, q5⟩ := hce2
   have HXG := Lib.hid hxg
   unfold maxLen at hx2 hb2 he2
   have hidx : 0 ≤ (j : Int) ∧ (j : Int) < (ss.length : Int) := ⟨by omega, by omega⟩
   clear hxg hbg heg
   obtain ⟨W0, hW0⟩ : ∃ W0, W0 = wr := ⟨_, rfl⟩
   subst hW0
   go_wp2_with fail
   obtain ⟨w1, hw1⟩ : ∃ w1, w1 = W0.alloc (.cells #[.int .i64 (kind : Int), .string name, .slice xa exprs.length xc, .slice ba body.length bc, .slice ea els.length ec, .int .i64 pos] 60) := ⟨_, rfl⟩
   have HB1 : Hid (Below W0.heap.size W0 w1) := by rw [hw1]; exact (Below.refl _ _).alloc (Nat.le_refl _) _
   have hgb : w1.heap[W0.heap.size]? = some (.cells #[.int .i64 (kind : Int), .string name, .slice xa exprs.length xc, .slice ba body.length bc, .slice ea els.length ec, .int .i64 pos] 60 (0, 0)) := by rw [hw1]; exact heap_alloc_new _ _
   have HGB := Lib.hid hgb
   have hs1 : W0.heap.size < w1.heap.size := by rw [hw1]; simp
   rw [← hw1]
   have HBA : Hid (Below w.heap.size w w1) := HB.out.trans (HB1.out.mono HB.out.size)
   have hszx : szEs exprs < n := by have h := HSS.out; unfold szS at h; omega
   have hszb : szSs body < n := by have h := HSS.out; unfold szS at h; omega
   have hsze : szSs els < n := by have h := HSS.out; unfold szS at h; omega
   have hlS : (txS (.mk kind name exprs body els pos)).length ≤ 1000000000 := by have h := HTL.out; omega
   have HPL : Hid (∀ p ∈ exprs, (txE p).length ≤ 1000000000) := fun p hp => Nat.le_trans (expr_le HWS.out hp) hlS
   have HPW : Hid (wfEs exprs) := by obtain ⟨_, _, _, _, _, _, _, _, _, h, _⟩ := HWS.out; exact h
   have HLS := Lib.hid hlS
   have HSX := Lib.hid hszx
   have hx3 : exprs.length ≤ 3 := by
    obtain ⟨_, k2, k1, k7, _⟩ := HWS.out
    by_cases h2 : kind = 2
    ·rw [k2 h2]; omega
    by_cases h7 : kind = 7
    ·rw [k7 h7]; simp
    rw [k1 ⟨h2, h7⟩]; omega
   clear hw1 hgb q0 q1 q2 q3 q4 q5 hidx hlS hszx
   go_loopw [18, 6] (fun i vp wr => ∃ k : Nat, i = .int .i64 (k : Int) ∧ k ≤ exprs.length ∧ Hid (wr.ownsRow w1.heap.size 9 1 vp k (strCs ((txB exprs).take k))) ∧ Hid (Below w1.heap.size w1 wr))
    (fun i _ _ => exprs.length - (intOf i).toNat)
   case atStart => exact ⟨0, rfl, Nat.zero_le _, World.ownsRow_nil _ _ _ _, Below.refl _ _⟩
   case round =>
    obtain ⟨k, rfl, hkl, HROW, HBk⟩ := hrel
    by_cases hlt2 : k < exprs.length
    ·obtain ⟨p, hp⟩ : ∃ p, exprs[k]? = some p := ⟨_, List.getElem?_eq_getElem hlt2⟩
     obtain ⟨g2, o2, rfl, hgl2, hAt⟩ := HXG.out (by omega)
     obtain ⟨x, y, z, hce, hin⟩ := hAt.get hp
     have hbw : Below W0.heap.size W0 wr := HB1.out.trans (HBk.out.mono HB1.out.size)
     have HLE : Hid (∀ W, Below w.heap.size w W → ∀ W', Below W.heap.size W W' → Below W0.heap.size W0 W → Calls Tryz.prog 24 #[exV p x y z] W' fun en w' => en = .returned (.string (mkB (txE p))) ∧ Below W'.heap.size W' w') := fun W hb W' hb' h0 => HA.out.e p (Nat.lt_of_le_of_lt (szEs_get hp) HSX.out) (wfEs_get HPW.out hp) W' x y z (HL.out.below (hb.trans (hb'.mono hb.size))) (ein_up (ein_at hin HB.out h0) hb') (HPL.out p (List.mem_of_getElem? hp))
     have HTK2 := Lib.hid (txB_take hp)
     have hce2 := hce.kept ((HB.out.trans (hbw.mono HB.out.size)).block g2 hgl2)
     have HBW : Hid (Below w.heap.size w wr) := HB.out.trans (hbw.mono HB.out.size)
     have HBW0 : Hid (Below W0.heap.size W0 wr) := hbw
     have hbsw : w1.heap.size ≤ wr.heap.size := HBk.out.size
     generalize mkB (txE p) = T at HLE HTK2
     clear hp hAt hce hbw
     obtain ⟨op1, num1, text1, ps1, pm1, bd1⟩ := p
     obtain ⟨_, ⟨pa1, pc1, rfl, _⟩, ⟨na1, nc1, rfl, _⟩, ⟨ba1, bc1, rfl, _⟩⟩ := hin
     obtain ⟨q0, q1, q2, q3, q4, q5⟩ := hce2
     have hidx : 0 ≤ (k : Int) ∧ (k : Int) < (exprs.length : Int) := ⟨by omega, by omega⟩
     simp only [exV] at HLE
     go_wp2_with fail
     refine (HLE.out wr HBW.out _ ((Below.refl _ _).alloc (Nat.le_refl _) _) HBW0.out).mono ?_
     rintro en w2 ⟨rfl, b2⟩
     have b12 : Below wr.heap.size wr w2 := ((Below.refl _ _).alloc (Nat.le_refl _) _).trans (b2.mono (by simp))
     have HR2 := Lib.hid (row_lat HROW.out b12)
     have HB2 : Hid (Below w1.heap.size w1 w2) := HBk.out.trans (b12.mono HBk.out.size)
     have hs2 := b12.size
     clear b2 b12 q0 q1 q2 q3 q4 q5 HLE
     go_wp2_with (at_builtin; refine wpList_append_own2 rfl (.tmp 22) (.tmp 25) 63 rfl w1.heap.size 9 i0 _ 1 16 Tryz.underlying63 hi hz0 hz1 hz2 rfl (by decide) _ k (strCs ((txB exprs).take k)) rfl (HR2.out.alloc _) ⟨w2.heap.size, 0, none⟩ 1 1 [.string T] rfl rfl (fun q u hq => by match q, hq with | 0, hq => simp at hq; subst hq; simp [Addr.add] | q + 1, hq => simp at hq) (by intro u hu; simp at hu; subst hu; rfl) (by decide) (by unfold maxLen; omega) (by omega) (by simp; omega) ?_)
     intro v7 w7 hown7 hgr7 ho7
     have HR7 : Hid (w7.ownsRow w1.heap.size 9 1 v7 (k + 1) (strCs ((txB exprs).take (k + 1)))) := by
      show World.ownsRow _ _ _ _ _ _ _
      rw [HTK2.out, show strCs ((txB exprs).take k ++ [T]) = strCs ((txB exprs).take k) ++ [.string T] from by simp [strCs]]
      exact hown7
     have HB7 : Hid (Below w1.heap.size w1 w7) := ((HB2.out.alloc (by omega) _).grown hgr7 (by simp; omega) (fun q hq => (HR2.out.lt q hq).1))
     clear hown7 hgr7 ho7
     go_wp2_with fail
     go_roundw
     case rel => exact ⟨k + 1, by go_num, by omega, HR7, HB7⟩
     case measure => simp [intOf]; omega
    ·have hke : k = exprs.length := by omega
     subst hke
     have HRW : Hid (wr.ownsRow w1.heap.size 9 1 u6 exprs.length (strCs (txB exprs))) := by
      have h := HROW.out
      rw [show (txB exprs).take exprs.length = txB exprs from by rw [← txB_len, List.take_length]] at h
      exact h
     have HBZ : Hid (Below w.heap.size w wr) := HBA.out.trans (HBk.out.mono HBA.out.size)
     have hgx : wr.heap[W0.heap.size]? = _ := (HBk.out.block W0.heap.size (by omega)).trans HGB.out
     have e0 : wr.cell? ⟨W0.heap.size, 0, none⟩ = some (.int .i64 (kind : Int)) := by simp [World.cell?, hgx]
     have e1 : wr.cell? ⟨W0.heap.size, 1, none⟩ = some (.string name) := by simp [World.cell?, hgx]
     have e3 : wr.cell? ⟨W0.heap.size, 3, none⟩ = some (.slice ba body.length bc) := by simp [World.cell?, hgx]
     have e4 : wr.cell? ⟨W0.heap.size, 4, none⟩ = some (.slice ea els.length ec) := by simp [World.cell?, hgx]
     have hgxl : W0.heap.size < wr.heap.size := lt_of_block hgx
     clear hgx HROW
     rcases (show kind = 0 ∨ kind = 1 ∨ kind = 2 ∨ kind = 3 ∨ kind = 4 ∨ kind = 5 ∨ kind = 6 ∨ kind = 7 ∨ kind = 8 from by omega) with rfl | rfl | rfl | rfl | rfl | rfl | rfl | rfl | rfl
     ·-- kind 0
      obtain ⟨p0, rfl⟩ : ∃ p, exprs = [p] := List.length_eq_one_iff.1 (HWS.out.2.2.1 ⟨by decide, by decide⟩)
      obtain ⟨gx, cx, cur2, hv, hcp1, hcp2, hbg, hblk⟩ := row_at HRW.out (by simp)
      subst hv
      have hgl : gx < wr.heap.size := lt_of_block hblk
      have hr0 := row_cells (g := gx) (cap := cx) HRW.out 0 (.string (mkB (txE p0))) rfl
      skip
      have htx : txS (.mk 0 name [p0] body els pos) = [108, 101, 116, 32] ++ name.data.toList ++ [32, 61, 32] ++ txE p0 ++ [59, 10] := by simp [txS, stT, simpleT, fieldT, txEs, pt]
      have HFIN : Hid (OUT ++ (⟨#[108, 101, 116, 32]⟩ ++ name ++ ⟨#[32, 61, 32]⟩ ++ mkB (txE p0) ++ ⟨#[59, 10]⟩) = mkB (txSs (ss.take (j + 1)))) := by
       show _ = _
       rw [HTK.out, htx, ← mkB_add, ← HOUT.out, ← mkB_add, ← mkB_add, ← mkB_add, ← mkB_add, ← nm_mk name]
       rfl
      have hsz0 : OUT.size = (txSs (ss.take j)).length := by rw [HOUT.out, mkB_size]
      have hnm : name.size = name.data.toList.length := by rw [Array.length_toList]; rfl
      have hsz1 := mkB_size (txE p0)
      have hsum : OUT.size + (mkB (txE p0)).size + name.size ≤ 999999991 := by
       have h := HTL.out
       rw [htx] at h
       simp only [List.length_append, List.length_cons, List.length_nil] at h
       omega
      clear htx hsz0 hnm hblk hsz1
      generalize mkB (txE p0) = T0 at hr0 HFIN hsum
      go_wp2_with fail
      refine region_sh (fun | 0 => some (.string OUT) | 1 => some (.pointer (some ⟨W0.heap.size, 1, none⟩)) | 2 => some (.string name) | 3 => some (.string (⟨#[108, 101, 116, 32]⟩ ++ name)) | 4 => some (.string (⟨#[108, 101, 116, 32]⟩ ++ name ++ ⟨#[32, 61, 32]⟩)) | 5 => some (.slice (some ⟨gx, 0, none⟩) 1 cx) | 6 => some (.pointer (some ⟨gx, 0, none⟩)) | 7 => some (.string T0) | 8 => some (.string (⟨#[108, 101, 116, 32]⟩ ++ name ++ ⟨#[32, 61, 32]⟩ ++ T0)) | 9 => some (.string (⟨#[108, 101, 116, 32]⟩ ++ name ++ ⟨#[32, 61, 32]⟩ ++ T0 ++ ⟨#[59, 10]⟩)) | 10 => some (.string (OUT ++ (⟨#[108, 101, 116, 32]⟩ ++ name ++ ⟨#[32, 61, 32]⟩ ++ T0 ++ ⟨#[59, 10]⟩))) | 11 => some (.string (OUT ++ (⟨#[108, 101, 116, 32]⟩ ++ name ++ ⟨#[32, 61, 32]⟩ ++ T0 ++ ⟨#[59, 10]⟩))) | _ => none) (JOut wr 11 (.string OUT)) (by kernel_rfl) (by kernel_rfl) (by kernel_rfl) (⟨(Below.refl _ _).drew, fun _ => rfl⟩) ?_ ?_
      ·intro hon q hq L a1 W hC hl hBh hS hJ K hK
       have hqn : q < 12 := hq
       clear hq
       rcases (show q = 0 ∨ q = 1 ∨ q = 2 ∨ q = 3 ∨ q = 4 ∨ q = 5 ∨ q = 6 ∨ q = 7 ∨ q = 8 ∨ q = 9 ∨ q = 10 ∨ q = 11 from by omega) with rfl | rfl | rfl | rfl | rfl | rfl | rfl | rfl | rfl | rfl | rfl | rfl
       ·have nl := closed_not hC (closed_not hC hl (i := 10) (j := 0) rfl (g := .data) (by simp) rfl) (i := 11) (j := 10) rfl (g := .data) (by simp) rfl
        have e3 := (eval_tmp a1 3).symm.trans (hJ.2 nl)
        refine wpOp_step rfl (fun K' hK' => ?_)
        go_simp
        exact hK' _ _ (hK _ _ (hS.put hon (i := 0) rfl rfl (fun u hu => by cases hu; rfl)) (hJ.step hJ.1 (by decide) (by decide)))
       ·have e5 := (eval_tmp a1 5).symm.trans ((hS.kept 5 (by kernel_rfl)).trans rfl)
        refine wpOp_step rfl (fun K' hK' => ?_)
        go_simp
        exact hK' _ _ (hK _ _ (hS.put hon (i := 1) rfl rfl (fun u hu => by cases hu; rfl)) (hJ.step hJ.1 (by decide) (by decide)))
       ·have e39 := (eval_tmp a1 39).symm.trans (hS.get hBh (i := 2) rfl 1 (by simp) rfl rfl rfl)
        have hc := (hJ.1.cell (p := ⟨W0.heap.size, 1, none⟩) hgxl).trans e1
        refine wpOp_step rfl (fun K' hK' => ?_)
        go_simp
        exact hK' _ _ (hK _ _ (hS.put hon (i := 2) rfl rfl (fun u hu => by cases hu; rfl)) (hJ.step hJ.1 (by decide) (by decide)))
       ·have e40 := (eval_tmp a1 40).symm.trans (hS.get hBh (i := 3) rfl 2 (by simp) rfl rfl rfl)
        refine wpOp_step rfl (fun K' hK' => ?_)
        go_simp
        rw [if_neg (by omega)]
        exact hK' _ _ (hK _ _ (hS.put hon (i := 3) rfl rfl (fun u hu => by cases hu; rfl)) (hJ.step hJ.1 (by decide) (by decide)))
       ·have e41 := (eval_tmp a1 41).symm.trans (hS.get hBh (i := 4) rfl 3 (by simp) rfl rfl rfl)
        refine wpOp_step rfl (fun K' hK' => ?_)
        go_simp
        rw [if_neg (by omega)]
        exact hK' _ _ (hK _ _ (hS.put hon (i := 4) rfl rfl (fun u hu => by cases hu; rfl)) (hJ.step hJ.1 (by decide) (by decide)))
       ·have e6 := (eval_tmp a1 6).symm.trans ((hS.kept 6 (by kernel_rfl)).trans rfl)
        refine wpOp_step rfl (fun K' hK' => ?_)
        go_simp
        exact hK' _ _ (hK _ _ (hS.put hon (i := 5) rfl rfl (fun u hu => by cases hu; rfl)) (hJ.step hJ.1 (by decide) (by decide)))
       ·have e43 := (eval_tmp a1 43).symm.trans (hS.get hBh (i := 6) rfl 5 (by simp) rfl rfl rfl)
        refine wpOp_step rfl (fun K' hK' => ?_)
        go_simp
        first | rw [if_pos (by decide)] | skip
        exact hK' _ _ (hK _ _ (hS.put hon (i := 6) rfl rfl (fun u hu => by cases hu; rfl)) (hJ.step hJ.1 (by decide) (by decide)))
       ·have e44 := (eval_tmp a1 44).symm.trans (hS.get hBh (i := 7) rfl 6 (by simp) rfl rfl rfl)
        have hc := (hJ.1.cell (p := ⟨gx, 0, none⟩) hgl).trans hr0
        refine wpOp_step rfl (fun K' hK' => ?_)
        go_simp
        exact hK' _ _ (hK _ _ (hS.put hon (i := 7) rfl rfl (fun u hu => by cases hu; rfl)) (hJ.step hJ.1 (by decide) (by decide)))
       ·have e42 := (eval_tmp a1 42).symm.trans (hS.get hBh (i := 8) rfl 4 (by simp) rfl rfl rfl)
        have e45 := (eval_tmp a1 45).symm.trans (hS.get hBh (i := 8) rfl 7 (by simp) rfl rfl rfl)
        refine wpOp_step rfl (fun K' hK' => ?_)
        go_simp
        rw [if_neg (by omega)]
        exact hK' _ _ (hK _ _ (hS.put hon (i := 8) rfl rfl (fun u hu => by cases hu; rfl)) (hJ.step hJ.1 (by decide) (by decide)))
       ·have e46 := (eval_tmp a1 46).symm.trans (hS.get hBh (i := 9) rfl 8 (by simp) rfl rfl rfl)
        refine wpOp_step rfl (fun K' hK' => ?_)
        go_simp
        rw [if_neg (by omega)]
        exact hK' _ _ (hK _ _ (hS.put hon (i := 9) rfl rfl (fun u hu => by cases hu; rfl)) (hJ.step hJ.1 (by decide) (by decide)))
       ·have e38 := (eval_tmp a1 38).symm.trans (hS.get hBh (i := 10) rfl 0 (by simp) rfl rfl rfl)
        have e47 := (eval_tmp a1 47).symm.trans (hS.get hBh (i := 10) rfl 9 (by simp) rfl rfl rfl)
        refine wpOp_step rfl (fun K' hK' => ?_)
        go_simp
        rw [if_neg (by omega)]
        exact hK' _ _ (hK _ _ (hS.put hon (i := 10) rfl rfl (fun u hu => by cases hu; rfl)) (hJ.step hJ.1 (by decide) (by decide)))
       ·have e48 := (eval_tmp a1 48).symm.trans (hS.get hBh (i := 11) rfl 10 (by simp) rfl rfl rfl)
        refine wpOp_step rfl (fun K' hK' => ?_)
        go_simp
        exact hK' _ _ (hK _ _ (hS.put hon (i := 11) rfl rfl (fun u hu => by cases hu; rfl)) hJ.last)
      ·intro L a1 wz hl hS hJ
       have hfr := hS.frame [38, 39, 40, 41, 42, 43, 44, 45, 46, 47, 48, 3] rfl
       obtain ⟨zz, hz⟩ : ∃ z : Nat → Value, z = fun k => a1.eval (.tmp k) := ⟨_, rfl⟩
       rw [← hz] at hfr
       have z3 : zz 3 = .string (OUT ++ (⟨#[108, 101, 116, 32]⟩ ++ name ++ ⟨#[32, 61, 32]⟩ ++ T0 ++ ⟨#[59, 10]⟩)) := by rw [hz]; exact hS.val 11 _ 3 _ rfl rfl rfl (hl 11 (by decide))
       refine (‹∀ (a : Act) (w : World), Code.wp Tryz.prog _ _ a w → _› a1 wz ?_)
       rw [hfr]
       have HBZ2 : Hid (Below w.heap.size w wz) := HBZ.out.trans (hJ.1.mono HBZ.out.size)
       clear hfr hz hS hJ hl
       simp only [over, List.setIfInBounds_toArray, List.set_cons_zero, List.set_cons_succ, z3]
       clear z3
       go_wp2_with fail
       go_roundw
       case rel => exact ⟨j + 1, OUT ++ (⟨#[108, 101, 116, 32]⟩ ++ name ++ ⟨#[32, 61, 32]⟩ ++ T0 ++ ⟨#[59, 10]⟩), by go_num, rfl, by omega, HFIN, HBZ2⟩
       case measure => simp [intOf]; omega
     ·-- kind 1
      obtain ⟨p0, rfl⟩ : ∃ p, exprs = [p] := List.length_eq_one_iff.1 (HWS.out.2.2.1 ⟨by decide, by decide⟩)
      obtain ⟨gx, cx, cur2, hv, hcp1, hcp2, hbg, hblk⟩ := row_at HRW.out (by simp)
      subst hv
      have hgl : gx < wr.heap.size := lt_of_block hblk
      have hr0 := row_cells (g := gx) (cap := cx) HRW.out 0 (.string (mkB (txE p0))) rfl
      skip
      have htx : txS (.mk 1 name [p0] body els pos) = name.data.toList ++ [32, 61, 32] ++ txE p0 ++ [59, 10] := by simp [txS, stT, simpleT, fieldT, txEs, pt]
      have HFIN : Hid (OUT ++ (name ++ ⟨#[32, 61, 32]⟩ ++ mkB (txE p0) ++ ⟨#[59, 10]⟩) = mkB (txSs (ss.take (j + 1)))) := by
       show _ = _
       rw [HTK.out, htx, ← mkB_add, ← HOUT.out, ← mkB_add, ← mkB_add, ← mkB_add, ← nm_mk name]
       rfl
      have hsz0 : OUT.size = (txSs (ss.take j)).length := by rw [HOUT.out, mkB_size]
      have hnm : name.size = name.data.toList.length := by rw [Array.length_toList]; rfl
      have hsz1 := mkB_size (txE p0)
      have hsum : OUT.size + (mkB (txE p0)).size + name.size ≤ 999999995 := by
       have h := HTL.out
       rw [htx] at h
       simp only [List.length_append, List.length_cons, List.length_nil] at h
       omega
      clear htx hsz0 hnm hblk hsz1
      generalize mkB (txE p0) = T0 at hr0 HFIN hsum
      go_wp2_with fail
      refine region_sh (fun | 0 => some (.string OUT) | 1 => some (.pointer (some ⟨W0.heap.size, 1, none⟩)) | 2 => some (.string name) | 3 => some (.string (name ++ ⟨#[32, 61, 32]⟩)) | 4 => some (.slice (some ⟨gx, 0, none⟩) 1 cx) | 5 => some (.pointer (some ⟨gx, 0, none⟩)) | 6 => some (.string T0) | 7 => some (.string (name ++ ⟨#[32, 61, 32]⟩ ++ T0)) | 8 => some (.string (name ++ ⟨#[32, 61, 32]⟩ ++ T0 ++ ⟨#[59, 10]⟩)) | 9 => some (.string (OUT ++ (name ++ ⟨#[32, 61, 32]⟩ ++ T0 ++ ⟨#[59, 10]⟩))) | 10 => some (.string (OUT ++ (name ++ ⟨#[32, 61, 32]⟩ ++ T0 ++ ⟨#[59, 10]⟩))) | _ => none) (JOut wr 10 (.string OUT)) (by kernel_rfl) (by kernel_rfl) (by kernel_rfl) (⟨(Below.refl _ _).drew, fun _ => rfl⟩) ?_ ?_
      ·intro hon q hq L a1 W hC hl hBh hS hJ K hK
       have hqn : q < 11 := hq
       clear hq
       rcases (show q = 0 ∨ q = 1 ∨ q = 2 ∨ q = 3 ∨ q = 4 ∨ q = 5 ∨ q = 6 ∨ q = 7 ∨ q = 8 ∨ q = 9 ∨ q = 10 from by omega) with rfl | rfl | rfl | rfl | rfl | rfl | rfl | rfl | rfl | rfl | rfl
       ·have nl := closed_not hC (closed_not hC hl (i := 9) (j := 0) rfl (g := .data) (by simp) rfl) (i := 10) (j := 9) rfl (g := .data) (by simp) rfl
        have e3 := (eval_tmp a1 3).symm.trans (hJ.2 nl)
        refine wpOp_step rfl (fun K' hK' => ?_)
        go_simp
        exact hK' _ _ (hK _ _ (hS.put hon (i := 0) rfl rfl (fun u hu => by cases hu; rfl)) (hJ.step hJ.1 (by decide) (by decide)))
       ·have e5 := (eval_tmp a1 5).symm.trans ((hS.kept 5 (by kernel_rfl)).trans rfl)
        refine wpOp_step rfl (fun K' hK' => ?_)
        go_simp
        exact hK' _ _ (hK _ _ (hS.put hon (i := 1) rfl rfl (fun u hu => by cases hu; rfl)) (hJ.step hJ.1 (by decide) (by decide)))
       ·have e52 := (eval_tmp a1 52).symm.trans (hS.get hBh (i := 2) rfl 1 (by simp) rfl rfl rfl)
        have hc := (hJ.1.cell (p := ⟨W0.heap.size, 1, none⟩) hgxl).trans e1
        refine wpOp_step rfl (fun K' hK' => ?_)
        go_simp
        exact hK' _ _ (hK _ _ (hS.put hon (i := 2) rfl rfl (fun u hu => by cases hu; rfl)) (hJ.step hJ.1 (by decide) (by decide)))
       ·have e53 := (eval_tmp a1 53).symm.trans (hS.get hBh (i := 3) rfl 2 (by simp) rfl rfl rfl)
        refine wpOp_step rfl (fun K' hK' => ?_)
        go_simp
        rw [if_neg (by omega)]
        exact hK' _ _ (hK _ _ (hS.put hon (i := 3) rfl rfl (fun u hu => by cases hu; rfl)) (hJ.step hJ.1 (by decide) (by decide)))
       ·have e6 := (eval_tmp a1 6).symm.trans ((hS.kept 6 (by kernel_rfl)).trans rfl)
        refine wpOp_step rfl (fun K' hK' => ?_)
        go_simp
        exact hK' _ _ (hK _ _ (hS.put hon (i := 4) rfl rfl (fun u hu => by cases hu; rfl)) (hJ.step hJ.1 (by decide) (by decide)))
       ·have e55 := (eval_tmp a1 55).symm.trans (hS.get hBh (i := 5) rfl 4 (by simp) rfl rfl rfl)
        refine wpOp_step rfl (fun K' hK' => ?_)
        go_simp
        first | rw [if_pos (by decide)] | skip
        exact hK' _ _ (hK _ _ (hS.put hon (i := 5) rfl rfl (fun u hu => by cases hu; rfl)) (hJ.step hJ.1 (by decide) (by decide)))
       ·have e56 := (eval_tmp a1 56).symm.trans (hS.get hBh (i := 6) rfl 5 (by simp) rfl rfl rfl)
        have hc := (hJ.1.cell (p := ⟨gx, 0, none⟩) hgl).trans hr0
        refine wpOp_step rfl (fun K' hK' => ?_)
        go_simp
        exact hK' _ _ (hK _ _ (hS.put hon (i := 6) rfl rfl (fun u hu => by cases hu; rfl)) (hJ.step hJ.1 (by decide) (by decide)))
       ·have e54 := (eval_tmp a1 54).symm.trans (hS.get hBh (i := 7) rfl 3 (by simp) rfl rfl rfl)
        have e57 := (eval_tmp a1 57).symm.trans (hS.get hBh (i := 7) rfl 6 (by simp) rfl rfl rfl)
        refine wpOp_step rfl (fun K' hK' => ?_)
        go_simp
        rw [if_neg (by omega)]
        exact hK' _ _ (hK _ _ (hS.put hon (i := 7) rfl rfl (fun u hu => by cases hu; rfl)) (hJ.step hJ.1 (by decide) (by decide)))
       ·have e58 := (eval_tmp a1 58).symm.trans (hS.get hBh (i := 8) rfl 7 (by simp) rfl rfl rfl)
        refine wpOp_step rfl (fun K' hK' => ?_)
        go_simp
        rw [if_neg (by omega)]
        exact hK' _ _ (hK _ _ (hS.put hon (i := 8) rfl rfl (fun u hu => by cases hu; rfl)) (hJ.step hJ.1 (by decide) (by decide)))
       ·have e51 := (eval_tmp a1 51).symm.trans (hS.get hBh (i := 9) rfl 0 (by simp) rfl rfl rfl)
        have e59 := (eval_tmp a1 59).symm.trans (hS.get hBh (i := 9) rfl 8 (by simp) rfl rfl rfl)
        refine wpOp_step rfl (fun K' hK' => ?_)
        go_simp
        rw [if_neg (by omega)]
        exact hK' _ _ (hK _ _ (hS.put hon (i := 9) rfl rfl (fun u hu => by cases hu; rfl)) (hJ.step hJ.1 (by decide) (by decide)))
       ·have e60 := (eval_tmp a1 60).symm.trans (hS.get hBh (i := 10) rfl 9 (by simp) rfl rfl rfl)
        refine wpOp_step rfl (fun K' hK' => ?_)
        go_simp
        exact hK' _ _ (hK _ _ (hS.put hon (i := 10) rfl rfl (fun u hu => by cases hu; rfl)) hJ.last)
      ·intro L a1 wz hl hS hJ
       have hfr := hS.frame [51, 52, 53, 54, 55, 56, 57, 58, 59, 60, 3] rfl
       obtain ⟨zz, hz⟩ : ∃ z : Nat → Value, z = fun k => a1.eval (.tmp k) := ⟨_, rfl⟩
       rw [← hz] at hfr
       have z3 : zz 3 = .string (OUT ++ (name ++ ⟨#[32, 61, 32]⟩ ++ T0 ++ ⟨#[59, 10]⟩)) := by rw [hz]; exact hS.val 10 _ 3 _ rfl rfl rfl (hl 10 (by decide))
       refine (‹∀ (a : Act) (w : World), Code.wp Tryz.prog _ _ a w → _› a1 wz ?_)
       rw [hfr]
       have HBZ2 : Hid (Below w.heap.size w wz) := HBZ.out.trans (hJ.1.mono HBZ.out.size)
       clear hfr hz hS hJ hl
       simp only [over, List.setIfInBounds_toArray, List.set_cons_zero, List.set_cons_succ, z3]
       clear z3
       go_wp2_with fail
       go_roundw
       case rel => exact ⟨j + 1, OUT ++ (name ++ ⟨#[32, 61, 32]⟩ ++ T0 ++ ⟨#[59, 10]⟩), by go_num, rfl, by omega, HFIN, HBZ2⟩
       case measure => simp [intOf]; omega
     ·-- kind 2
      obtain ⟨p0, p1, p2, rfl⟩ := len3 (HWS.out.2.1 rfl)
      obtain ⟨gx, cx, cur2, hv, hcp1, hcp2, hbg, hblk⟩ := row_at HRW.out (by simp)
      subst hv
      have hgl : gx < wr.heap.size := lt_of_block hblk
      have hr0 := row_cells (g := gx) (cap := cx) HRW.out 0 (.string (mkB (txE p0))) rfl
      have hr1 := row_cells (g := gx) (cap := cx) HRW.out 1 (.string (mkB (txE p1))) rfl
      have hr2 := row_cells (g := gx) (cap := cx) HRW.out 2 (.string (mkB (txE p2))) rfl
      rw [Nat.zero_add] at hr1
      rw [Nat.zero_add] at hr2
      have htx : txS (.mk 2 name [p0, p1, p2] body els pos) = txE p0 ++ [91] ++ txE p1 ++ [93, 32, 61, 32] ++ txE p2 ++ [59, 10] := by simp [txS, stT, simpleT, blocksT, blockT, fieldT, txEs, pt]
      have HFIN : Hid (OUT ++ (mkB (txE p0) ++ ⟨#[91]⟩ ++ mkB (txE p1) ++ ⟨#[93, 32, 61, 32]⟩ ++ mkB (txE p2) ++ ⟨#[59, 10]⟩) = mkB (txSs (ss.take (j + 1)))) := by
       show _ = _
       rw [HTK.out, htx, ← mkB_add, ← HOUT.out, ← mkB_add, ← mkB_add, ← mkB_add, ← mkB_add, ← mkB_add]
       rfl
      have hsz0 : OUT.size = (txSs (ss.take j)).length := by rw [HOUT.out, mkB_size]
      have hnm : name.size = name.data.toList.length := by rw [Array.length_toList]; rfl
      have hszx0 := mkB_size (txE p0)
      have hszx1 := mkB_size (txE p1)
      have hszx2 := mkB_size (txE p2)
      have hlen := HTL.out
      rw [htx] at hlen
      simp only [List.length_append, List.length_cons, List.length_nil] at hlen
      have hsum : OUT.size + (mkB (txE p0)).size + (mkB (txE p1)).size + (mkB (txE p2)).size ≤ 999999993 := by omega
      clear htx hsz0 hnm hlen hblk hszx0 hszx1 hszx2
      generalize mkB (txE p0) = T0 at hr0 HFIN hsum
      generalize mkB (txE p1) = T1 at hr1 HFIN hsum
      generalize mkB (txE p2) = T2 at hr2 HFIN hsum
      obtain ⟨S1, hS1⟩ : ∃ S : ByteArray, S = T0 ++ ⟨#[91]⟩ := ⟨_, rfl⟩
      have hzS1 : S1.size = T0.size + 1 := by rw [hS1, ByteArray.size_append]; try rfl
      try rw [← hS1] at HFIN
      have HS1 := Lib.hid hS1
      clear hS1
      obtain ⟨S2, hS2⟩ : ∃ S : ByteArray, S = S1 ++ T1 := ⟨_, rfl⟩
      have hzS2 : S2.size = S1.size + T1.size := by rw [hS2, ByteArray.size_append]; try rfl
      try rw [← hS2] at HFIN
      have HS2 := Lib.hid hS2
      clear hS2
      obtain ⟨S3, hS3⟩ : ∃ S : ByteArray, S = S2 ++ ⟨#[93, 32, 61, 32]⟩ := ⟨_, rfl⟩
      have hzS3 : S3.size = S2.size + 4 := by rw [hS3, ByteArray.size_append]; try rfl
      try rw [← hS3] at HFIN
      have HS3 := Lib.hid hS3
      clear hS3
      obtain ⟨S4, hS4⟩ : ∃ S : ByteArray, S = S3 ++ T2 := ⟨_, rfl⟩
      have hzS4 : S4.size = S3.size + T2.size := by rw [hS4, ByteArray.size_append]; try rfl
      try rw [← hS4] at HFIN
      have HS4 := Lib.hid hS4
      clear hS4
      obtain ⟨S5, hS5⟩ : ∃ S : ByteArray, S = S4 ++ ⟨#[59, 10]⟩ := ⟨_, rfl⟩
      have hzS5 : S5.size = S4.size + 2 := by rw [hS5, ByteArray.size_append]; try rfl
      try rw [← hS5] at HFIN
      have HS5 := Lib.hid hS5
      clear hS5
      go_wp2_with fail
      refine region_sh (fun | 0 => some (.string OUT) | 1 => some (.slice (some ⟨gx, 0, none⟩) 3 cx) | 2 => some (.pointer (some ⟨gx, 0, none⟩)) | 3 => some (.string T0) | 4 => some (.string S1) | 5 => some (.slice (some ⟨gx, 0, none⟩) 3 cx) | 6 => some (.pointer (some ⟨gx, 1, none⟩)) | 7 => some (.string T1) | 8 => some (.string S2) | 9 => some (.string S3) | 10 => some (.slice (some ⟨gx, 0, none⟩) 3 cx) | 11 => some (.pointer (some ⟨gx, 2, none⟩)) | 12 => some (.string T2) | 13 => some (.string S4) | 14 => some (.string S5) | 15 => some (.string (OUT ++ S5)) | 16 => some (.string (OUT ++ S5)) | _ => none) (JOut wr 16 (.string OUT)) (by kernel_rfl) (by kernel_rfl) (by kernel_rfl) (⟨(Below.refl _ _).drew, fun _ => rfl⟩) ?_ ?_
      ·intro hon q hq LL a1 W hC hl hBh hS hJ K hK
       have hqn : q < 17 := hq
       clear hq
       rcases (show q = 0 ∨ q = 1 ∨ q = 2 ∨ q = 3 ∨ q = 4 ∨ q = 5 ∨ q = 6 ∨ q = 7 ∨ q = 8 ∨ q = 9 ∨ q = 10 ∨ q = 11 ∨ q = 12 ∨ q = 13 ∨ q = 14 ∨ q = 15 ∨ q = 16 from by omega) with rfl | rfl | rfl | rfl | rfl | rfl | rfl | rfl | rfl | rfl | rfl | rfl | rfl | rfl | rfl | rfl | rfl
       ·have nl := closed_not hC (closed_not hC hl (i := 15) (j := 0) rfl (g := .data) (by simp) rfl) (i := 16) (j := 15) rfl (g := .data) (by simp) rfl
        have e3 := (eval_tmp a1 3).symm.trans (hJ.2 nl)
        refine wpOp_step rfl (fun K' hK' => ?_)
        go_simp
        exact hK' _ _ (hK _ _ (hS.put hon (i := 0) rfl rfl (fun u hu => by cases hu; rfl)) (hJ.step hJ.1 (by decide) (by decide)))
       ·have e6 := (eval_tmp a1 6).symm.trans ((hS.kept 6 (by kernel_rfl)).trans rfl)
        refine wpOp_step rfl (fun K' hK' => ?_)
        go_simp
        exact hK' _ _ (hK _ _ (hS.put hon (i := 1) rfl rfl (fun u hu => by cases hu; rfl)) (hJ.step hJ.1 (by decide) (by decide)))
       ·have e64 := (eval_tmp a1 64).symm.trans (hS.get hBh (i := 2) rfl 1 (by simp) rfl rfl rfl)
        refine wpOp_step rfl (fun K' hK' => ?_)
        go_simp
        first | rw [if_pos (by decide)] | skip
        exact hK' _ _ (hK _ _ (hS.put hon (i := 2) rfl rfl (fun u hu => by cases hu; rfl)) (hJ.step hJ.1 (by decide) (by decide)))
       ·have e65 := (eval_tmp a1 65).symm.trans (hS.get hBh (i := 3) rfl 2 (by simp) rfl rfl rfl)
        have hc := (hJ.1.cell (p := ⟨gx, 0, none⟩) hgl).trans hr0
        refine wpOp_step rfl (fun K' hK' => ?_)
        go_simp
        exact hK' _ _ (hK _ _ (hS.put hon (i := 3) rfl rfl (fun u hu => by cases hu; rfl)) (hJ.step hJ.1 (by decide) (by decide)))
       ·have e66 := (eval_tmp a1 66).symm.trans (hS.get hBh (i := 4) rfl 3 (by simp) rfl rfl rfl)
        refine wpOp_step rfl (fun K' hK' => ?_)
        go_simp
        rw [if_neg (by omega)]
        rw [← HS1.out]
        exact hK' _ _ (hK _ _ (hS.put hon (i := 4) rfl rfl (fun u hu => by cases hu; rfl)) (hJ.step hJ.1 (by decide) (by decide)))
       ·have e6 := (eval_tmp a1 6).symm.trans ((hS.kept 6 (by kernel_rfl)).trans rfl)
        refine wpOp_step rfl (fun K' hK' => ?_)
        go_simp
        exact hK' _ _ (hK _ _ (hS.put hon (i := 5) rfl rfl (fun u hu => by cases hu; rfl)) (hJ.step hJ.1 (by decide) (by decide)))
       ·have e68 := (eval_tmp a1 68).symm.trans (hS.get hBh (i := 6) rfl 5 (by simp) rfl rfl rfl)
        refine wpOp_step rfl (fun K' hK' => ?_)
        go_simp
        first | rw [if_pos (by decide)] | skip
        exact hK' _ _ (hK _ _ (hS.put hon (i := 6) rfl rfl (fun u hu => by cases hu; rfl)) (hJ.step hJ.1 (by decide) (by decide)))
       ·have e69 := (eval_tmp a1 69).symm.trans (hS.get hBh (i := 7) rfl 6 (by simp) rfl rfl rfl)
        have hc := (hJ.1.cell (p := ⟨gx, 1, none⟩) hgl).trans hr1
        refine wpOp_step rfl (fun K' hK' => ?_)
        go_simp
        exact hK' _ _ (hK _ _ (hS.put hon (i := 7) rfl rfl (fun u hu => by cases hu; rfl)) (hJ.step hJ.1 (by decide) (by decide)))
       ·have e67 := (eval_tmp a1 67).symm.trans (hS.get hBh (i := 8) rfl 4 (by simp) rfl rfl rfl)
        have e70 := (eval_tmp a1 70).symm.trans (hS.get hBh (i := 8) rfl 7 (by simp) rfl rfl rfl)
        refine wpOp_step rfl (fun K' hK' => ?_)
        go_simp
        rw [if_neg (by omega)]
        rw [← HS2.out]
        exact hK' _ _ (hK _ _ (hS.put hon (i := 8) rfl rfl (fun u hu => by cases hu; rfl)) (hJ.step hJ.1 (by decide) (by decide)))
       ·have e71 := (eval_tmp a1 71).symm.trans (hS.get hBh (i := 9) rfl 8 (by simp) rfl rfl rfl)
        refine wpOp_step rfl (fun K' hK' => ?_)
        go_simp
        rw [if_neg (by omega)]
        rw [← HS3.out]
        exact hK' _ _ (hK _ _ (hS.put hon (i := 9) rfl rfl (fun u hu => by cases hu; rfl)) (hJ.step hJ.1 (by decide) (by decide)))
       ·have e6 := (eval_tmp a1 6).symm.trans ((hS.kept 6 (by kernel_rfl)).trans rfl)
        refine wpOp_step rfl (fun K' hK' => ?_)
        go_simp
        exact hK' _ _ (hK _ _ (hS.put hon (i := 10) rfl rfl (fun u hu => by cases hu; rfl)) (hJ.step hJ.1 (by decide) (by decide)))
       ·have e73 := (eval_tmp a1 73).symm.trans (hS.get hBh (i := 11) rfl 10 (by simp) rfl rfl rfl)
        refine wpOp_step rfl (fun K' hK' => ?_)
        go_simp
        first | rw [if_pos (by decide)] | skip
        exact hK' _ _ (hK _ _ (hS.put hon (i := 11) rfl rfl (fun u hu => by cases hu; rfl)) (hJ.step hJ.1 (by decide) (by decide)))
       ·have e74 := (eval_tmp a1 74).symm.trans (hS.get hBh (i := 12) rfl 11 (by simp) rfl rfl rfl)
        have hc := (hJ.1.cell (p := ⟨gx, 2, none⟩) hgl).trans hr2
        refine wpOp_step rfl (fun K' hK' => ?_)
        go_simp
        exact hK' _ _ (hK _ _ (hS.put hon (i := 12) rfl rfl (fun u hu => by cases hu; rfl)) (hJ.step hJ.1 (by decide) (by decide)))
       ·have e72 := (eval_tmp a1 72).symm.trans (hS.get hBh (i := 13) rfl 9 (by simp) rfl rfl rfl)
        have e75 := (eval_tmp a1 75).symm.trans (hS.get hBh (i := 13) rfl 12 (by simp) rfl rfl rfl)
        refine wpOp_step rfl (fun K' hK' => ?_)
        go_simp
        rw [if_neg (by omega)]
        rw [← HS4.out]
        exact hK' _ _ (hK _ _ (hS.put hon (i := 13) rfl rfl (fun u hu => by cases hu; rfl)) (hJ.step hJ.1 (by decide) (by decide)))
       ·have e76 := (eval_tmp a1 76).symm.trans (hS.get hBh (i := 14) rfl 13 (by simp) rfl rfl rfl)
        refine wpOp_step rfl (fun K' hK' => ?_)
        go_simp
        rw [if_neg (by omega)]
        rw [← HS5.out]
        exact hK' _ _ (hK _ _ (hS.put hon (i := 14) rfl rfl (fun u hu => by cases hu; rfl)) (hJ.step hJ.1 (by decide) (by decide)))
       ·have e63 := (eval_tmp a1 63).symm.trans (hS.get hBh (i := 15) rfl 0 (by simp) rfl rfl rfl)
        have e77 := (eval_tmp a1 77).symm.trans (hS.get hBh (i := 15) rfl 14 (by simp) rfl rfl rfl)
        refine wpOp_step rfl (fun K' hK' => ?_)
        go_simp
        rw [if_neg (by omega)]
        exact hK' _ _ (hK _ _ (hS.put hon (i := 15) rfl rfl (fun u hu => by cases hu; rfl)) (hJ.step hJ.1 (by decide) (by decide)))
       ·have e78 := (eval_tmp a1 78).symm.trans (hS.get hBh (i := 16) rfl 15 (by simp) rfl rfl rfl)
        refine wpOp_step rfl (fun K' hK' => ?_)
        go_simp
        exact hK' _ _ (hK _ _ (hS.put hon (i := 16) rfl rfl (fun u hu => by cases hu; rfl)) hJ.last)
      ·intro LL a1 wz hl hS hJ
       have hfr := hS.frame [63, 64, 65, 66, 67, 68, 69, 70, 71, 72, 73, 74, 75, 76, 77, 78, 3] rfl
       obtain ⟨zz, hz⟩ : ∃ z : Nat → Value, z = fun k => a1.eval (.tmp k) := ⟨_, rfl⟩
       rw [← hz] at hfr
       have z3 : zz 3 = .string (OUT ++ S5) := by rw [hz]; exact hS.val 16 _ 3 _ rfl rfl rfl (hl 16 (by decide))
       refine (‹∀ (a : Act) (w : World), Code.wp Tryz.prog _ _ a w → _› a1 wz ?_)
       rw [hfr]
       have HBZ2 : Hid (Below w.heap.size w wz) := HBZ.out.trans (hJ.1.mono HBZ.out.size)
       have HWZ : Hid (Below wr.heap.size wr wz) := hJ.1
       clear hfr hz hS hJ hl
       simp only [over, List.setIfInBounds_toArray, List.set_cons_zero, List.set_cons_succ, z3]
       clear z3
       go_wp2_with fail
       go_roundw
       case rel => exact ⟨j + 1, OUT ++ S5, by go_num, rfl, by omega, HFIN, HBZ2⟩
       case measure => simp [intOf]; omega
     ·-- kind 3
      obtain ⟨p0, rfl⟩ : ∃ p, exprs = [p] := List.length_eq_one_iff.1 (HWS.out.2.2.1 ⟨by decide, by decide⟩)
      obtain ⟨gx, cx, cur2, hv, hcp1, hcp2, hbg, hblk⟩ := row_at HRW.out (by simp)
      subst hv
      have hgl : gx < wr.heap.size := lt_of_block hblk
      have hr0 := row_cells (g := gx) (cap := cx) HRW.out 0 (.string (mkB (txE p0))) rfl
      obtain ⟨_, _, _, _, _, _, _, _, _, _, hwb, hwe⟩ := HWS.out
      have htx : txS (.mk 3 name [p0] body els pos) = [105, 102, 32] ++ txE p0 ++ [32, 123, 10] ++ txSs body ++ [125] ++ (if els.isEmpty then [] else [32, 101, 108, 115, 101, 32, 123, 10] ++ txSs els ++ [125]) ++ [10] := by cases els <;> simp [txS, stT, simpleT, blocksT, blockT, fieldT, txEs, pt]
      have hsz0 : OUT.size = (txSs (ss.take j)).length := by rw [HOUT.out, mkB_size]
      have hszx0 := mkB_size (txE p0)
      have hszB := mkB_size (txSs body)
      have hszL := mkB_size (txSs els)
      have hlen := HTL.out
      by_cases hem : els = []
      ·subst hem
       have HFIN : Hid (OUT ++ (⟨#[105, 102, 32]⟩ ++ mkB (txE p0) ++ ⟨#[32, 123, 10]⟩ ++ mkB (txSs body) ++ ⟨#[125]⟩) ++ ⟨#[10]⟩ = mkB (txSs (ss.take (j + 1)))) := by
        show _ = _
        rw [HTK.out, htx, ← mkB_add, ← HOUT.out]
        simp only [List.isEmpty_nil, if_true, List.append_nil, ← mkB_add, bytes_assoc]
        rfl
       rw [htx] at hlen
       simp only [List.isEmpty_nil, if_true, List.length_append, List.length_cons, List.length_nil] at hlen
       have hsum : OUT.size + (mkB (txE p0)).size + (mkB (txSs body)).size ≤ 999999992 := by omega
       have hlb : (txSs body).length ≤ 1000000000 := by omega
       have HPB : Hid (∀ W, Below w.heap.size w W → Calls Tryz.prog 17 #[.slice ba body.length bc] W fun en w' => en = .returned (.string (mkB (txSs body))) ∧ Below W.heap.size W w') := fun W hb => HA.out.s body (Nat.lt_of_lt_of_le hszb (Nat.le_refl _)) hwb W _ (HL.out.below hb) (ssin_up (show SsIn w.heap.size w _ body from HIN.out.2.2.1) hb) hlb
       clear htx hsz0 hszx0 hszB hszL hlen hblk
       generalize mkB (txE p0) = T0 at hr0 HFIN hsum
       generalize mkB (txSs body) = TB at HPB HFIN hsum
       obtain ⟨S1, hS1⟩ : ∃ S : ByteArray, S = ⟨#[105, 102, 32]⟩ ++ T0 := ⟨_, rfl⟩
       have hzS1 : S1.size = 3 + T0.size := by rw [hS1, ByteArray.size_append]; try rfl
       try rw [← hS1] at HFIN
       have HS1 := Lib.hid hS1
       clear hS1
       obtain ⟨S2, hS2⟩ : ∃ S : ByteArray, S = S1 ++ ⟨#[32, 123, 10]⟩ := ⟨_, rfl⟩
       have hzS2 : S2.size = S1.size + 3 := by rw [hS2, ByteArray.size_append]; try rfl
       try rw [← hS2] at HFIN
       have HS2 := Lib.hid hS2
       clear hS2
       obtain ⟨S3, hS3⟩ : ∃ S : ByteArray, S = S2 ++ TB := ⟨_, rfl⟩
       have hzS3 : S3.size = S2.size + TB.size := by rw [hS3, ByteArray.size_append]; try rfl
       try rw [← hS3] at HFIN
       have HS3 := Lib.hid hS3
       clear hS3
       obtain ⟨S4, hS4⟩ : ∃ S : ByteArray, S = S3 ++ ⟨#[125]⟩ := ⟨_, rfl⟩
       have hzS4 : S4.size = S3.size + 1 := by rw [hS4, ByteArray.size_append]; try rfl
       try rw [← hS4] at HFIN
       have HS4 := Lib.hid hS4
       clear hS4
       obtain ⟨O1, hO1⟩ : ∃ S : ByteArray, S = OUT ++ S4 := ⟨_, rfl⟩
       have hzO1 : O1.size = OUT.size + S4.size := by rw [hO1, ByteArray.size_append]
       rw [← hO1] at HFIN
       have HO1 := Lib.hid hO1
       clear hO1
       go_wp2_with fail
       refine region_sh (fun | 0 => some (.string OUT) | 1 => some (.slice (some ⟨gx, 0, none⟩) 1 cx) | 2 => some (.pointer (some ⟨gx, 0, none⟩)) | 3 => some (.string T0) | 4 => some (.string S1) | 5 => some (.string S2) | 6 => some (.pointer (some ⟨W0.heap.size, 3, none⟩)) | 7 => some (.slice ba body.length bc) | 8 => some (.string TB) | 9 => some (.string S3) | 10 => some (.string S4) | 11 => some (.string (OUT ++ S4)) | 12 => some (.string (OUT ++ S4)) | _ => none) (JOut wr 12 (.string OUT)) (by kernel_rfl) (by kernel_rfl) (by kernel_rfl) (⟨(Below.refl _ _).drew, fun _ => rfl⟩) ?_ ?_
       ·intro hon q hq LL a1 W hC hl hBh hS hJ K hK
        have hqn : q < 13 := hq
        clear hq
        rcases (show q = 0 ∨ q = 1 ∨ q = 2 ∨ q = 3 ∨ q = 4 ∨ q = 5 ∨ q = 6 ∨ q = 7 ∨ q = 8 ∨ q = 9 ∨ q = 10 ∨ q = 11 ∨ q = 12 from by omega) with rfl | rfl | rfl | rfl | rfl | rfl | rfl | rfl | rfl | rfl | rfl | rfl | rfl
        ·have nl := closed_not hC (closed_not hC hl (i := 11) (j := 0) rfl (g := .data) (by simp) rfl) (i := 12) (j := 11) rfl (g := .data) (by simp) rfl
         have e3 := (eval_tmp a1 3).symm.trans (hJ.2 nl)
         refine wpOp_step rfl (fun K' hK' => ?_)
         go_simp
         exact hK' _ _ (hK _ _ (hS.put hon (i := 0) rfl rfl (fun u hu => by cases hu; rfl)) (hJ.step hJ.1 (by decide) (by decide)))
        ·have e6 := (eval_tmp a1 6).symm.trans ((hS.kept 6 (by kernel_rfl)).trans rfl)
         refine wpOp_step rfl (fun K' hK' => ?_)
         go_simp
         exact hK' _ _ (hK _ _ (hS.put hon (i := 1) rfl rfl (fun u hu => by cases hu; rfl)) (hJ.step hJ.1 (by decide) (by decide)))
        ·have e82 := (eval_tmp a1 82).symm.trans (hS.get hBh (i := 2) rfl 1 (by simp) rfl rfl rfl)
         refine wpOp_step rfl (fun K' hK' => ?_)
         go_simp
         first | rw [if_pos (by decide)] | skip
         exact hK' _ _ (hK _ _ (hS.put hon (i := 2) rfl rfl (fun u hu => by cases hu; rfl)) (hJ.step hJ.1 (by decide) (by decide)))
        ·have e83 := (eval_tmp a1 83).symm.trans (hS.get hBh (i := 3) rfl 2 (by simp) rfl rfl rfl)
         have hc := (hJ.1.cell (p := ⟨gx, 0, none⟩) hgl).trans hr0
         refine wpOp_step rfl (fun K' hK' => ?_)
         go_simp
         exact hK' _ _ (hK _ _ (hS.put hon (i := 3) rfl rfl (fun u hu => by cases hu; rfl)) (hJ.step hJ.1 (by decide) (by decide)))
        ·have e84 := (eval_tmp a1 84).symm.trans (hS.get hBh (i := 4) rfl 3 (by simp) rfl rfl rfl)
         refine wpOp_step rfl (fun K' hK' => ?_)
         go_simp
         rw [if_neg (by omega)]
         rw [← HS1.out]
         exact hK' _ _ (hK _ _ (hS.put hon (i := 4) rfl rfl (fun u hu => by cases hu; rfl)) (hJ.step hJ.1 (by decide) (by decide)))
        ·have e85 := (eval_tmp a1 85).symm.trans (hS.get hBh (i := 5) rfl 4 (by simp) rfl rfl rfl)
         refine wpOp_step rfl (fun K' hK' => ?_)
         go_simp
         rw [if_neg (by omega)]
         rw [← HS2.out]
         exact hK' _ _ (hK _ _ (hS.put hon (i := 5) rfl rfl (fun u hu => by cases hu; rfl)) (hJ.step hJ.1 (by decide) (by decide)))
        ·have e5 := (eval_tmp a1 5).symm.trans ((hS.kept 5 (by kernel_rfl)).trans rfl)
         refine wpOp_step rfl (fun K' hK' => ?_)
         go_simp
         exact hK' _ _ (hK _ _ (hS.put hon (i := 6) rfl rfl (fun u hu => by cases hu; rfl)) (hJ.step hJ.1 (by decide) (by decide)))
        ·have e87 := (eval_tmp a1 87).symm.trans (hS.get hBh (i := 7) rfl 6 (by simp) rfl rfl rfl)
         have hc := (hJ.1.cell (p := ⟨W0.heap.size, 3, none⟩) hgxl).trans e3
         refine wpOp_step rfl (fun K' hK' => ?_)
         go_simp
         exact hK' _ _ (hK _ _ (hS.put hon (i := 7) rfl rfl (fun u hu => by cases hu; rfl)) (hJ.step hJ.1 (by decide) (by decide)))
        ·have e88 := (eval_tmp a1 88).symm.trans (hS.get hBh (i := 8) rfl 7 (by simp) rfl rfl rfl)
         refine wpOp_call (f := 17) (args := #[.slice ba body.length bc]) (R := fun u W3 => u = .string TB ∧ Below W.heap.size W W3) rfl rfl (by simp [execOp, resolve, invoke, e88, go_sem]) ((HPB.out W (HBZ.out.trans (hJ.1.mono HBZ.out.size))).mono fun e W3 ⟨h1, h2⟩ => ⟨_, h1, rfl, h2⟩) ?_
         rintro u W3 ⟨rfl, r2⟩
         exact hK _ _ (hS.put hon (i := 8) rfl rfl (fun u hu => by cases hu; rfl)) (hJ.step (hJ.1.trans (r2.mono hJ.1.size)) (by decide) (by decide))
        ·have e86 := (eval_tmp a1 86).symm.trans (hS.get hBh (i := 9) rfl 5 (by simp) rfl rfl rfl)
         have e89 := (eval_tmp a1 89).symm.trans (hS.get hBh (i := 9) rfl 8 (by simp) rfl rfl rfl)
         refine wpOp_step rfl (fun K' hK' => ?_)
         go_simp
         rw [if_neg (by omega)]
         rw [← HS3.out]
         exact hK' _ _ (hK _ _ (hS.put hon (i := 9) rfl rfl (fun u hu => by cases hu; rfl)) (hJ.step hJ.1 (by decide) (by decide)))
        ·have e90 := (eval_tmp a1 90).symm.trans (hS.get hBh (i := 10) rfl 9 (by simp) rfl rfl rfl)
         refine wpOp_step rfl (fun K' hK' => ?_)
         go_simp
         rw [if_neg (by omega)]
         rw [← HS4.out]
         exact hK' _ _ (hK _ _ (hS.put hon (i := 10) rfl rfl (fun u hu => by cases hu; rfl)) (hJ.step hJ.1 (by decide) (by decide)))
        ·have e81 := (eval_tmp a1 81).symm.trans (hS.get hBh (i := 11) rfl 0 (by simp) rfl rfl rfl)
         have e91 := (eval_tmp a1 91).symm.trans (hS.get hBh (i := 11) rfl 10 (by simp) rfl rfl rfl)
         refine wpOp_step rfl (fun K' hK' => ?_)
         go_simp
         rw [if_neg (by omega)]
         exact hK' _ _ (hK _ _ (hS.put hon (i := 11) rfl rfl (fun u hu => by cases hu; rfl)) (hJ.step hJ.1 (by decide) (by decide)))
        ·have e92 := (eval_tmp a1 92).symm.trans (hS.get hBh (i := 12) rfl 11 (by simp) rfl rfl rfl)
         refine wpOp_step rfl (fun K' hK' => ?_)
         go_simp
         exact hK' _ _ (hK _ _ (hS.put hon (i := 12) rfl rfl (fun u hu => by cases hu; rfl)) hJ.last)
       ·intro LL a1 wz hl hS hJ
        have hfr := hS.frame [81, 82, 83, 84, 85, 86, 87, 88, 89, 90, 91, 92, 3] rfl
        obtain ⟨zz, hz⟩ : ∃ z : Nat → Value, z = fun k => a1.eval (.tmp k) := ⟨_, rfl⟩
        rw [← hz] at hfr
        have z3 : zz 3 = .string (OUT ++ S4) := by rw [hz]; exact hS.val 12 _ 3 _ rfl rfl rfl (hl 12 (by decide))
        refine (‹∀ (a : Act) (w : World), Code.wp Tryz.prog _ _ a w → _› a1 wz ?_)
        rw [hfr]
        have HBZ2 : Hid (Below w.heap.size w wz) := HBZ.out.trans (hJ.1.mono HBZ.out.size)
        have HWZ : Hid (Below wr.heap.size wr wz) := hJ.1
        clear hfr hz hS hJ hl
        simp only [over, List.setIfInBounds_toArray, List.set_cons_zero, List.set_cons_succ, z3]
        clear z3
        rw [← HO1.out]
        have e4z : wz.cell? ⟨W0.heap.size, 4, none⟩ = some (.slice ea 0 ec) := (HWZ.out.cell (p := ⟨W0.heap.size, 4, none⟩) hgxl).trans e4
        go_wp2_with fail
        go_roundw
        case rel => exact ⟨j + 1, O1 ++ ⟨#[10]⟩, by go_num, rfl, by omega, HFIN, HBZ2⟩
        case measure => simp [intOf]; omega
      ·have hne : els.isEmpty = false := by cases els <;> simp at hem ⊢
       have HFIN : Hid (OUT ++ (⟨#[105, 102, 32]⟩ ++ mkB (txE p0) ++ ⟨#[32, 123, 10]⟩ ++ mkB (txSs body) ++ ⟨#[125]⟩) ++ (⟨#[32, 101, 108, 115, 101, 32, 123, 10]⟩ ++ mkB (txSs els) ++ ⟨#[125]⟩) ++ ⟨#[10]⟩ = mkB (txSs (ss.take (j + 1)))) := by
        show _ = _
        rw [HTK.out, htx, ← mkB_add, ← HOUT.out, hne]
        simp only [Bool.false_eq_true, if_false, ← mkB_add, bytes_assoc]
        rfl
       rw [htx, hne] at hlen
       simp only [Bool.false_eq_true, if_false, List.length_append, List.length_cons, List.length_nil] at hlen
       have hsum : OUT.size + (mkB (txE p0)).size + (mkB (txSs body)).size + (mkB (txSs els)).size ≤ 999999983 := by omega
       have hlb : (txSs body).length ≤ 1000000000 := by omega
       have HPB : Hid (∀ W, Below w.heap.size w W → Calls Tryz.prog 17 #[.slice ba body.length bc] W fun en w' => en = .returned (.string (mkB (txSs body))) ∧ Below W.heap.size W w') := fun W hb => HA.out.s body (Nat.lt_of_lt_of_le hszb (Nat.le_refl _)) hwb W _ (HL.out.below hb) (ssin_up (show SsIn w.heap.size w _ body from HIN.out.2.2.1) hb) hlb
       have hle : (txSs els).length ≤ 1000000000 := by omega
       have HPE : Hid (∀ W, Below w.heap.size w W → Calls Tryz.prog 17 #[.slice ea els.length ec] W fun en w' => en = .returned (.string (mkB (txSs els))) ∧ Below W.heap.size W w') := fun W hb => HA.out.s els (Nat.lt_of_lt_of_le hsze (Nat.le_refl _)) hwe W _ (HL.out.below hb) (ssin_up (show SsIn w.heap.size w _ els from HIN.out.2.2.2) hb) hle
       have hel : (0 : Int) < (els.length : Int) := by have : els.length ≠ 0 := fun h => hem (List.length_eq_zero_iff.1 h); omega
       clear htx hsz0 hszx0 hszB hszL hlen hblk hem hne
       generalize mkB (txE p0) = T0 at hr0 HFIN hsum
       generalize mkB (txSs body) = TB at HPB HFIN hsum
       generalize mkB (txSs els) = TL at HPE HFIN hsum
       obtain ⟨S1, hS1⟩ : ∃ S : ByteArray, S = ⟨#[105, 102, 32]⟩ ++ T0 := ⟨_, rfl⟩
       have hzS1 : S1.size = 3 + T0.size := by rw [hS1, ByteArray.size_append]; try rfl
       try rw [← hS1] at HFIN
       have HS1 := Lib.hid hS1
       clear hS1
       obtain ⟨S2, hS2⟩ : ∃ S : ByteArray, S = S1 ++ ⟨#[32, 123, 10]⟩ := ⟨_, rfl⟩
       have hzS2 : S2.size = S1.size + 3 := by rw [hS2, ByteArray.size_append]; try rfl
       try rw [← hS2] at HFIN
       have HS2 := Lib.hid hS2
       clear hS2
       obtain ⟨S3, hS3⟩ : ∃ S : ByteArray, S = S2 ++ TB := ⟨_, rfl⟩
       have hzS3 : S3.size = S2.size + TB.size := by rw [hS3, ByteArray.size_append]; try rfl
       try rw [← hS3] at HFIN
       have HS3 := Lib.hid hS3
       clear hS3
       obtain ⟨S4, hS4⟩ : ∃ S : ByteArray, S = S3 ++ ⟨#[125]⟩ := ⟨_, rfl⟩
       have hzS4 : S4.size = S3.size + 1 := by rw [hS4, ByteArray.size_append]; try rfl
       try rw [← hS4] at HFIN
       have HS4 := Lib.hid hS4
       clear hS4
       obtain ⟨O1, hO1⟩ : ∃ S : ByteArray, S = OUT ++ S4 := ⟨_, rfl⟩
       have hzO1 : O1.size = OUT.size + S4.size := by rw [hO1, ByteArray.size_append]
       rw [← hO1] at HFIN
       have HO1 := Lib.hid hO1
       clear hO1
       go_wp2_with fail
       refine region_sh (fun | 0 => some (.string OUT) | 1 => some (.slice (some ⟨gx, 0, none⟩) 1 cx) | 2 => some (.pointer (some ⟨gx, 0, none⟩)) | 3 => some (.string T0) | 4 => some (.string S1) | 5 => some (.string S2) | 6 => some (.pointer (some ⟨W0.heap.size, 3, none⟩)) | 7 => some (.slice ba body.length bc) | 8 => some (.string TB) | 9 => some (.string S3) | 10 => some (.string S4) | 11 => some (.string (OUT ++ S4)) | 12 => some (.string (OUT ++ S4)) | _ => none) (JOut wr 12 (.string OUT)) (by kernel_rfl) (by kernel_rfl) (by kernel_rfl) (⟨(Below.refl _ _).drew, fun _ => rfl⟩) ?_ ?_
       ·intro hon q hq LL a1 W hC hl hBh hS hJ K hK
        have hqn : q < 13 := hq
        clear hq
        rcases (show q = 0 ∨ q = 1 ∨ q = 2 ∨ q = 3 ∨ q = 4 ∨ q = 5 ∨ q = 6 ∨ q = 7 ∨ q = 8 ∨ q = 9 ∨ q = 10 ∨ q = 11 ∨ q = 12 from by omega) with rfl | rfl | rfl | rfl | rfl | rfl | rfl | rfl | rfl | rfl | rfl | rfl | rfl
        ·have nl := closed_not hC (closed_not hC hl (i := 11) (j := 0) rfl (g := .data) (by simp) rfl) (i := 12) (j := 11) rfl (g := .data) (by simp) rfl
         have e3 := (eval_tmp a1 3).symm.trans (hJ.2 nl)
         refine wpOp_step rfl (fun K' hK' => ?_)
         go_simp
         exact hK' _ _ (hK _ _ (hS.put hon (i := 0) rfl rfl (fun u hu => by cases hu; rfl)) (hJ.step hJ.1 (by decide) (by decide)))
        ·have e6 := (eval_tmp a1 6).symm.trans ((hS.kept 6 (by kernel_rfl)).trans rfl)
         refine wpOp_step rfl (fun K' hK' => ?_)
         go_simp
         exact hK' _ _ (hK _ _ (hS.put hon (i := 1) rfl rfl (fun u hu => by cases hu; rfl)) (hJ.step hJ.1 (by decide) (by decide)))
        ·have e82 := (eval_tmp a1 82).symm.trans (hS.get hBh (i := 2) rfl 1 (by simp) rfl rfl rfl)
         refine wpOp_step rfl (fun K' hK' => ?_)
         go_simp
         first | rw [if_pos (by decide)] | skip
         exact hK' _ _ (hK _ _ (hS.put hon (i := 2) rfl rfl (fun u hu => by cases hu; rfl)) (hJ.step hJ.1 (by decide) (by decide)))
        ·have e83 := (eval_tmp a1 83).symm.trans (hS.get hBh (i := 3) rfl 2 (by simp) rfl rfl rfl)
         have hc := (hJ.1.cell (p := ⟨gx, 0, none⟩) hgl).trans hr0
         refine wpOp_step rfl (fun K' hK' => ?_)
         go_simp
         exact hK' _ _ (hK _ _ (hS.put hon (i := 3) rfl rfl (fun u hu => by cases hu; rfl)) (hJ.step hJ.1 (by decide) (by decide)))
        ·have e84 := (eval_tmp a1 84).symm.trans (hS.get hBh (i := 4) rfl 3 (by simp) rfl rfl rfl)
         refine wpOp_step rfl (fun K' hK' => ?_)
         go_simp
         rw [if_neg (by omega)]
         rw [← HS1.out]
         exact hK' _ _ (hK _ _ (hS.put hon (i := 4) rfl rfl (fun u hu => by cases hu; rfl)) (hJ.step hJ.1 (by decide) (by decide)))
        ·have e85 := (eval_tmp a1 85).symm.trans (hS.get hBh (i := 5) rfl 4 (by simp) rfl rfl rfl)
         refine wpOp_step rfl (fun K' hK' => ?_)
         go_simp
         rw [if_neg (by omega)]
         rw [← HS2.out]
         exact hK' _ _ (hK _ _ (hS.put hon (i := 5) rfl rfl (fun u hu => by cases hu; rfl)) (hJ.step hJ.1 (by decide) (by decide)))
        ·have e5 := (eval_tmp a1 5).symm.trans ((hS.kept 5 (by kernel_rfl)).trans rfl)
         refine wpOp_step rfl (fun K' hK' => ?_)
         go_simp
         exact hK' _ _ (hK _ _ (hS.put hon (i := 6) rfl rfl (fun u hu => by cases hu; rfl)) (hJ.step hJ.1 (by decide) (by decide)))
        ·have e87 := (eval_tmp a1 87).symm.trans (hS.get hBh (i := 7) rfl 6 (by simp) rfl rfl rfl)
         have hc := (hJ.1.cell (p := ⟨W0.heap.size, 3, none⟩) hgxl).trans e3
         refine wpOp_step rfl (fun K' hK' => ?_)
         go_simp
         exact hK' _ _ (hK _ _ (hS.put hon (i := 7) rfl rfl (fun u hu => by cases hu; rfl)) (hJ.step hJ.1 (by decide) (by decide)))
        ·have e88 := (eval_tmp a1 88).symm.trans (hS.get hBh (i := 8) rfl 7 (by simp) rfl rfl rfl)
         refine wpOp_call (f := 17) (args := #[.slice ba body.length bc]) (R := fun u W3 => u = .string TB ∧ Below W.heap.size W W3) rfl rfl (by simp [execOp, resolve, invoke, e88, go_sem]) ((HPB.out W (HBZ.out.trans (hJ.1.mono HBZ.out.size))).mono fun e W3 ⟨h1, h2⟩ => ⟨_, h1, rfl, h2⟩) ?_
         rintro u W3 ⟨rfl, r2⟩
         exact hK _ _ (hS.put hon (i := 8) rfl rfl (fun u hu => by cases hu; rfl)) (hJ.step (hJ.1.trans (r2.mono hJ.1.size)) (by decide) (by decide))
        ·have e86 := (eval_tmp a1 86).symm.trans (hS.get hBh (i := 9) rfl 5 (by simp) rfl rfl rfl)
         have e89 := (eval_tmp a1 89).symm.trans (hS.get hBh (i := 9) rfl 8 (by simp) rfl rfl rfl)
         refine wpOp_step rfl (fun K' hK' => ?_)
         go_simp
         rw [if_neg (by omega)]
         rw [← HS3.out]
         exact hK' _ _ (hK _ _ (hS.put hon (i := 9) rfl rfl (fun u hu => by cases hu; rfl)) (hJ.step hJ.1 (by decide) (by decide)))
        ·have e90 := (eval_tmp a1 90).symm.trans (hS.get hBh (i := 10) rfl 9 (by simp) rfl rfl rfl)
         refine wpOp_step rfl (fun K' hK' => ?_)
         go_simp
         rw [if_neg (by omega)]
         rw [← HS4.out]
         exact hK' _ _ (hK _ _ (hS.put hon (i := 10) rfl rfl (fun u hu => by cases hu; rfl)) (hJ.step hJ.1 (by decide) (by decide)))
        ·have e81 := (eval_tmp a1 81).symm.trans (hS.get hBh (i := 11) rfl 0 (by simp) rfl rfl rfl)
         have e91 := (eval_tmp a1 91).symm.trans (hS.get hBh (i := 11) rfl 10 (by simp) rfl rfl rfl)
         refine wpOp_step rfl (fun K' hK' => ?_)
         go_simp
         rw [if_neg (by omega)]
         exact hK' _ _ (hK _ _ (hS.put hon (i := 11) rfl rfl (fun u hu => by cases hu; rfl)) (hJ.step hJ.1 (by decide) (by decide)))
        ·have e92 := (eval_tmp a1 92).symm.trans (hS.get hBh (i := 12) rfl 11 (by simp) rfl rfl rfl)
         refine wpOp_step rfl (fun K' hK' => ?_)
         go_simp
         exact hK' _ _ (hK _ _ (hS.put hon (i := 12) rfl rfl (fun u hu => by cases hu; rfl)) hJ.last)
       ·intro LL a1 wz hl hS hJ
        have hfr := hS.frame [81, 82, 83, 84, 85, 86, 87, 88, 89, 90, 91, 92, 3] rfl
        obtain ⟨zz, hz⟩ : ∃ z : Nat → Value, z = fun k => a1.eval (.tmp k) := ⟨_, rfl⟩
        rw [← hz] at hfr
        have z3 : zz 3 = .string (OUT ++ S4) := by rw [hz]; exact hS.val 12 _ 3 _ rfl rfl rfl (hl 12 (by decide))
        refine (‹∀ (a : Act) (w : World), Code.wp Tryz.prog _ _ a w → _› a1 wz ?_)
        rw [hfr]
        have HBZ2 : Hid (Below w.heap.size w wz) := HBZ.out.trans (hJ.1.mono HBZ.out.size)
        have HWZ : Hid (Below wr.heap.size wr wz) := hJ.1
        clear hfr hz hS hJ hl
        simp only [over, List.setIfInBounds_toArray, List.set_cons_zero, List.set_cons_succ, z3]
        clear z3
        rw [← HO1.out]
        have e4z : wz.cell? ⟨W0.heap.size, 4, none⟩ = some (.slice ea els.length ec) := (HWZ.out.cell (p := ⟨W0.heap.size, 4, none⟩) hgxl).trans e4
        go_wp2_with fail
        refine (HPE.out wz HBZ2.out).mono ?_
        rintro en w9 ⟨rfl, b9⟩
        have HBZ9 : Hid (Below w.heap.size w w9) := HBZ2.out.trans (b9.mono HBZ2.out.size)
        clear b9 e4z
        go_wp2_with fail
        go_roundw
        case rel => exact ⟨j + 1, _, by go_num, rfl, by omega, HFIN, HBZ9⟩
        case measure => simp [intOf]; omega
     ·-- kind 4
      obtain ⟨p0, rfl⟩ : ∃ p, exprs = [p] := List.length_eq_one_iff.1 (HWS.out.2.2.1 ⟨by decide, by decide⟩)
      obtain ⟨gx, cx, cur2, hv, hcp1, hcp2, hbg, hblk⟩ := row_at HRW.out (by simp)
      subst hv
      have hgl : gx < wr.heap.size := lt_of_block hblk
      have hr0 := row_cells (g := gx) (cap := cx) HRW.out 0 (.string (mkB (txE p0))) rfl
      have htx : txS (.mk 4 name [p0] body els pos) = [119, 104, 105, 108, 101, 32] ++ txE p0 ++ [32, 123, 10] ++ txSs body ++ [125, 10] := by simp [txS, stT, simpleT, blocksT, blockT, fieldT, txEs, pt]
      have HFIN : Hid (OUT ++ (⟨#[119, 104, 105, 108, 101, 32]⟩ ++ mkB (txE p0) ++ ⟨#[32, 123, 10]⟩ ++ mkB (txSs body) ++ ⟨#[125, 10]⟩) = mkB (txSs (ss.take (j + 1)))) := by
       show _ = _
       rw [HTK.out, htx, ← mkB_add, ← HOUT.out, ← mkB_add, ← mkB_add, ← mkB_add, ← mkB_add]
       rfl
      have hsz0 : OUT.size = (txSs (ss.take j)).length := by rw [HOUT.out, mkB_size]
      have hnm : name.size = name.data.toList.length := by rw [Array.length_toList]; rfl
      have hszx0 := mkB_size (txE p0)
      have hszB := mkB_size (txSs body)
      have hlen := HTL.out
      rw [htx] at hlen
      simp only [List.length_append, List.length_cons, List.length_nil] at hlen
      have hsum : OUT.size + (mkB (txE p0)).size + (mkB (txSs body)).size ≤ 999999989 := by omega
      have hlb : (txSs body).length ≤ 1000000000 := by omega
      obtain ⟨_, _, _, _, _, _, _, _, _, _, hwb, hwe⟩ := HWS.out
      have HPB : Hid (∀ W, Below w.heap.size w W → Calls Tryz.prog 17 #[.slice ba body.length bc] W fun en w' => en = .returned (.string (mkB (txSs body))) ∧ Below W.heap.size W w') := fun W hb => HA.out.s body (Nat.lt_of_lt_of_le hszb (Nat.le_refl _)) hwb W _ (HL.out.below hb) (ssin_up (show SsIn w.heap.size w _ body from HIN.out.2.2.1) hb) hlb
      clear htx hsz0 hnm hlen hblk hszx0 hszB
      generalize mkB (txE p0) = T0 at hr0 HFIN hsum
      generalize mkB (txSs body) = TB at HPB HFIN hsum
      obtain ⟨S1, hS1⟩ : ∃ S : ByteArray, S = ⟨#[119, 104, 105, 108, 101, 32]⟩ ++ T0 := ⟨_, rfl⟩
      have hzS1 : S1.size = 6 + T0.size := by rw [hS1, ByteArray.size_append]; try rfl
      try rw [← hS1] at HFIN
      have HS1 := Lib.hid hS1
      clear hS1
      obtain ⟨S2, hS2⟩ : ∃ S : ByteArray, S = S1 ++ ⟨#[32, 123, 10]⟩ := ⟨_, rfl⟩
      have hzS2 : S2.size = S1.size + 3 := by rw [hS2, ByteArray.size_append]; try rfl
      try rw [← hS2] at HFIN
      have HS2 := Lib.hid hS2
      clear hS2
      obtain ⟨S3, hS3⟩ : ∃ S : ByteArray, S = S2 ++ TB := ⟨_, rfl⟩
      have hzS3 : S3.size = S2.size + TB.size := by rw [hS3, ByteArray.size_append]; try rfl
      try rw [← hS3] at HFIN
      have HS3 := Lib.hid hS3
      clear hS3
      obtain ⟨S4, hS4⟩ : ∃ S : ByteArray, S = S3 ++ ⟨#[125, 10]⟩ := ⟨_, rfl⟩
      have hzS4 : S4.size = S3.size + 2 := by rw [hS4, ByteArray.size_append]; try rfl
      try rw [← hS4] at HFIN
      have HS4 := Lib.hid hS4
      clear hS4
      go_wp2_with fail
      refine region_sh (fun | 0 => some (.string OUT) | 1 => some (.slice (some ⟨gx, 0, none⟩) 1 cx) | 2 => some (.pointer (some ⟨gx, 0, none⟩)) | 3 => some (.string T0) | 4 => some (.string S1) | 5 => some (.string S2) | 6 => some (.pointer (some ⟨W0.heap.size, 3, none⟩)) | 7 => some (.slice ba body.length bc) | 8 => some (.string TB) | 9 => some (.string S3) | 10 => some (.string S4) | 11 => some (.string (OUT ++ S4)) | 12 => some (.string (OUT ++ S4)) | _ => none) (JOut wr 12 (.string OUT)) (by kernel_rfl) (by kernel_rfl) (by kernel_rfl) (⟨(Below.refl _ _).drew, fun _ => rfl⟩) ?_ ?_
      ·intro hon q hq LL a1 W hC hl hBh hS hJ K hK
       have hqn : q < 13 := hq
       clear hq
       rcases (show q = 0 ∨ q = 1 ∨ q = 2 ∨ q = 3 ∨ q = 4 ∨ q = 5 ∨ q = 6 ∨ q = 7 ∨ q = 8 ∨ q = 9 ∨ q = 10 ∨ q = 11 ∨ q = 12 from by omega) with rfl | rfl | rfl | rfl | rfl | rfl | rfl | rfl | rfl | rfl | rfl | rfl | rfl
       ·have nl := closed_not hC (closed_not hC hl (i := 11) (j := 0) rfl (g := .data) (by simp) rfl) (i := 12) (j := 11) rfl (g := .data) (by simp) rfl
        have e3 := (eval_tmp a1 3).symm.trans (hJ.2 nl)
        refine wpOp_step rfl (fun K' hK' => ?_)
        go_simp
        exact hK' _ _ (hK _ _ (hS.put hon (i := 0) rfl rfl (fun u hu => by cases hu; rfl)) (hJ.step hJ.1 (by decide) (by decide)))
       ·have e6 := (eval_tmp a1 6).symm.trans ((hS.kept 6 (by kernel_rfl)).trans rfl)
        refine wpOp_step rfl (fun K' hK' => ?_)
        go_simp
        exact hK' _ _ (hK _ _ (hS.put hon (i := 1) rfl rfl (fun u hu => by cases hu; rfl)) (hJ.step hJ.1 (by decide) (by decide)))
       ·have e109 := (eval_tmp a1 109).symm.trans (hS.get hBh (i := 2) rfl 1 (by simp) rfl rfl rfl)
        refine wpOp_step rfl (fun K' hK' => ?_)
        go_simp
        first | rw [if_pos (by decide)] | skip
        exact hK' _ _ (hK _ _ (hS.put hon (i := 2) rfl rfl (fun u hu => by cases hu; rfl)) (hJ.step hJ.1 (by decide) (by decide)))
       ·have e110 := (eval_tmp a1 110).symm.trans (hS.get hBh (i := 3) rfl 2 (by simp) rfl rfl rfl)
        have hc := (hJ.1.cell (p := ⟨gx, 0, none⟩) hgl).trans hr0
        refine wpOp_step rfl (fun K' hK' => ?_)
        go_simp
        exact hK' _ _ (hK _ _ (hS.put hon (i := 3) rfl rfl (fun u hu => by cases hu; rfl)) (hJ.step hJ.1 (by decide) (by decide)))
       ·have e111 := (eval_tmp a1 111).symm.trans (hS.get hBh (i := 4) rfl 3 (by simp) rfl rfl rfl)
        refine wpOp_step rfl (fun K' hK' => ?_)
        go_simp
        rw [if_neg (by omega)]
        rw [← HS1.out]
        exact hK' _ _ (hK _ _ (hS.put hon (i := 4) rfl rfl (fun u hu => by cases hu; rfl)) (hJ.step hJ.1 (by decide) (by decide)))
       ·have e112 := (eval_tmp a1 112).symm.trans (hS.get hBh (i := 5) rfl 4 (by simp) rfl rfl rfl)
        refine wpOp_step rfl (fun K' hK' => ?_)
        go_simp
        rw [if_neg (by omega)]
        rw [← HS2.out]
        exact hK' _ _ (hK _ _ (hS.put hon (i := 5) rfl rfl (fun u hu => by cases hu; rfl)) (hJ.step hJ.1 (by decide) (by decide)))
       ·have e5 := (eval_tmp a1 5).symm.trans ((hS.kept 5 (by kernel_rfl)).trans rfl)
        refine wpOp_step rfl (fun K' hK' => ?_)
        go_simp
        exact hK' _ _ (hK _ _ (hS.put hon (i := 6) rfl rfl (fun u hu => by cases hu; rfl)) (hJ.step hJ.1 (by decide) (by decide)))
       ·have e114 := (eval_tmp a1 114).symm.trans (hS.get hBh (i := 7) rfl 6 (by simp) rfl rfl rfl)
        have hc := (hJ.1.cell (p := ⟨W0.heap.size, 3, none⟩) hgxl).trans e3
        refine wpOp_step rfl (fun K' hK' => ?_)
        go_simp
        exact hK' _ _ (hK _ _ (hS.put hon (i := 7) rfl rfl (fun u hu => by cases hu; rfl)) (hJ.step hJ.1 (by decide) (by decide)))
       ·have e115 := (eval_tmp a1 115).symm.trans (hS.get hBh (i := 8) rfl 7 (by simp) rfl rfl rfl)
        refine wpOp_call (f := 17) (args := #[.slice ba body.length bc]) (R := fun u W3 => u = .string TB ∧ Below W.heap.size W W3) rfl rfl (by simp [execOp, resolve, invoke, e115, go_sem]) ((HPB.out W (HBZ.out.trans (hJ.1.mono HBZ.out.size))).mono fun e W3 ⟨h1, h2⟩ => ⟨_, h1, rfl, h2⟩) ?_
        rintro u W3 ⟨rfl, r2⟩
        exact hK _ _ (hS.put hon (i := 8) rfl rfl (fun u hu => by cases hu; rfl)) (hJ.step (hJ.1.trans (r2.mono hJ.1.size)) (by decide) (by decide))
       ·have e113 := (eval_tmp a1 113).symm.trans (hS.get hBh (i := 9) rfl 5 (by simp) rfl rfl rfl)
        have e116 := (eval_tmp a1 116).symm.trans (hS.get hBh (i := 9) rfl 8 (by simp) rfl rfl rfl)
        refine wpOp_step rfl (fun K' hK' => ?_)
        go_simp
        rw [if_neg (by omega)]
        rw [← HS3.out]
        exact hK' _ _ (hK _ _ (hS.put hon (i := 9) rfl rfl (fun u hu => by cases hu; rfl)) (hJ.step hJ.1 (by decide) (by decide)))
       ·have e117 := (eval_tmp a1 117).symm.trans (hS.get hBh (i := 10) rfl 9 (by simp) rfl rfl rfl)
        refine wpOp_step rfl (fun K' hK' => ?_)
        go_simp
        rw [if_neg (by omega)]
        rw [← HS4.out]
        exact hK' _ _ (hK _ _ (hS.put hon (i := 10) rfl rfl (fun u hu => by cases hu; rfl)) (hJ.step hJ.1 (by decide) (by decide)))
       ·have e108 := (eval_tmp a1 108).symm.trans (hS.get hBh (i := 11) rfl 0 (by simp) rfl rfl rfl)
        have e118 := (eval_tmp a1 118).symm.trans (hS.get hBh (i := 11) rfl 10 (by simp) rfl rfl rfl)
        refine wpOp_step rfl (fun K' hK' => ?_)
        go_simp
        rw [if_neg (by omega)]
        exact hK' _ _ (hK _ _ (hS.put hon (i := 11) rfl rfl (fun u hu => by cases hu; rfl)) (hJ.step hJ.1 (by decide) (by decide)))
       ·have e119 := (eval_tmp a1 119).symm.trans (hS.get hBh (i := 12) rfl 11 (by simp) rfl rfl rfl)
        refine wpOp_step rfl (fun K' hK' => ?_)
        go_simp
        exact hK' _ _ (hK _ _ (hS.put hon (i := 12) rfl rfl (fun u hu => by cases hu; rfl)) hJ.last)
      ·intro LL a1 wz hl hS hJ
       have hfr := hS.frame [108, 109, 110, 111, 112, 113, 114, 115, 116, 117, 118, 119, 3] rfl
       obtain ⟨zz, hz⟩ : ∃ z : Nat → Value, z = fun k => a1.eval (.tmp k) := ⟨_, rfl⟩
       rw [← hz] at hfr
       have z3 : zz 3 = .string (OUT ++ S4) := by rw [hz]; exact hS.val 12 _ 3 _ rfl rfl rfl (hl 12 (by decide))
       refine (‹∀ (a : Act) (w : World), Code.wp Tryz.prog _ _ a w → _› a1 wz ?_)
       rw [hfr]
       have HBZ2 : Hid (Below w.heap.size w wz) := HBZ.out.trans (hJ.1.mono HBZ.out.size)
       have HWZ : Hid (Below wr.heap.size wr wz) := hJ.1
       clear hfr hz hS hJ hl
       simp only [over, List.setIfInBounds_toArray, List.set_cons_zero, List.set_cons_succ, z3]
       clear z3
       go_wp2_with fail
       go_roundw
       case rel => exact ⟨j + 1, OUT ++ S4, by go_num, rfl, by omega, HFIN, HBZ2⟩
       case measure => simp [intOf]; omega
     ·-- kind 5
      obtain ⟨p, rfl⟩ : ∃ p, exprs = [p] := List.length_eq_one_iff.1 (HWS.out.2.2.1 ⟨by decide, by decide⟩)
      obtain ⟨gx, cx, cur2, hv, hcp1, hcp2, hbg, hblk⟩ := row_at HRW.out (by simp)
      subst hv
      have hr0 := row_cells (g := gx) (cap := cx) HRW.out 0 (.string (mkB (txE p))) rfl
      have htx : txS (.mk 5 name [p] body els pos) = [114, 101, 116, 117, 114, 110, 32] ++ txE p ++ [59, 10] := by simp [txS, stT, simpleT, txEs, pt]
      have HFIN : Hid (OUT ++ (⟨#[114, 101, 116, 117, 114, 110, 32]⟩ ++ mkB (txE p) ++ ⟨#[59, 10]⟩) = mkB (txSs (ss.take (j + 1)))) := by
       show _ = _
       rw [HTK.out, htx, ← mkB_add, ← HOUT.out, ← mkB_add, ← mkB_add]
       rfl
      have hsz0 : OUT.size = (txSs (ss.take j)).length := by rw [HOUT.out, mkB_size]
      have hsz1 := mkB_size (txE p)
      have hsum : OUT.size + (mkB (txE p)).size ≤ 999999998 := by
       have h := HTL.out
       rw [htx] at h
       simp only [List.length_append, List.length_cons, List.length_nil] at h
       omega
      clear htx hsz0 hsz1 hblk
      generalize mkB (txE p) = T at hr0 HFIN hsum
      go_wp2_with fail
      go_roundw
      case rel => exact ⟨j + 1, OUT ++ (⟨#[114, 101, 116, 117, 114, 110, 32]⟩ ++ T ++ ⟨#[59, 10]⟩), by go_num, rfl, by omega, HFIN, HBZ⟩
      case measure => simp [intOf]; omega
     ·-- kind 6
      obtain ⟨p, rfl⟩ : ∃ p, exprs = [p] := List.length_eq_one_iff.1 (HWS.out.2.2.1 ⟨by decide, by decide⟩)
      obtain ⟨gx, cx, cur2, hv, hcp1, hcp2, hbg, hblk⟩ := row_at HRW.out (by simp)
      subst hv
      have hr0 := row_cells (g := gx) (cap := cx) HRW.out 0 (.string (mkB (txE p))) rfl
      have htx : txS (.mk 6 name [p] body els pos) = [116, 104, 114, 111, 119, 32] ++ txE p ++ [59, 10] := by simp [txS, stT, simpleT, txEs, pt]
      have HFIN : Hid (OUT ++ (⟨#[116, 104, 114, 111, 119, 32]⟩ ++ mkB (txE p) ++ ⟨#[59, 10]⟩) = mkB (txSs (ss.take (j + 1)))) := by
       show _ = _
       rw [HTK.out, htx, ← mkB_add, ← HOUT.out, ← mkB_add, ← mkB_add]
       rfl
      have hsz0 : OUT.size = (txSs (ss.take j)).length := by rw [HOUT.out, mkB_size]
      have hsz1 := mkB_size (txE p)
      have hsum : OUT.size + (mkB (txE p)).size ≤ 999999998 := by
       have h := HTL.out
       rw [htx] at h
       simp only [List.length_append, List.length_cons, List.length_nil] at h
       omega
      clear htx hsz0 hsz1 hblk
      generalize mkB (txE p) = T at hr0 HFIN hsum
      go_wp2_with fail
      go_roundw
      case rel => exact ⟨j + 1, OUT ++ (⟨#[116, 104, 114, 111, 119, 32]⟩ ++ T ++ ⟨#[59, 10]⟩), by go_num, rfl, by omega, HFIN, HBZ⟩
      case measure => simp [intOf]; omega
     ·-- kind 7
      obtain rfl : exprs = [] := HWS.out.2.2.2.1 rfl
      have htx : txS (.mk 7 name [] body els pos) = [116, 114, 121, 32, 123, 10] ++ txSs body ++ [125, 32, 99, 97, 116, 99, 104, 32] ++ name.data.toList ++ [32, 123, 10] ++ txSs els ++ [125, 10] := by simp [txS, stT, simpleT, blocksT, blockT, fieldT, txEs, pt]
      have HFIN : Hid (OUT ++ (⟨#[116, 114, 121, 32, 123, 10]⟩ ++ mkB (txSs body) ++ ⟨#[125, 32, 99, 97, 116, 99, 104, 32]⟩ ++ name ++ ⟨#[32, 123, 10]⟩ ++ mkB (txSs els) ++ ⟨#[125, 10]⟩) = mkB (txSs (ss.take (j + 1)))) := by
       show _ = _
       rw [HTK.out, htx, ← mkB_add, ← HOUT.out, ← mkB_add, ← mkB_add, ← mkB_add, ← mkB_add, ← mkB_add, ← mkB_add, ← nm_mk name]
       rfl
      have hsz0 : OUT.size = (txSs (ss.take j)).length := by rw [HOUT.out, mkB_size]
      have hnm : name.size = name.data.toList.length := by rw [Array.length_toList]; rfl
      have hszB := mkB_size (txSs body)
      have hszL := mkB_size (txSs els)
      have hlen := HTL.out
      rw [htx] at hlen
      simp only [List.length_append, List.length_cons, List.length_nil] at hlen
      have hsum : OUT.size + name.size + (mkB (txSs body)).size + (mkB (txSs els)).size ≤ 999999981 := by omega
      have hlb : (txSs body).length ≤ 1000000000 := by omega
      have hle : (txSs els).length ≤ 1000000000 := by omega
      obtain ⟨_, _, _, _, _, _, _, _, _, _, hwb, hwe⟩ := HWS.out
      have HPB : Hid (∀ W, Below w.heap.size w W → Calls Tryz.prog 17 #[.slice ba body.length bc] W fun en w' => en = .returned (.string (mkB (txSs body))) ∧ Below W.heap.size W w') := fun W hb => HA.out.s body (Nat.lt_of_lt_of_le hszb (Nat.le_refl _)) hwb W _ (HL.out.below hb) (ssin_up (show SsIn w.heap.size w _ body from HIN.out.2.2.1) hb) hlb
      have HPE : Hid (∀ W, Below w.heap.size w W → Calls Tryz.prog 17 #[.slice ea els.length ec] W fun en w' => en = .returned (.string (mkB (txSs els))) ∧ Below W.heap.size W w') := fun W hb => HA.out.s els (Nat.lt_of_lt_of_le hsze (Nat.le_refl _)) hwe W _ (HL.out.below hb) (ssin_up (show SsIn w.heap.size w _ els from HIN.out.2.2.2) hb) hle
      clear htx hsz0 hnm hlen  hszB hszL
      generalize mkB (txSs body) = TB at HPB HFIN hsum
      generalize mkB (txSs els) = TL at HPE HFIN hsum
      obtain ⟨S1, hS1⟩ : ∃ S : ByteArray, S = ⟨#[116, 114, 121, 32, 123, 10]⟩ ++ TB := ⟨_, rfl⟩
      have hzS1 : S1.size = 6 + TB.size := by rw [hS1, ByteArray.size_append]; try rfl
      try rw [← hS1] at HFIN
      have HS1 := Lib.hid hS1
      clear hS1
      obtain ⟨S2, hS2⟩ : ∃ S : ByteArray, S = S1 ++ ⟨#[125, 32, 99, 97, 116, 99, 104, 32]⟩ := ⟨_, rfl⟩
      have hzS2 : S2.size = S1.size + 8 := by rw [hS2, ByteArray.size_append]; try rfl
      try rw [← hS2] at HFIN
      have HS2 := Lib.hid hS2
      clear hS2
      obtain ⟨S3, hS3⟩ : ∃ S : ByteArray, S = S2 ++ name := ⟨_, rfl⟩
      have hzS3 : S3.size = S2.size + name.size := by rw [hS3, ByteArray.size_append]; try rfl
      try rw [← hS3] at HFIN
      have HS3 := Lib.hid hS3
      clear hS3
      obtain ⟨S4, hS4⟩ : ∃ S : ByteArray, S = S3 ++ ⟨#[32, 123, 10]⟩ := ⟨_, rfl⟩
      have hzS4 : S4.size = S3.size + 3 := by rw [hS4, ByteArray.size_append]; try rfl
      try rw [← hS4] at HFIN
      have HS4 := Lib.hid hS4
      clear hS4
      obtain ⟨S5, hS5⟩ : ∃ S : ByteArray, S = S4 ++ TL := ⟨_, rfl⟩
      have hzS5 : S5.size = S4.size + TL.size := by rw [hS5, ByteArray.size_append]; try rfl
      try rw [← hS5] at HFIN
      have HS5 := Lib.hid hS5
      clear hS5
      obtain ⟨S6, hS6⟩ : ∃ S : ByteArray, S = S5 ++ ⟨#[125, 10]⟩ := ⟨_, rfl⟩
      have hzS6 : S6.size = S5.size + 2 := by rw [hS6, ByteArray.size_append]; try rfl
      try rw [← hS6] at HFIN
      have HS6 := Lib.hid hS6
      clear hS6
      go_wp2_with fail
      refine region_sh (fun | 0 => some (.string OUT) | 1 => some (.pointer (some ⟨W0.heap.size, 3, none⟩)) | 2 => some (.slice ba body.length bc) | 3 => some (.string TB) | 4 => some (.string S1) | 5 => some (.string S2) | 6 => some (.pointer (some ⟨W0.heap.size, 1, none⟩)) | 7 => some (.string name) | 8 => some (.string S3) | 9 => some (.string S4) | 10 => some (.pointer (some ⟨W0.heap.size, 4, none⟩)) | 11 => some (.slice ea els.length ec) | 12 => some (.string TL) | 13 => some (.string S5) | 14 => some (.string S6) | 15 => some (.string (OUT ++ S6)) | 16 => some (.string (OUT ++ S6)) | _ => none) (JOut wr 16 (.string OUT)) (by kernel_rfl) (by kernel_rfl) (by kernel_rfl) (⟨(Below.refl _ _).drew, fun _ => rfl⟩) ?_ ?_
      ·intro hon q hq LL a1 W hC hl hBh hS hJ K hK
       have hqn : q < 17 := hq
       clear hq
       rcases (show q = 0 ∨ q = 1 ∨ q = 2 ∨ q = 3 ∨ q = 4 ∨ q = 5 ∨ q = 6 ∨ q = 7 ∨ q = 8 ∨ q = 9 ∨ q = 10 ∨ q = 11 ∨ q = 12 ∨ q = 13 ∨ q = 14 ∨ q = 15 ∨ q = 16 from by omega) with rfl | rfl | rfl | rfl | rfl | rfl | rfl | rfl | rfl | rfl | rfl | rfl | rfl | rfl | rfl | rfl | rfl
       ·have nl := closed_not hC (closed_not hC hl (i := 15) (j := 0) rfl (g := .data) (by simp) rfl) (i := 16) (j := 15) rfl (g := .data) (by simp) rfl
        have e3 := (eval_tmp a1 3).symm.trans (hJ.2 nl)
        refine wpOp_step rfl (fun K' hK' => ?_)
        go_simp
        exact hK' _ _ (hK _ _ (hS.put hon (i := 0) rfl rfl (fun u hu => by cases hu; rfl)) (hJ.step hJ.1 (by decide) (by decide)))
       ·have e5 := (eval_tmp a1 5).symm.trans ((hS.kept 5 (by kernel_rfl)).trans rfl)
        refine wpOp_step rfl (fun K' hK' => ?_)
        go_simp
        exact hK' _ _ (hK _ _ (hS.put hon (i := 1) rfl rfl (fun u hu => by cases hu; rfl)) (hJ.step hJ.1 (by decide) (by decide)))
       ·have e141 := (eval_tmp a1 141).symm.trans (hS.get hBh (i := 2) rfl 1 (by simp) rfl rfl rfl)
        have hc := (hJ.1.cell (p := ⟨W0.heap.size, 3, none⟩) hgxl).trans e3
        refine wpOp_step rfl (fun K' hK' => ?_)
        go_simp
        exact hK' _ _ (hK _ _ (hS.put hon (i := 2) rfl rfl (fun u hu => by cases hu; rfl)) (hJ.step hJ.1 (by decide) (by decide)))
       ·have e142 := (eval_tmp a1 142).symm.trans (hS.get hBh (i := 3) rfl 2 (by simp) rfl rfl rfl)
        refine wpOp_call (f := 17) (args := #[.slice ba body.length bc]) (R := fun u W3 => u = .string TB ∧ Below W.heap.size W W3) rfl rfl (by simp [execOp, resolve, invoke, e142, go_sem]) ((HPB.out W (HBZ.out.trans (hJ.1.mono HBZ.out.size))).mono fun e W3 ⟨h1, h2⟩ => ⟨_, h1, rfl, h2⟩) ?_
        rintro u W3 ⟨rfl, r2⟩
        exact hK _ _ (hS.put hon (i := 3) rfl rfl (fun u hu => by cases hu; rfl)) (hJ.step (hJ.1.trans (r2.mono hJ.1.size)) (by decide) (by decide))
       ·have e143 := (eval_tmp a1 143).symm.trans (hS.get hBh (i := 4) rfl 3 (by simp) rfl rfl rfl)
        refine wpOp_step rfl (fun K' hK' => ?_)
        go_simp
        rw [if_neg (by omega)]
        rw [← HS1.out]
        exact hK' _ _ (hK _ _ (hS.put hon (i := 4) rfl rfl (fun u hu => by cases hu; rfl)) (hJ.step hJ.1 (by decide) (by decide)))
       ·have e144 := (eval_tmp a1 144).symm.trans (hS.get hBh (i := 5) rfl 4 (by simp) rfl rfl rfl)
        refine wpOp_step rfl (fun K' hK' => ?_)
        go_simp
        rw [if_neg (by omega)]
        rw [← HS2.out]
        exact hK' _ _ (hK _ _ (hS.put hon (i := 5) rfl rfl (fun u hu => by cases hu; rfl)) (hJ.step hJ.1 (by decide) (by decide)))
       ·have e5 := (eval_tmp a1 5).symm.trans ((hS.kept 5 (by kernel_rfl)).trans rfl)
        refine wpOp_step rfl (fun K' hK' => ?_)
        go_simp
        exact hK' _ _ (hK _ _ (hS.put hon (i := 6) rfl rfl (fun u hu => by cases hu; rfl)) (hJ.step hJ.1 (by decide) (by decide)))
       ·have e146 := (eval_tmp a1 146).symm.trans (hS.get hBh (i := 7) rfl 6 (by simp) rfl rfl rfl)
        have hc := (hJ.1.cell (p := ⟨W0.heap.size, 1, none⟩) hgxl).trans e1
        refine wpOp_step rfl (fun K' hK' => ?_)
        go_simp
        exact hK' _ _ (hK _ _ (hS.put hon (i := 7) rfl rfl (fun u hu => by cases hu; rfl)) (hJ.step hJ.1 (by decide) (by decide)))
       ·have e145 := (eval_tmp a1 145).symm.trans (hS.get hBh (i := 8) rfl 5 (by simp) rfl rfl rfl)
        have e147 := (eval_tmp a1 147).symm.trans (hS.get hBh (i := 8) rfl 7 (by simp) rfl rfl rfl)
        refine wpOp_step rfl (fun K' hK' => ?_)
        go_simp
        rw [if_neg (by omega)]
        rw [← HS3.out]
        exact hK' _ _ (hK _ _ (hS.put hon (i := 8) rfl rfl (fun u hu => by cases hu; rfl)) (hJ.step hJ.1 (by decide) (by decide)))
       ·have e148 := (eval_tmp a1 148).symm.trans (hS.get hBh (i := 9) rfl 8 (by simp) rfl rfl rfl)
        refine wpOp_step rfl (fun K' hK' => ?_)
        go_simp
        rw [if_neg (by omega)]
        rw [← HS4.out]
        exact hK' _ _ (hK _ _ (hS.put hon (i := 9) rfl rfl (fun u hu => by cases hu; rfl)) (hJ.step hJ.1 (by decide) (by decide)))
       ·have e5 := (eval_tmp a1 5).symm.trans ((hS.kept 5 (by kernel_rfl)).trans rfl)
        refine wpOp_step rfl (fun K' hK' => ?_)
        go_simp
        exact hK' _ _ (hK _ _ (hS.put hon (i := 10) rfl rfl (fun u hu => by cases hu; rfl)) (hJ.step hJ.1 (by decide) (by decide)))
       ·have e150 := (eval_tmp a1 150).symm.trans (hS.get hBh (i := 11) rfl 10 (by simp) rfl rfl rfl)
        have hc := (hJ.1.cell (p := ⟨W0.heap.size, 4, none⟩) hgxl).trans e4
        refine wpOp_step rfl (fun K' hK' => ?_)
        go_simp
        exact hK' _ _ (hK _ _ (hS.put hon (i := 11) rfl rfl (fun u hu => by cases hu; rfl)) (hJ.step hJ.1 (by decide) (by decide)))
       ·have e151 := (eval_tmp a1 151).symm.trans (hS.get hBh (i := 12) rfl 11 (by simp) rfl rfl rfl)
        refine wpOp_call (f := 17) (args := #[.slice ea els.length ec]) (R := fun u W3 => u = .string TL ∧ Below W.heap.size W W3) rfl rfl (by simp [execOp, resolve, invoke, e151, go_sem]) ((HPE.out W (HBZ.out.trans (hJ.1.mono HBZ.out.size))).mono fun e W3 ⟨h1, h2⟩ => ⟨_, h1, rfl, h2⟩) ?_
        rintro u W3 ⟨rfl, r2⟩
        exact hK _ _ (hS.put hon (i := 12) rfl rfl (fun u hu => by cases hu; rfl)) (hJ.step (hJ.1.trans (r2.mono hJ.1.size)) (by decide) (by decide))
       ·have e149 := (eval_tmp a1 149).symm.trans (hS.get hBh (i := 13) rfl 9 (by simp) rfl rfl rfl)
        have e152 := (eval_tmp a1 152).symm.trans (hS.get hBh (i := 13) rfl 12 (by simp) rfl rfl rfl)
        refine wpOp_step rfl (fun K' hK' => ?_)
        go_simp
        rw [if_neg (by omega)]
        rw [← HS5.out]
        exact hK' _ _ (hK _ _ (hS.put hon (i := 13) rfl rfl (fun u hu => by cases hu; rfl)) (hJ.step hJ.1 (by decide) (by decide)))
       ·have e153 := (eval_tmp a1 153).symm.trans (hS.get hBh (i := 14) rfl 13 (by simp) rfl rfl rfl)
        refine wpOp_step rfl (fun K' hK' => ?_)
        go_simp
        rw [if_neg (by omega)]
        rw [← HS6.out]
        exact hK' _ _ (hK _ _ (hS.put hon (i := 14) rfl rfl (fun u hu => by cases hu; rfl)) (hJ.step hJ.1 (by decide) (by decide)))
       ·have e140 := (eval_tmp a1 140).symm.trans (hS.get hBh (i := 15) rfl 0 (by simp) rfl rfl rfl)
        have e154 := (eval_tmp a1 154).symm.trans (hS.get hBh (i := 15) rfl 14 (by simp) rfl rfl rfl)
        refine wpOp_step rfl (fun K' hK' => ?_)
        go_simp
        rw [if_neg (by omega)]
        exact hK' _ _ (hK _ _ (hS.put hon (i := 15) rfl rfl (fun u hu => by cases hu; rfl)) (hJ.step hJ.1 (by decide) (by decide)))
       ·have e155 := (eval_tmp a1 155).symm.trans (hS.get hBh (i := 16) rfl 15 (by simp) rfl rfl rfl)
        refine wpOp_step rfl (fun K' hK' => ?_)
        go_simp
        exact hK' _ _ (hK _ _ (hS.put hon (i := 16) rfl rfl (fun u hu => by cases hu; rfl)) hJ.last)
      ·intro LL a1 wz hl hS hJ
       have hfr := hS.frame [140, 141, 142, 143, 144, 145, 146, 147, 148, 149, 150, 151, 152, 153, 154, 155, 3] rfl
       obtain ⟨zz, hz⟩ : ∃ z : Nat → Value, z = fun k => a1.eval (.tmp k) := ⟨_, rfl⟩
       rw [← hz] at hfr
       have z3 : zz 3 = .string (OUT ++ S6) := by rw [hz]; exact hS.val 16 _ 3 _ rfl rfl rfl (hl 16 (by decide))
       refine (‹∀ (a : Act) (w : World), Code.wp Tryz.prog _ _ a w → _› a1 wz ?_)
       rw [hfr]
       have HBZ2 : Hid (Below w.heap.size w wz) := HBZ.out.trans (hJ.1.mono HBZ.out.size)
       have HWZ : Hid (Below wr.heap.size wr wz) := hJ.1
       clear hfr hz hS hJ hl
       simp only [over, List.setIfInBounds_toArray, List.set_cons_zero, List.set_cons_succ, z3]
       clear z3
       go_wp2_with fail
       go_roundw
       case rel => exact ⟨j + 1, OUT ++ S6, by go_num, rfl, by omega, HFIN, HBZ2⟩
       case measure => simp [intOf]; omega
     ·-- kind 8
      obtain ⟨p, rfl⟩ : ∃ p, exprs = [p] := List.length_eq_one_iff.1 (HWS.out.2.2.1 ⟨by decide, by decide⟩)
      obtain ⟨gx, cx, cur2, hv, hcp1, hcp2, hbg, hblk⟩ := row_at HRW.out (by simp)
      subst hv
      have hr0 := row_cells (g := gx) (cap := cx) HRW.out 0 (.string (mkB (txE p))) rfl
      have htx : txS (.mk 8 name [p] body els pos) = txE p ++ [59, 10] := by simp [txS, stT, simpleT, txEs, pt]
      have HFIN : Hid (OUT ++ (mkB (txE p) ++ ⟨#[59, 10]⟩) = mkB (txSs (ss.take (j + 1)))) := by
       show _ = _
       rw [HTK.out, htx, ← mkB_add, ← HOUT.out, ← mkB_add]
       rfl
      have hsz0 : OUT.size = (txSs (ss.take j)).length := by rw [HOUT.out, mkB_size]
      have hsz1 := mkB_size (txE p)
      have hsum : OUT.size + (mkB (txE p)).size ≤ 999999998 := by
       have h := HTL.out
       rw [htx] at h
       simp only [List.length_append, List.length_cons, List.length_nil] at h
       omega
      clear htx hsz0 hsz1 hblk
      generalize mkB (txE p) = T at hr0 HFIN hsum
      go_wp2_with fail
      go_roundw
      case rel => exact ⟨j + 1, OUT ++ (T ++ ⟨#[59, 10]⟩), by go_num, rfl, by omega, HFIN, HBZ⟩
      case measure => simp [intOf]; omega
  ·obtain rfl : j = ss.length := by omega
   rw [List.take_length] at HOUT
   go_wp2
   go_ret
   exact ⟨by rw [HOUT.out]; rfl, HB.out⟩
theorem lsm_all : ∀ n, LSm n
 | 0 => ⟨fun e h => absurd h (Nat.not_lt_zero _), fun s h => absurd h (Nat.not_lt_zero _)⟩
 | n + 1 => ⟨fun e h => lexpr_step (lsm_all n) e (by omega), fun s h => lprint_step (lsm_all n) s (by omega)⟩
theorem lexpr_any (e : TE) : LE e := lexpr_step (lsm_all (szE e)) e (Nat.le_refl _)
theorem lprint_any (s : List TS) : LP s := lprint_step (lsm_all (szSs s)) s (Nat.le_refl _)
end Go.Proofs.YtpboencfnjmmbaaGreatDoor

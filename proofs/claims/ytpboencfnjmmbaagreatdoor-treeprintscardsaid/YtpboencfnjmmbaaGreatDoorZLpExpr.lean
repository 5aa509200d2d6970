/-
 The laws' expr of layer 6: an expression's text.
 Conditions: as each theorem says.
-/
import Derived.Test.YtpboencfnjmmbaaGreatDoorZLpRec
set_option maxRecDepth 100000
set_option maxHeartbeats 8000000
set_option linter.unusedVariables false
set_option linter.unusedSimpArgs false
namespace Go.Proofs.YtpboencfnjmmbaaGreatDoor
open Go.RowKit TM
def txB (l : List TE) : List ByteArray := (txEs l).map mkB
theorem txB_len (l : List TE) : (txB l).length = l.length := by simp [txB, txEs_map]
theorem txB_get {l : List TE} {j : Nat} {e : TE} (h : l[j]? = some e) : (txB l)[j]? = some (mkB (txE e)) := by simp [txB, txEs_map, h]
theorem txB_take {l : List TE} {j : Nat} {e : TE} (h : l[j]? = some e) : (txB l).take (j + 1) = (txB l).take j ++ [mkB (txE e)] := takeB_snoc (txB_get h)
theorem txB_bl (l : List TE) : (txB l).map bl = txEs l := by
 simp only [txB, List.map_map]
 have : bl ∘ mkB = id := by funext t; exact bl_mk t
 rw [this, List.map_id]
theorem lexpr_step {n : Nat} (hA : LSm n) (e : TE) (hsz : szE e ≤ n) : LE e := by
 intro hw w a b c hL hE hl
 obtain ⟨op, num, text, parts, params, body⟩ := e
 have hT : txE (.mk op num text parts params body) = exT op num text (txEs parts) params (txSs body) := by rw [txE]
 have hszp : szEs parts < n := by unfold szE at hsz; omega
 have hszb : szSs body < n := by unfold szE at hsz; omega
 have HW := Lib.hid hw
 have HE := Lib.hid hE
 have HL : Hid (Lw w) := hL
 obtain ⟨⟨h17, hn0, hn1⟩, ⟨pa, pc, rfl, hpc1, hpc2, hpg⟩, ⟨na, nc, rfl, hnc1, hnc2, hng⟩, ⟨ba, bc, rfl, hbc1, hbc2, hbg⟩⟩ := hE
 unfold maxLen at hpc2 hnc2 hbc2
 have HPG := Lib.hid hpg
 have HA := Lib.hid hA
 rw [hT] at hl
 have HPL : Hid (∀ p ∈ parts, (txE p).length ≤ 1000000000) := fun p hp => Nat.le_trans (part_le hw hp) hl
 have HPW : Hid (wfEs parts) := hw.2.2.2.2.2.2.2.2.2.2.2.2.1
 have HBW0 : Hid (wfSs body) := hw.2.2.2.2.2.2.2.2.2.2.2.2.2
 have HLEN : Hid ((exT op num text (txEs parts) params (txSs body)).length ≤ 1000000000) := hl
 have hfew : parts.length ≤ 1000000004 := Nat.le_trans (parts_few hw) (by omega)
 have HT := Lib.hid hT
 have HSZ := Lib.hid hszp
 have HSB := Lib.hid hszb
 obtain ⟨i0, hi, hz0, hz1, hz2⟩ := info_parts infoString
 unfold exV
 clear hpg hng hbg hA hL hw hl hT hszp hszb hsz
 go_enter Tryz.func24, Tryz.ntmps24
 go_wp2_with fail
 obtain ⟨w1, hw1⟩ : ∃ w1, w1 = w.alloc (.cells #[.int .i64 (op : Int), .int .i64 num, .string text, .slice pa parts.length pc, .slice na params.length nc, .slice ba body.length bc] 65) := ⟨_, rfl⟩
 have HB1 : Hid (Below w.heap.size w w1) := by rw [hw1]; exact (Below.refl _ _).alloc (Nat.le_refl _) _
 have hgb : w1.heap[w.heap.size]? = some (.cells #[.int .i64 (op : Int), .int .i64 num, .string text, .slice pa parts.length pc, .slice na params.length nc, .slice ba body.length bc] 65 (0, 0)) := by rw [hw1]; exact heap_alloc_new _ _
 have HGB := Lib.hid hgb
 have hs1 : w.heap.size < w1.heap.size := by rw [hw1]; simp
 rw [← hw1]
 clear hw1 hgb
 go_loopw [11, 3] (fun i vp wr => ∃ j : Nat, i = .int .i64 (j : Int) ∧ j ≤ parts.length ∧ Hid (wr.ownsRow w1.heap.size 9 1 vp j (strCs ((txB parts).take j))) ∧ Hid (Below w1.heap.size w1 wr))
  (fun i _ _ => parts.length - (intOf i).toNat)
 case atStart => exact ⟨0, rfl, Nat.zero_le _, World.ownsRow_nil _ _ _ _, Below.refl _ _⟩
 case round =>
  obtain ⟨j, rfl, hjl, HROW, HB⟩ := hrel
  by_cases hlt : j < parts.length
  ·obtain ⟨p, hp⟩ : ∃ p, parts[j]? = some p := ⟨_, List.getElem?_eq_getElem hlt⟩
   obtain ⟨g, o, rfl, hgl, hAt⟩ := HPG.out (by omega)
   obtain ⟨x, y, z, hce, hin⟩ := hAt.get hp
   have hbw : Below w.heap.size w wr := HB1.out.trans (HB.out.mono HB1.out.size)
   have HLE : Hid (∀ W, Below w.heap.size w W → Calls Tryz.prog 24 #[exV p x y z] W fun en w' => en = .returned (.string (mkB (txE p))) ∧ Below W.heap.size W w') := fun W hb => HA.out.e p (Nat.lt_of_le_of_lt (szEs_get hp) HSZ.out) (wfEs_get HPW.out hp) W x y z (HL.out.below hb) (ein_up hin hb) (HPL.out p (List.mem_of_getElem? hp))
   have HTK := Lib.hid (txB_take hp)
   have hce2 := hce.kept (hbw.block g hgl)
   have hgw : g < wr.heap.size := Nat.lt_of_lt_of_le hgl hbw.size
   have HBW : Hid (Below w.heap.size w wr) := hbw
   have hbsw : w1.heap.size ≤ wr.heap.size := HB.out.size
   generalize mkB (txE p) = T at HLE HTK
   clear hp hAt hce hbw
   obtain ⟨op1, num1, text1, ps1, pm1, bd1⟩ := p
   obtain ⟨_, ⟨pa1, pc1, rfl, _⟩, ⟨na1, nc1, rfl, _⟩, ⟨ba1, bc1, rfl, _⟩⟩ := hin
   obtain ⟨q0, q1, q2, q3, q4, q5⟩ := hce2
   have hidx : 0 ≤ (j : Int) ∧ (j : Int) < (parts.length : Int) := ⟨by omega, by omega⟩
   simp only [exV] at HLE
   go_wp2_with fail
   refine (HLE.out _ (HBW.out.alloc HBW.out.size _)).mono ?_
   rintro en w2 ⟨rfl, b2⟩
   have b12 : Below wr.heap.size wr w2 := ((Below.refl _ _).alloc (Nat.le_refl _) _).trans (b2.mono (by simp))
   have HR2 := Lib.hid (row_lat HROW.out b12)
   have HB2 : Hid (Below w1.heap.size w1 w2) := HB.out.trans (b12.mono HB.out.size)
   have hs2 := b12.size
   clear b2 b12 q0 q1 q2 q3 q4 q5 HLE
   go_wp2_with (at_builtin; refine wpList_append_own2 rfl (.tmp 15) (.tmp 18) 63 rfl w1.heap.size 9 i0 _ 1 16 Tryz.underlying63 hi hz0 hz1 hz2 rfl (by decide) _ j (strCs ((txB parts).take j)) rfl (HR2.out.alloc _) ⟨w2.heap.size, 0, none⟩ 1 1 [.string T] rfl rfl (fun q u hq => by match q, hq with | 0, hq => simp at hq; subst hq; simp [Addr.add] | q + 1, hq => simp at hq) (by intro u hu; simp at hu; subst hu; rfl) (by decide) (by unfold maxLen; omega) (by omega) (by simp; omega) ?_)
   intro v7 w7 hown7 hgr7 ho7
   have HR7 : Hid (w7.ownsRow w1.heap.size 9 1 v7 (j + 1) (strCs ((txB parts).take (j + 1)))) := by
    show World.ownsRow _ _ _ _ _ _ _
    rw [HTK.out, show strCs ((txB parts).take j ++ [T]) = strCs ((txB parts).take j) ++ [.string T] from by simp [strCs]]
    exact hown7
   have HB7 : Hid (Below w1.heap.size w1 w7) := ((HB2.out.alloc (by omega) _).grown hgr7 (by simp; omega) (fun k hk => (HR2.out.lt k hk).1))
   clear hown7 hgr7 ho7
   go_wp2_with fail
   go_roundw
   case rel => exact ⟨j + 1, by go_num, by omega, HR7, HB7⟩
   case measure => simp [intOf]; omega
  ·have hje : j = parts.length := by omega
   subst hje
   have HRW : Hid (wr.ownsRow w1.heap.size 9 1 u3 parts.length (strCs (txB parts))) := by
    have := HROW.out
    rw [show (txB parts).take parts.length = txB parts from by rw [← txB_len, List.take_length]] at this
    exact this
   have HBZ : Hid (Below w.heap.size w wr) := HB1.out.trans (HB.out.mono HB1.out.size)
   have hgx : wr.heap[w.heap.size]? = _ := (HB.out.block w.heap.size (by omega)).trans HGB.out
   have e0 : wr.cell? ⟨w.heap.size, 0, none⟩ = some (.int .i64 (op : Int)) := by simp [World.cell?, hgx]
   have e1 : wr.cell? ⟨w.heap.size, 1, none⟩ = some (.int .i64 num) := by simp [World.cell?, hgx]
   have e2 : wr.cell? ⟨w.heap.size, 2, none⟩ = some (.string text) := by simp [World.cell?, hgx]
   have e4 : wr.cell? ⟨w.heap.size, 4, none⟩ = some (.slice na params.length nc) := by simp [World.cell?, hgx]
   have e5 : wr.cell? ⟨w.heap.size, 5, none⟩ = some (.slice ba body.length bc) := by simp [World.cell?, hgx]
   have hgxl : w.heap.size < wr.heap.size := lt_of_block hgx
   obtain ⟨ao, cap, hvs, hq1, hq2⟩ := row_shape HRW.out
   subst hvs
   unfold maxLen at hq2
   clear hgx HROW HB
   rcases (show op = 0 ∨ op = 1 ∨ op = 2 ∨ op = 3 ∨ op = 4 ∨ op = 5 ∨ op = 6 ∨ op = 7 ∨ (8 ≤ op ∧ op ≤ 13) ∨ op = 14 ∨ op = 15 ∨ op = 16 ∨ op = 17 from by omega) with rfl | rfl | rfl | rfl | rfl | rfl | rfl | rfl | hop | rfl | rfl | rfl | rfl
   ·go_wp2
    go_ret
    exact ⟨by rw [HT.out]; rfl, HBZ.out.alloc (by omega) _⟩
   ·go_wp2
    go_ret
    exact ⟨by rw [HT.out]; rfl, HBZ.out.alloc (by omega) _⟩
   ·go_wp2
    go_ret
    exact ⟨by rw [HT.out]; rfl, HBZ.out.alloc (by omega) _⟩
   ·go_wp2_with fail
    refine (Tryz.strconv_Itoa num (by omega) hn1 wr (HL.out.below HBZ.out).g.tab.here).mono ?_
    rintro e w9 ⟨rfl, k, os, rfl⟩
    have HB9 := Lib.hid (HBZ.out.trans (Lib.below_grow w.heap.size wr HBZ.out.size k os))
    go_wp2
    go_ret
    exact ⟨by rw [HT.out]; rfl, HB9.out⟩
   ·have htx : text.size ≤ 1000000 := by
     have h := HW.out.2.2.2.2.2.2.2.1 rfl
     simp [txL] at h
     rcases h with rfl | rfl | rfl | rfl | rfl | rfl <;> decide
    go_wp2_with fail
    refine (lquote_any text htx wr).mono ?_
    rintro e w9 ⟨rfl, b9⟩
    have HB9 : Hid (Below w.heap.size w w9) := HBZ.out.trans (b9.mono HBZ.out.size)
    clear b9
    go_wp2
    go_ret
    exact ⟨by rw [HT.out]; rfl, HB9.out⟩
   ·go_wp2
    go_ret
    exact ⟨by rw [HT.out]; rfl, HBZ.out⟩
   ·obtain ⟨p, rfl⟩ : ∃ p, parts = [p] := List.length_eq_one_iff.1 (HW.out.2.1 (by omega))
    obtain ⟨g, cap2, cur2, hv, _, _, hbg, hblk⟩ := row_at HRW.out (by simp)
    have hrc := row_cells (g := g) (cap := cap2) (by rw [← hv]; exact HRW.out) 0 (.string (mkB (txE p))) rfl
    cases hv
    have hlen := HLEN.out
    rw [show exT 6 num text (txEs [p]) params (txSs body) = [40, 45] ++ txE p ++ [41] from rfl, List.length_append, List.length_append] at hlen
    simp only [List.length_cons, List.length_nil] at hlen
    have hts := mkB_size (txE p)
    have HFIN : Hid ((⟨#[40, 45]⟩ : ByteArray) ++ mkB (txE p) ++ ⟨#[41]⟩ = mkB ([40, 45] ++ txE p ++ [41])) := by
     show _ = _
     rw [← mkB_add, ← mkB_add]
     rfl
    generalize mkB (txE p) = T at hrc hts HFIN
    have hts2 : T.size ≤ 999999997 := by omega
    have hgl : g < wr.heap.size := lt_of_block hblk
    clear hblk hts hlen
    go_wp2
    go_ret
    exact ⟨by rw [HT.out]; exact congrArg (fun t => Ending.returned (.string t)) HFIN.out, HBZ.out⟩
   ·obtain ⟨p, rfl⟩ : ∃ p, parts = [p] := List.length_eq_one_iff.1 (HW.out.2.1 (by omega))
    obtain ⟨g, cap2, cur2, hv, _, _, hbg, hblk⟩ := row_at HRW.out (by simp)
    have hrc := row_cells (g := g) (cap := cap2) (by rw [← hv]; exact HRW.out) 0 (.string (mkB (txE p))) rfl
    cases hv
    have hlen := HLEN.out
    rw [show exT 7 num text (txEs [p]) params (txSs body) = [40, 33] ++ txE p ++ [41] from rfl, List.length_append, List.length_append] at hlen
    simp only [List.length_cons, List.length_nil] at hlen
    have hts := mkB_size (txE p)
    have HFIN : Hid ((⟨#[40, 33]⟩ : ByteArray) ++ mkB (txE p) ++ ⟨#[41]⟩ = mkB ([40, 33] ++ txE p ++ [41])) := by
     show _ = _
     rw [← mkB_add, ← mkB_add]
     rfl
    generalize mkB (txE p) = T at hrc hts HFIN
    have hts2 : T.size ≤ 999999997 := by omega
    have hgl : g < wr.heap.size := lt_of_block hblk
    clear hblk hts hlen
    go_wp2
    go_ret
    exact ⟨by rw [HT.out]; exact congrArg (fun t => Ending.returned (.string t)) HFIN.out, HBZ.out⟩
   ·obtain ⟨p, q, rfl⟩ : ∃ p q, parts = [p, q] := by
     have h := HW.out.2.2.1 (by omega)
     match parts, h with
     | [p, q], _ => exact ⟨p, q, rfl⟩
    obtain ⟨k, hopk⟩ : ∃ k : Nat, (op : Int) = (k : Int) + 8 := ⟨op - 8, by omega⟩
    have hk6 : k < 6 := by omega
    have HSG : Hid (sgs[k]? = some (.string (mkB (sign op)))) := sgs_at (by omega) hk6
    have HOPK := Lib.hid hopk
    clear hopk
    obtain ⟨g, cap2, cur2, hv, _, _, hbg, hblk⟩ := row_at HRW.out (by simp)
    have hrc := row_cells (g := g) (cap := cap2) (by rw [← hv]; exact HRW.out)
    have hr0 := hrc 0 (.string (mkB (txE p))) rfl
    have hr1 := hrc 1 (.string (mkB (txE q))) rfl
    cases hv
    have hlen := HLEN.out
    have hex : exT op num text (txEs [p, q]) params (txSs body) = [40] ++ txE p ++ [32] ++ sign op ++ [32] ++ txE q ++ [41] := by
     unfold exT
     rw [if_neg (by omega), if_neg (by omega), if_neg (by omega), if_neg (by omega), if_neg (by omega), if_neg (by omega), if_neg (by omega), if_neg (by omega), if_pos (by omega)]
     rfl
    rw [hex] at hlen
    simp only [List.length_append, List.length_cons, List.length_nil] at hlen
    have hts := mkB_size (txE p)
    have htt := mkB_size (txE q)
    have htg := mkB_size (sign op)
    have HFIN : Hid (⟨#[40]⟩ ++ mkB (txE p) ++ ⟨#[32]⟩ ++ mkB (sign op) ++ ⟨#[32]⟩ ++ mkB (txE q) ++ ⟨#[41]⟩ = mkB (exT op num text (txEs [p, q]) params (txSs body))) := by
     show _ = _
     rw [hex, ← mkB_add, ← mkB_add, ← mkB_add, ← mkB_add, ← mkB_add, ← mkB_add]
     rfl
    generalize mkB (txE p) = T at hr0 hts HFIN
    generalize mkB (txE q) = U at hr1 htt HFIN
    generalize mkB (sign op) = SG at HSG htg HFIN
    have hsum : T.size + U.size + SG.size ≤ 999999996 := by omega
    have hgl : g < wr.heap.size := lt_of_block hblk
    have hn0 : ¬ ((op : Int) = 0) := by omega
    have hn1 : ¬ ((op : Int) = 1) := by omega
    have hn2 : ¬ ((op : Int) = 2) := by omega
    have hn3 : ¬ ((op : Int) = 3) := by omega
    have hn4 : ¬ ((op : Int) = 4) := by omega
    have hn5 : ¬ ((op : Int) = 5) := by omega
    have hn6 : ¬ ((op : Int) = 6) := by omega
    have hn7 : ¬ ((op : Int) = 7) := by omega
    have hn14 : ¬ ((op : Int) = 14) := by omega
    have hn15 : ¬ ((op : Int) = 15) := by omega
    have hn16 : ¬ ((op : Int) = 16) := by omega
    have hn17 : ¬ ((op : Int) = 17) := by omega
    clear hblk hts htt htg hlen hrc hex
    go_wp2_with fail
    refine region_sh (fun | 0 => some (.slice (some ⟨g, 0, none⟩) 2 cap) | 1 => some (.pointer (some ⟨g, 0, none⟩)) | 2 => some (.string T) | 3 => some (.string (⟨#[40]⟩ ++ T)) | 4 => some (.string (⟨#[40]⟩ ++ T ++ ⟨#[32]⟩)) | 6 => some (.pointer (some ⟨w.heap.size, 0, none⟩)) | 7 => some (.int .i64 (op : Int)) | 8 => some (.int .i64 (k : Int)) | 10 => some (.string SG) | 11 => some (.string (⟨#[40]⟩ ++ T ++ ⟨#[32]⟩ ++ SG)) | 12 => some (.string (⟨#[40]⟩ ++ T ++ ⟨#[32]⟩ ++ SG ++ ⟨#[32]⟩)) | 13 => some (.slice (some ⟨g, 0, none⟩) 2 cap) | 14 => some (.pointer (some ⟨g, 1, none⟩)) | 15 => some (.string U) | 16 => some (.string (⟨#[40]⟩ ++ T ++ ⟨#[32]⟩ ++ SG ++ ⟨#[32]⟩ ++ U)) | 17 => some (.string (⟨#[40]⟩ ++ T ++ ⟨#[32]⟩ ++ SG ++ ⟨#[32]⟩ ++ U ++ ⟨#[41]⟩)) | 18 => some (.string (⟨#[40]⟩ ++ T ++ ⟨#[32]⟩ ++ SG ++ ⟨#[32]⟩ ++ U ++ ⟨#[41]⟩)) | _ => none) (JLy wr 5 126 9 130 k sgs 9) (by kernel_rfl) (by kernel_rfl) (by kernel_rfl) (JLy.start _) ?_ ?_
    ·intro hon q hq L a1 W hC hl hBh hS hJ K hK
     have hqn : q < 19 := hq
     clear hq
     rcases (show q = 0 ∨ q = 1 ∨ q = 2 ∨ q = 3 ∨ q = 4 ∨ q = 5 ∨ q = 6 ∨ q = 7 ∨ q = 8 ∨ q = 9 ∨ q = 10 ∨ q = 11 ∨ q = 12 ∨ q = 13 ∨ q = 14 ∨ q = 15 ∨ q = 16 ∨ q = 17 ∨ q = 18 from by omega) with rfl | rfl | rfl | rfl | rfl | rfl | rfl | rfl | rfl | rfl | rfl | rfl | rfl | rfl | rfl | rfl | rfl | rfl | rfl
     ·have e3 := (eval_tmp a1 3).symm.trans ((hS.kept 3 (by kernel_rfl)).trans rfl)
      refine wpOp_step rfl (fun K' hK' => ?_)
      go_simp
      exact hK' _ _ (hK _ _ (hS.put hon (i := 0) rfl rfl (fun u hu => by cases hu; rfl)) (hJ.pure (by decide) (by decide)))
     ·have e121 := (eval_tmp a1 121).symm.trans (hS.get hBh (i := 1) rfl 0 (by simp) rfl rfl rfl)
      refine wpOp_step rfl (fun K' hK' => ?_)
      go_simp
      exact hK' _ _ (hK _ _ (hS.put hon (i := 1) rfl rfl (fun u hu => by cases hu; rfl)) (hJ.pure (by decide) (by decide)))
     ·have e122 := (eval_tmp a1 122).symm.trans (hS.get hBh (i := 2) rfl 1 (by simp) rfl rfl rfl)
      have hc := (hJ.b.cell (p := ⟨g, 0, none⟩) hgl).trans hr0
      refine wpOp_step rfl (fun K' hK' => ?_)
      go_simp
      exact hK' _ _ (hK _ _ (hS.put hon (i := 2) rfl rfl (fun u hu => by cases hu; rfl)) (hJ.pure (by decide) (by decide)))
     ·have e123 := (eval_tmp a1 123).symm.trans (hS.get hBh (i := 3) rfl 2 (by simp) rfl rfl rfl)
      refine wpOp_step rfl (fun K' hK' => ?_)
      go_simp
      rw [if_neg (by omega)]
      exact hK' _ _ (hK _ _ (hS.put hon (i := 3) rfl rfl (fun u hu => by cases hu; rfl)) (hJ.pure (by decide) (by decide)))
     ·have e124 := (eval_tmp a1 124).symm.trans (hS.get hBh (i := 4) rfl 3 (by simp) rfl rfl rfl)
      refine wpOp_step rfl (fun K' hK' => ?_)
      go_simp
      rw [if_neg (by omega)]
      exact hK' _ _ (hK _ _ (hS.put hon (i := 4) rfl rfl (fun u hu => by cases hu; rfl)) (hJ.pure (by decide) (by decide)))
     ·have n9 : L 9 = false := closed_not hC hl (i := 9) (j := 5) rfl (g := .data) (by simp) rfl
      refine wpOp_step rfl (fun K' hK' => ?_)
      go_simp
      exact hK' _ _ (hK _ _ (hS.put hon (i := 5) rfl rfl (fun u hu => by cases hu)) (hJ.lay (by rw [hS.size]; exact (by decide : (126 : Nat) < 139)) n9 (by decide)))
     ·have e1 := (eval_tmp a1 1).symm.trans ((hS.kept 1 (by kernel_rfl)).trans rfl)
      refine wpOp_step rfl (fun K' hK' => ?_)
      go_simp
      exact hK' _ _ (hK _ _ (hS.put hon (i := 6) rfl rfl (fun u hu => by cases hu; rfl)) (hJ.pure (by decide) (by decide)))
     ·have e127 := (eval_tmp a1 127).symm.trans (hS.get hBh (i := 7) rfl 6 (by simp) rfl rfl rfl)
      have hc := (hJ.b.cell (p := ⟨w.heap.size, 0, none⟩) hgxl).trans e0
      refine wpOp_step rfl (fun K' hK' => ?_)
      go_simp
      exact hK' _ _ (hK _ _ (hS.put hon (i := 7) rfl rfl (fun u hu => by cases hu; rfl)) (hJ.pure (by decide) (by decide)))
     ·have e128 := (eval_tmp a1 128).symm.trans (hS.get hBh (i := 8) rfl 7 (by simp) rfl rfl rfl)
      have hwr : IntKind.i64.wrap ((op : Int) - 8) = (k : Int) := by rw [HOPK.out]; simp [IntKind.wrap, IntKind.bits, IntKind.signed]; omega
      refine wpOp_step rfl (fun K' hK' => ?_)
      go_simp
      exact hK' _ _ (hK _ _ (hS.put hon (i := 8) rfl rfl (fun u hu => by cases hu; rfl)) (hJ.pure (by decide) (by decide)))
     ·have e129 := (eval_tmp a1 129).symm.trans (hS.get hBh (i := 9) rfl 8 (by simp) rfl rfl rfl)
      have d5 : L 5 = true := hBh _ rfl ⟨5, .data⟩ (by simp) rfl
      obtain ⟨gq, hq1, hq2⟩ := hJ.r d5
      have e126 := (eval_tmp a1 126).symm.trans hq1
      refine wpOp_step rfl (fun K' hK' => ?_)
      go_simp
      rw [if_pos (by omega)]
      exact hK' _ _ (hK _ _ (hS.put hon (i := 9) rfl rfl (fun u hu => by cases hu)) (hJ.idx (by rw [hS.size]; exact (by decide : (130 : Nat) < 139)) (by decide) (by decide) hq2))
     ·have d9 : L 9 = true := hBh _ rfl ⟨9, .data⟩ (by simp) rfl
      obtain ⟨gq, hq1, hq2⟩ := hJ.p d9
      have e130 := (eval_tmp a1 130).symm.trans hq1
      have hc : W.cell? ⟨gq, k, none⟩ = some (.string SG) := by simp only [World.cell?, hq2]; exact HSG.out
      refine wpOp_step rfl (fun K' hK' => ?_)
      go_simp
      exact hK' _ _ (hK _ _ (hS.put hon (i := 10) rfl rfl (fun u hu => by cases hu; rfl)) (hJ.pure (by decide) (by decide)))
     ·have e125 := (eval_tmp a1 125).symm.trans (hS.get hBh (i := 11) rfl 4 (by simp) rfl rfl rfl)
      have e131 := (eval_tmp a1 131).symm.trans (hS.get hBh (i := 11) rfl 10 (by simp) rfl rfl rfl)
      refine wpOp_step rfl (fun K' hK' => ?_)
      go_simp
      rw [if_neg (by omega)]
      exact hK' _ _ (hK _ _ (hS.put hon (i := 11) rfl rfl (fun u hu => by cases hu; rfl)) (hJ.pure (by decide) (by decide)))
     ·have e132 := (eval_tmp a1 132).symm.trans (hS.get hBh (i := 12) rfl 11 (by simp) rfl rfl rfl)
      refine wpOp_step rfl (fun K' hK' => ?_)
      go_simp
      rw [if_neg (by omega)]
      exact hK' _ _ (hK _ _ (hS.put hon (i := 12) rfl rfl (fun u hu => by cases hu; rfl)) (hJ.pure (by decide) (by decide)))
     ·have e3 := (eval_tmp a1 3).symm.trans ((hS.kept 3 (by kernel_rfl)).trans rfl)
      refine wpOp_step rfl (fun K' hK' => ?_)
      go_simp
      exact hK' _ _ (hK _ _ (hS.put hon (i := 13) rfl rfl (fun u hu => by cases hu; rfl)) (hJ.pure (by decide) (by decide)))
     ·have e134 := (eval_tmp a1 134).symm.trans (hS.get hBh (i := 14) rfl 13 (by simp) rfl rfl rfl)
      refine wpOp_step rfl (fun K' hK' => ?_)
      go_simp
      exact hK' _ _ (hK _ _ (hS.put hon (i := 14) rfl rfl (fun u hu => by cases hu; rfl)) (hJ.pure (by decide) (by decide)))
     ·have e135 := (eval_tmp a1 135).symm.trans (hS.get hBh (i := 15) rfl 14 (by simp) rfl rfl rfl)
      have hc := (hJ.b.cell (p := ⟨g, 1, none⟩) hgl).trans hr1
      refine wpOp_step rfl (fun K' hK' => ?_)
      go_simp
      exact hK' _ _ (hK _ _ (hS.put hon (i := 15) rfl rfl (fun u hu => by cases hu; rfl)) (hJ.pure (by decide) (by decide)))
     ·have e133 := (eval_tmp a1 133).symm.trans (hS.get hBh (i := 16) rfl 12 (by simp) rfl rfl rfl)
      have e136 := (eval_tmp a1 136).symm.trans (hS.get hBh (i := 16) rfl 15 (by simp) rfl rfl rfl)
      refine wpOp_step rfl (fun K' hK' => ?_)
      go_simp
      rw [if_neg (by omega)]
      exact hK' _ _ (hK _ _ (hS.put hon (i := 16) rfl rfl (fun u hu => by cases hu; rfl)) (hJ.pure (by decide) (by decide)))
     ·have e137 := (eval_tmp a1 137).symm.trans (hS.get hBh (i := 17) rfl 16 (by simp) rfl rfl rfl)
      refine wpOp_step rfl (fun K' hK' => ?_)
      go_simp
      rw [if_neg (by omega)]
      exact hK' _ _ (hK _ _ (hS.put hon (i := 17) rfl rfl (fun u hu => by cases hu; rfl)) (hJ.pure (by decide) (by decide)))
     ·have e138 := (eval_tmp a1 138).symm.trans (hS.get hBh (i := 18) rfl 17 (by simp) rfl rfl rfl)
      refine wpOp_step rfl (fun K' hK' => ?_)
      go_simp
      exact hK' _ _ (hK _ _ (hS.put hon (i := 18) rfl rfl (fun u hu => by cases hu; rfl)) (hJ.pure (by decide) (by decide)))
    ·intro L a1 wz hl hS hJ
     have hfr := hS.frame [121, 122, 123, 124, 125, 126, 127, 128, 129, 130, 131, 132, 133, 134, 135, 136, 137, 138, 2] rfl
     obtain ⟨zz, hz⟩ : ∃ z : Nat → Value, z = fun k => a1.eval (.tmp k) := ⟨_, rfl⟩
     have z2 : zz 2 = .string (⟨#[40]⟩ ++ T ++ ⟨#[32]⟩ ++ SG ++ ⟨#[32]⟩ ++ U ++ ⟨#[41]⟩) := by rw [hz]; exact hS.val 18 _ 2 _ rfl rfl rfl (hl 18 (by decide))
     rw [← hz] at hfr
     first | refine (‹∀ (a : Act) (w : World), Code.wp Tryz.prog _ _ a w → _› a1 wz ?_) | skip
     rw [hfr]
     have HBZ2 : Hid (Below w.heap.size w wz) := HBZ.out.trans (hJ.b.mono HBZ.out.size)
     clear hfr hz hS hJ hl
     simp only [over, List.setIfInBounds_toArray, List.set_cons_zero, List.set_cons_succ, z2]
     clear z2
     go_wp2
     go_ret
     exact ⟨by rw [HT.out]; exact congrArg (fun t => Ending.returned (.string t)) HFIN.out, HBZ2.out⟩
   ·obtain ⟨p, q, rfl⟩ : ∃ p q, parts = [p, q] := by
     have h := HW.out.2.2.1 (by omega)
     match parts, h with
     | [p, q], _ => exact ⟨p, q, rfl⟩
    obtain ⟨g, cap2, cur2, hv, _, _, hbg, hblk⟩ := row_at HRW.out (by simp)
    have hrc := row_cells (g := g) (cap := cap2) (by rw [← hv]; exact HRW.out)
    have hr0 := hrc 0 (.string (mkB (txE p))) rfl
    have hr1 := hrc 1 (.string (mkB (txE q))) rfl
    cases hv
    have hlen := HLEN.out
    rw [show exT 14 num text (txEs [p, q]) params (txSs body) = txE p ++ [91] ++ txE q ++ [93] from rfl] at hlen
    simp only [List.length_append, List.length_cons, List.length_nil] at hlen
    have hts := mkB_size (txE p)
    have htt := mkB_size (txE q)
    have HFIN : Hid (mkB (txE p) ++ ⟨#[91]⟩ ++ mkB (txE q) ++ ⟨#[93]⟩ = mkB (txE p ++ [91] ++ txE q ++ [93])) := by
     show _ = _
     rw [← mkB_add, ← mkB_add, ← mkB_add]
     rfl
    generalize mkB (txE p) = T at hr0 hts HFIN
    generalize mkB (txE q) = U at hr1 htt HFIN
    have hsum : T.size + U.size ≤ 999999998 := by omega
    have hgl : g < wr.heap.size := lt_of_block hblk
    clear hblk hts htt hlen hrc
    go_wp2_with fail
    go_region
    go_wp2
    go_ret
    exact ⟨by rw [HT.out]; exact congrArg (fun t => Ending.returned (.string t)) HFIN.out, by first | exact HBZ.out.drew | exact HBZ.out⟩
   ·obtain ⟨p, ps, rfl⟩ : ∃ p ps, parts = p :: ps := by
     have h := HW.out.2.2.2.1 rfl
     match parts, h with
     | p :: ps, _ => exact ⟨p, ps, rfl⟩
    obtain ⟨g, cap2, cur2, hv, hcp1, hcp2, hbg, hblk⟩ := row_at HRW.out (by simp)
    have hrc := row_cells (g := g) (cap := cap2) (by rw [← hv]; exact HRW.out)
    have hr0 := hrc 0 (.string (mkB (txE p))) rfl
    have hr1 : StrAt wr g 1 (txB ps) := strAt_of fun j s hj => by
     have := hrc (j + 1) s hj
     rw [show 1 + j = 0 + (j + 1) from by omega]
     exact this
    have hfw := hfew
    simp only [List.length_cons] at hv hcp1 hfw
    cases hv
    have hlen := HLEN.out
    have hex : exT 15 num text (txEs (p :: ps)) params (txSs body) = txE p ++ [40] ++ commas (txEs ps) ++ [41] := rfl
    rw [hex] at hlen
    simp only [List.length_append, List.length_cons, List.length_nil] at hlen
    have hts := mkB_size (txE p)
    have hcj : cmB (txB ps) = mkB (commas (txEs ps)) := by unfold cmB mkB; rw [txB_bl]
    have hjs := mkB_size (commas (txEs ps))
    rw [← hcj] at hjs
    unfold maxLen at hcp2
    have hgl : g < wr.heap.size := lt_of_block hblk
    obtain ⟨ao2, hao⟩ : ∃ x : Option Addr, x = (if cap = 1 then some ⟨g, 0, none⟩ else some ⟨g, 1, none⟩) := ⟨_, rfl⟩
    have HJN : Hid (∀ W, Below wr.heap.size wr W → Calls Tryz.prog 53 #[.slice ao2 ps.length (cap - 1)] W fun en w' => en = .returned (.string (cmB (txB ps))) ∧ Below W.heap.size W w') := fun W hb => join_any (P := fun _ => True) ⟨ao2, cap - 1, by rw [txB_len], by rw [txB_len]; omega, by unfold maxLen; omega, fun h0 => ⟨g, 1, by rw [hao, if_neg (by rw [txB_len] at h0; omega)], trivial, StrAt.kept (hb.block g hgl) _ _ hr1⟩⟩ (by omega)
    have HFIN : Hid (mkB (txE p) ++ ⟨#[40]⟩ ++ cmB (txB ps) ++ ⟨#[41]⟩ = mkB (exT 15 num text (txEs (p :: ps)) params (txSs body))) := by
     show _ = _
     rw [hex, hcj, ← mkB_add, ← mkB_add, ← mkB_add]
     rfl
    clear hcj hr1 hex
    generalize cmB (txB ps) = JJ at hjs HJN HFIN
    generalize mkB (txE p) = T at hr0 hts HFIN
    have hsum : T.size + JJ.size ≤ 999999998 := by omega
    have hidx : (0 : Int) ≤ 0 ∧ (0 : Int) < ((ps.length + 1 : Nat) : Int) := ⟨by omega, by omega⟩
    clear hblk hts hjs hlen hrc
    go_wp2_with fail
    refine region_sh (fun | 0 => some (.slice (some ⟨g, 0, none⟩) (ps.length + 1) cap) | 1 => some (.pointer (some ⟨g, 0, none⟩)) | 2 => some (.string T) | 3 => some (.string (T ++ ⟨#[40]⟩)) | 4 => some (.slice (some ⟨g, 0, none⟩) (ps.length + 1) cap) | 5 => some (.slice ao2 ps.length (cap - 1)) | 6 => some (.string JJ) | 7 => some (.string (T ++ ⟨#[40]⟩ ++ JJ)) | 8 => some (.string (T ++ ⟨#[40]⟩ ++ JJ ++ ⟨#[41]⟩)) | 9 => some (.string (T ++ ⟨#[40]⟩ ++ JJ ++ ⟨#[41]⟩)) | _ => none) (fun _ _ W => Below wr.heap.size wr W) (by kernel_rfl) (by kernel_rfl) (by kernel_rfl) ((Below.refl _ _).drew) ?_ ?_
    ·intro hon q hq L a1 W hC hl hBh hS hJ K hK
     have hqn : q < 10 := hq
     clear hq
     rcases (show q = 0 ∨ q = 1 ∨ q = 2 ∨ q = 3 ∨ q = 4 ∨ q = 5 ∨ q = 6 ∨ q = 7 ∨ q = 8 ∨ q = 9 from by omega) with rfl | rfl | rfl | rfl | rfl | rfl | rfl | rfl | rfl | rfl
     ·have e3 := (eval_tmp a1 3).symm.trans ((hS.kept 3 (by kernel_rfl)).trans rfl)
      refine wpOp_step rfl (fun K' hK' => ?_)
      go_simp
      exact hK' _ _ (hK _ _ (hS.put hon (i := 0) rfl rfl (fun u hu => by cases hu; rfl)) hJ)
     ·have e73 := (eval_tmp a1 73).symm.trans (hS.get hBh (i := 1) rfl 0 (by simp) rfl rfl rfl)
      refine wpOp_step rfl (fun K' hK' => ?_)
      go_simp
      first | rw [if_pos hidx] | skip
      exact hK' _ _ (hK _ _ (hS.put hon (i := 1) rfl rfl (fun u hu => by cases hu; rfl)) hJ)
     ·have e74 := (eval_tmp a1 74).symm.trans (hS.get hBh (i := 2) rfl 1 (by simp) rfl rfl rfl)
      have hc := (hJ.cell (p := ⟨g, 0, none⟩) hgl).trans hr0
      refine wpOp_step rfl (fun K' hK' => ?_)
      go_simp
      exact hK' _ _ (hK _ _ (hS.put hon (i := 2) rfl rfl (fun u hu => by cases hu; rfl)) hJ)
     ·have e75 := (eval_tmp a1 75).symm.trans (hS.get hBh (i := 3) rfl 2 (by simp) rfl rfl rfl)
      refine wpOp_step rfl (fun K' hK' => ?_)
      go_simp
      rw [if_neg (by omega)]
      exact hK' _ _ (hK _ _ (hS.put hon (i := 3) rfl rfl (fun u hu => by cases hu; rfl)) hJ)
     ·have e3 := (eval_tmp a1 3).symm.trans ((hS.kept 3 (by kernel_rfl)).trans rfl)
      refine wpOp_step rfl (fun K' hK' => ?_)
      go_simp
      exact hK' _ _ (hK _ _ (hS.put hon (i := 4) rfl rfl (fun u hu => by cases hu; rfl)) hJ)
     ·have e77 := (eval_tmp a1 77).symm.trans (hS.get hBh (i := 5) rfl 4 (by simp) rfl rfl rfl)
      refine wpOp_step rfl (fun K' hK' => ?_)
      go_simp
      rw [if_pos (by omega), ← hao]
      exact hK' _ _ (hK _ _ (hS.put hon (i := 5) rfl rfl (fun u hu => by cases hu; rfl)) hJ)
     ·have e78 := (eval_tmp a1 78).symm.trans (hS.get hBh (i := 6) rfl 5 (by simp) rfl rfl rfl)
      refine wpOp_call (f := 53) (args := #[.slice ao2 ps.length (cap - 1)]) (R := fun v W2 => v = .string JJ ∧ Below W.heap.size W W2) rfl rfl (by simp [execOp, resolve, invoke, e78, go_sem]) ((HJN.out W hJ).mono fun en W2 ⟨h1, h2⟩ => ⟨_, h1, rfl, h2⟩) ?_
      rintro v WQ ⟨rfl, b⟩
      exact hK _ _ (hS.put hon (i := 6) rfl rfl (fun u hu => by cases hu; rfl)) (hJ.trans (b.mono hJ.size))
     ·have e76 := (eval_tmp a1 76).symm.trans (hS.get hBh (i := 7) rfl 3 (by simp) rfl rfl rfl)
      have e79 := (eval_tmp a1 79).symm.trans (hS.get hBh (i := 7) rfl 6 (by simp) rfl rfl rfl)
      refine wpOp_step rfl (fun K' hK' => ?_)
      go_simp
      rw [if_neg (by omega)]
      exact hK' _ _ (hK _ _ (hS.put hon (i := 7) rfl rfl (fun u hu => by cases hu; rfl)) hJ)
     ·have e80 := (eval_tmp a1 80).symm.trans (hS.get hBh (i := 8) rfl 7 (by simp) rfl rfl rfl)
      refine wpOp_step rfl (fun K' hK' => ?_)
      go_simp
      rw [if_neg (by omega)]
      exact hK' _ _ (hK _ _ (hS.put hon (i := 8) rfl rfl (fun u hu => by cases hu; rfl)) hJ)
     ·have e81 := (eval_tmp a1 81).symm.trans (hS.get hBh (i := 9) rfl 8 (by simp) rfl rfl rfl)
      refine wpOp_step rfl (fun K' hK' => ?_)
      go_simp
      exact hK' _ _ (hK _ _ (hS.put hon (i := 9) rfl rfl (fun u hu => by cases hu; rfl)) hJ)
    ·intro L a1 wz hl hS hJ
     have hfr := hS.frame [73, 74, 75, 76, 77, 78, 79, 80, 81, 2] rfl
     obtain ⟨zz, hz⟩ : ∃ z : Nat → Value, z = fun k => a1.eval (.tmp k) := ⟨_, rfl⟩
     rw [← hz] at hfr
     have z2 : zz 2 = .string (T ++ ⟨#[40]⟩ ++ JJ ++ ⟨#[41]⟩) := by rw [hz]; exact hS.val 9 _ 2 _ rfl rfl rfl (hl 9 (by decide))
     first | refine (‹∀ (a : Act) (w : World), Code.wp Tryz.prog _ _ a w → _› a1 wz ?_) | skip
     rw [hfr]
     have HBZ2 : Hid (Below w.heap.size w wz) := HBZ.out.trans (hJ.mono HBZ.out.size)
     clear hfr hz hS hJ hl
     simp only [over, List.setIfInBounds_toArray, List.set_cons_zero, List.set_cons_succ, z2]
     clear z2
     go_wp2
     go_ret
     exact ⟨by rw [HT.out]; exact congrArg (fun t => Ending.returned (.string t)) HFIN.out, HBZ2.out⟩
   ·have heven : parts.length % 2 = 0 := HW.out.2.2.2.2.1 rfl
    have hlen := HLEN.out
    have hex : exT 16 num text (txEs parts) params (txSs body) = [123] ++ commas (pairs (txEs parts)) ++ [125] := rfl
    rw [hex] at hlen
    simp only [List.length_append, List.length_cons, List.length_nil] at hlen
    obtain ⟨PL, hPL⟩ : ∃ PL : List ByteArray, PL = (pairs (txEs parts)).map mkB := ⟨_, rfl⟩
    have HPR : Hid (∀ (m : Nat) (T1 T2 : ByteArray), (txB parts)[2 * m]? = some T1 → (txB parts)[2 * m + 1]? = some T2 → PL[m]? = some (⟨#[91]⟩ ++ T1 ++ ⟨#[93, 58, 32]⟩ ++ T2)) := by rw [hPL]; exact fun m T1 T2 h1 h2 => pairs_mk h1 h2
    have hPn : PL.length = parts.length / 2 := by rw [hPL, List.length_map, pairs_half _ (by rw [txEs_length]; exact heven), txEs_length]
    have hcj : cmB PL = mkB (commas (pairs (txEs parts))) := by rw [hPL]; exact cmB_mk _
    have hjs := mkB_size (commas (pairs (txEs parts)))
    rw [← hcj] at hjs
    have HFIN : Hid (⟨#[123]⟩ ++ cmB PL ++ ⟨#[125]⟩ = mkB (exT 16 num text (txEs parts) params (txSs body))) := by
     show _ = _
     rw [hex, hcj, ← mkB_add, ← mkB_add]
     rfl
    have HTS : Hid (∀ (j : Nat) (T : ByteArray), (txB parts)[j]? = some T → T.size ≤ 1000000000) := fun j T h => by
     unfold txB at h
     rw [List.getElem?_map, txEs_map, List.getElem?_map, Option.map_map, Option.map_eq_some_iff] at h
     obtain ⟨p, hp, rfl⟩ := h
     exact Nat.le_trans (Nat.le_of_eq (mkB_size _)) (HPL.out p (List.mem_of_getElem? hp))
    obtain ⟨W0, hW0⟩ : ∃ W0, W0 = wr := ⟨_, rfl⟩
    subst hW0
    have hpl16 : parts.length ≤ 1000000004 := hfew
    have hjl : (cmB PL).size ≤ 1000000000 := by omega
    clear hlen hex hPL hcj hjs
    go_wp2_with fail
    go_loopw [7, 6] (fun i u wr => ∃ k : Nat, i = .int .i64 (k : Int) ∧ k % 2 = 0 ∧ k ≤ parts.length ∧ Hid (wr.ownsRow W0.heap.size 9 1 u (k / 2) (strCs (PL.take (k / 2)))) ∧ Hid (Below W0.heap.size W0 wr))
     (fun i _ _ => parts.length - (intOf i).toNat)
    case atStart => exact ⟨0, rfl, rfl, Nat.zero_le _, World.ownsRow_nil _ _ _ _, Below.refl _ _⟩
    case round =>
     obtain ⟨k, rfl, hk2, hkl, HROW, HB⟩ := hrel
     by_cases hlt : k < parts.length
     ·obtain ⟨m, hmk⟩ : ∃ m, m = k / 2 := ⟨_, rfl⟩
      have hkm : k = 2 * m := by omega
      obtain ⟨T1, hT1⟩ : ∃ T, (txB parts)[k]? = some T := ⟨_, List.getElem?_eq_getElem (by rw [txB_len]; exact hlt)⟩
      obtain ⟨T2, hT2⟩ : ∃ T, (txB parts)[k + 1]? = some T := ⟨_, List.getElem?_eq_getElem (by rw [txB_len]; omega)⟩
      have hP := HPR.out m T1 T2 (hkm ▸ hT1) (hkm ▸ hT2)
      have hs1 := HTS.out _ _ hT1
      have hs2 := HTS.out _ _ hT2
      obtain ⟨g, cap2, cur2, hv, hcp1, hcp2, hbg, hblk⟩ := row_at HRW.out (by omega)
      cases hv
      have hrc := row_cells (g := g) (cap := cap) HRW.out
      have c1 : W0.cell? ⟨g, k, none⟩ = some (.string T1) := by have h := hrc k (.string T1) (by simp [strCs, hT1]); rw [Nat.zero_add] at h; exact h
      have c2 : W0.cell? ⟨g, k + 1, none⟩ = some (.string T2) := by have h := hrc (k + 1) (.string T2) (by simp [strCs, hT2]); rw [Nat.zero_add] at h; exact h
      have hgl : g < W0.heap.size := lt_of_block hblk
      have hbW : W0.heap.size ≤ wr.heap.size := HB.out.size
      have hi1 : 0 ≤ (k : Int) ∧ (k : Int) < (parts.length : Int) := ⟨by omega, by omega⟩
      have hi2 : 0 ≤ (k : Int) + 1 ∧ (k : Int) + 1 < (parts.length : Int) := ⟨by omega, by omega⟩
      have htn : ((k : Int) + 1).toNat = k + 1 := by omega
      have hwrp : IntKind.i64.wrap ((k : Int) + 1) = (k : Int) + 1 := by simp [IntKind.wrap, IntKind.bits, IntKind.signed]; omega
      have HWR := Lib.hid hwrp
      clear hwrp
      have htk : strCs (PL.take (m + 1)) = strCs (PL.take m) ++ [.string (⟨#[91]⟩ ++ T1 ++ ⟨#[93, 58, 32]⟩ ++ T2)] := by rw [takeB_snoc hP]; simp [strCs]
      rw [← hmk] at HROW
      obtain ⟨v7, w7, hrun, hown7, hgr7, ho7⟩ := run_append_own2 (P := Tryz.prog) (wr.drew.alloc (.cells #[.string (⟨#[91]⟩ ++ T1 ++ ⟨#[93, 58, 32]⟩ ++ T2)] 9)) W0.heap.size 63 63 9 i0 _ 1 16 Tryz.underlying63 hi hz0 hz1 hz2 rfl (by decide) _ m (strCs (PL.take m)) (HROW.out.drew.alloc _) ⟨wr.heap.size, 0, none⟩ 1 1 [.string (⟨#[91]⟩ ++ T1 ++ ⟨#[93, 58, 32]⟩ ++ T2)] rfl (fun q u hq => by match q, hq with | 0, hq => simp at hq; subst hq; exact (cell_of_row _ _ _ _ _ _ (heap_alloc_new wr.drew _)).trans rfl | q + 1, hq => simp at hq) (by intro u hu; simp at hu; subst hu; rfl) (by decide) (by unfold maxLen; omega) (by omega) (Nat.le_trans hbW (by simp [World.alloc]))
      have HX : Hid (Below W0.heap.size W0 wr.drew) := HB.out.drew
      have HY : Hid (Below W0.heap.size W0 (wr.drew.alloc (.cells #[.string (⟨#[91]⟩ ++ T1 ++ ⟨#[93, 58, 32]⟩ ++ T2)] 9))) := HX.out.alloc hbW _
      have HZ : Hid (Below W0.heap.size W0 w7) := HY.out.grown hgr7 (Nat.le_trans hbW (by simp [World.alloc])) (fun j hj => (HROW.out.lt j hj).1)
      have HK : Hid (w7.ownsRow W0.heap.size 9 1 v7 ((k + 2) / 2) (strCs (PL.take ((k + 2) / 2)))) := by rw [show (k + 2) / 2 = m + 1 from by omega, htk]; exact hown7
      clear hT1 hT2 hP hrc hblk hmk hkm htk hown7 hgr7 ho7 hcp1 hcp2
      go_wp2_with fail
      refine region_sh (fun | 0 => some (u6) | 1 => some (.slice (some ⟨g, 0, none⟩) parts.length cap) | 2 => some (.int .i64 (k : Int)) | 3 => some (.pointer (some ⟨g, k, none⟩)) | 4 => some (.string T1) | 5 => some (.string (⟨#[91]⟩ ++ T1)) | 6 => some (.string (⟨#[91]⟩ ++ T1 ++ ⟨#[93, 58, 32]⟩)) | 7 => some (.slice (some ⟨g, 0, none⟩) parts.length cap) | 8 => some (.int .i64 (k : Int)) | 9 => some (.int .i64 ((k : Int) + 1)) | 10 => some (.pointer (some ⟨g, k + 1, none⟩)) | 11 => some (.string T2) | 12 => some (.string (⟨#[91]⟩ ++ T1 ++ ⟨#[93, 58, 32]⟩ ++ T2)) | 13 => some (.slice (some ⟨wr.heap.size, 0, none⟩) 1 1) | 14 => some (v7) | 15 => some (v7) | _ => none) (JRec wr.drew (wr.drew.alloc (.cells #[.string (⟨#[91]⟩ ++ T1 ++ ⟨#[93, 58, 32]⟩ ++ T2)] 9)) w7 u6) (by kernel_rfl) (by kernel_rfl) (by kernel_rfl) (⟨rfl, fun _ => rfl⟩) ?_ ?_
      ·intro hon q hq L a1 W hC hl hBh hS hJ K hK
       have hqn : q < 16 := hq
       clear hq
       rcases (show q = 0 ∨ q = 1 ∨ q = 2 ∨ q = 3 ∨ q = 4 ∨ q = 5 ∨ q = 6 ∨ q = 7 ∨ q = 8 ∨ q = 9 ∨ q = 10 ∨ q = 11 ∨ q = 12 ∨ q = 13 ∨ q = 14 ∨ q = 15 from by omega) with rfl | rfl | rfl | rfl | rfl | rfl | rfl | rfl | rfl | rfl | rfl | rfl | rfl | rfl | rfl | rfl
       ·have n14 := closed_not hC hl (i := 14) (j := 0) rfl (g := .data) (by simp) rfl
        have n15 := closed_not hC n14 (i := 15) (j := 14) rfl (g := .data) (by simp) rfl
        have e6 := (eval_tmp a1 6).symm.trans (hJ.2 n15)
        refine wpOp_step rfl (fun K' hK' => ?_)
        go_simp
        exact hK' _ _ (hK _ _ (hS.put hon (i := 0) rfl rfl (fun u hu => by cases hu; rfl)) (hJ.pure (by decide) (by decide) (by decide) (by decide)))
       ·have e3 := (eval_tmp a1 3).symm.trans ((hS.kept 3 (by kernel_rfl)).trans rfl)
        refine wpOp_step rfl (fun K' hK' => ?_)
        go_simp
        exact hK' _ _ (hK _ _ (hS.put hon (i := 1) rfl rfl (fun u hu => by cases hu; rfl)) (hJ.pure (by decide) (by decide) (by decide) (by decide)))
       ·have e7 := (eval_tmp a1 7).symm.trans ((hS.kept 7 (by kernel_rfl)).trans rfl)
        refine wpOp_step rfl (fun K' hK' => ?_)
        go_simp
        exact hK' _ _ (hK _ _ (hS.put hon (i := 2) rfl rfl (fun u hu => by cases hu; rfl)) (hJ.pure (by decide) (by decide) (by decide) (by decide)))
       ·have e91 := (eval_tmp a1 91).symm.trans (hS.get hBh (i := 3) rfl 1 (by simp) rfl rfl rfl)
        have e92 := (eval_tmp a1 92).symm.trans (hS.get hBh (i := 3) rfl 2 (by simp) rfl rfl rfl)
        refine wpOp_step rfl (fun K' hK' => ?_)
        go_simp
        first | rw [if_pos hi1] | skip
        exact hK' _ _ (hK _ _ (hS.put hon (i := 3) rfl rfl (fun u hu => by cases hu; rfl)) (hJ.pure (by decide) (by decide) (by decide) (by decide)))
       ·have e93 := (eval_tmp a1 93).symm.trans (hS.get hBh (i := 4) rfl 3 (by simp) rfl rfl rfl)
        have hWb := hJ.below HX.out HY.out HZ.out
        have hc := (hWb.cell (p := ⟨g, k, none⟩) hgl).trans c1
        refine wpOp_step rfl (fun K' hK' => ?_)
        go_simp
        exact hK' _ _ (hK _ _ (hS.put hon (i := 4) rfl rfl (fun u hu => by cases hu; rfl)) (hJ.pure (by decide) (by decide) (by decide) (by decide)))
       ·have e94 := (eval_tmp a1 94).symm.trans (hS.get hBh (i := 5) rfl 4 (by simp) rfl rfl rfl)
        refine wpOp_step rfl (fun K' hK' => ?_)
        go_simp
        rw [if_neg (by omega)]
        exact hK' _ _ (hK _ _ (hS.put hon (i := 5) rfl rfl (fun u hu => by cases hu; rfl)) (hJ.pure (by decide) (by decide) (by decide) (by decide)))
       ·have e95 := (eval_tmp a1 95).symm.trans (hS.get hBh (i := 6) rfl 5 (by simp) rfl rfl rfl)
        refine wpOp_step rfl (fun K' hK' => ?_)
        go_simp
        rw [if_neg (by omega)]
        exact hK' _ _ (hK _ _ (hS.put hon (i := 6) rfl rfl (fun u hu => by cases hu; rfl)) (hJ.pure (by decide) (by decide) (by decide) (by decide)))
       ·have e3 := (eval_tmp a1 3).symm.trans ((hS.kept 3 (by kernel_rfl)).trans rfl)
        refine wpOp_step rfl (fun K' hK' => ?_)
        go_simp
        exact hK' _ _ (hK _ _ (hS.put hon (i := 7) rfl rfl (fun u hu => by cases hu; rfl)) (hJ.pure (by decide) (by decide) (by decide) (by decide)))
       ·have e7 := (eval_tmp a1 7).symm.trans ((hS.kept 7 (by kernel_rfl)).trans rfl)
        refine wpOp_step rfl (fun K' hK' => ?_)
        go_simp
        exact hK' _ _ (hK _ _ (hS.put hon (i := 8) rfl rfl (fun u hu => by cases hu; rfl)) (hJ.pure (by decide) (by decide) (by decide) (by decide)))
       ·have e98 := (eval_tmp a1 98).symm.trans (hS.get hBh (i := 9) rfl 8 (by simp) rfl rfl rfl)
        refine wpOp_step rfl (fun K' hK' => ?_)
        go_simp
        rw [HWR.out]
        exact hK' _ _ (hK _ _ (hS.put hon (i := 9) rfl rfl (fun u hu => by cases hu; rfl)) (hJ.pure (by decide) (by decide) (by decide) (by decide)))
       ·have e97 := (eval_tmp a1 97).symm.trans (hS.get hBh (i := 10) rfl 7 (by simp) rfl rfl rfl)
        have e99 := (eval_tmp a1 99).symm.trans (hS.get hBh (i := 10) rfl 9 (by simp) rfl rfl rfl)
        refine wpOp_step rfl (fun K' hK' => ?_)
        go_simp
        first | rw [if_pos hi2] | skip
        first | rw [htn] | skip
        exact hK' _ _ (hK _ _ (hS.put hon (i := 10) rfl rfl (fun u hu => by cases hu; rfl)) (hJ.pure (by decide) (by decide) (by decide) (by decide)))
       ·have e100 := (eval_tmp a1 100).symm.trans (hS.get hBh (i := 11) rfl 10 (by simp) rfl rfl rfl)
        have hWb := hJ.below HX.out HY.out HZ.out
        have hc := (hWb.cell (p := ⟨g, k + 1, none⟩) hgl).trans c2
        refine wpOp_step rfl (fun K' hK' => ?_)
        go_simp
        exact hK' _ _ (hK _ _ (hS.put hon (i := 11) rfl rfl (fun u hu => by cases hu; rfl)) (hJ.pure (by decide) (by decide) (by decide) (by decide)))
       ·have e96 := (eval_tmp a1 96).symm.trans (hS.get hBh (i := 12) rfl 6 (by simp) rfl rfl rfl)
        have e101 := (eval_tmp a1 101).symm.trans (hS.get hBh (i := 12) rfl 11 (by simp) rfl rfl rfl)
        refine wpOp_step rfl (fun K' hK' => ?_)
        go_simp
        rw [if_neg (by omega)]
        exact hK' _ _ (hK _ _ (hS.put hon (i := 12) rfl rfl (fun u hu => by cases hu; rfl)) (hJ.pure (by decide) (by decide) (by decide) (by decide)))
       ·have e102 := (eval_tmp a1 102).symm.trans (hS.get hBh (i := 13) rfl 12 (by simp) rfl rfl rfl)
        have n14 := closed_not hC hl (i := 14) (j := 13) rfl (g := .data) (by simp) rfl
        have hWX := hJ.at13 hl
        subst hWX
        refine wpOp_step rfl (fun K' hK' => ?_)
        go_simp
        exact hK' _ _ (hK _ _ (hS.put hon (i := 13) rfl rfl (fun u hu => by cases hu; rfl)) (hJ.to14 n14 (by decide)))
       ·have d13 : L 13 = true := hBh _ rfl ⟨13, .data⟩ (by simp) rfl
        have hWY := hJ.at14 d13 hl
        have f90 : a1.eval (.tmp 90) = u6 := hS.get hBh (i := 14) rfl 0 (by simp) rfl rfl rfl
        have f103 : a1.eval (.tmp 103) = .slice (some ⟨wr.heap.size, 0, none⟩) 1 1 := hS.get hBh (i := 14) rfl 13 (by simp) rfl rfl rfl
        subst hWY
        refine wpOp_run rfl rfl (v := v7) (w' := w7) (exec_app (s := .tmp 90) (x := .tmp 103) rfl f90 f103 hrun) ?_
        exact hK _ _ (hS.put hon (i := 14) rfl rfl (fun u hu => by cases hu; rfl)) (hJ.to15 d13 (by decide))
       ·have e104 := (eval_tmp a1 104).symm.trans (hS.get hBh (i := 15) rfl 14 (by simp) rfl rfl rfl)
        refine wpOp_step rfl (fun K' hK' => ?_)
        go_simp
        exact hK' _ _ (hK _ _ (hS.put hon (i := 15) rfl rfl (fun u hu => by cases hu; rfl)) hJ.last)
      ·intro L a1 wz hl hS hJ
       have hfr := hS.frame [90, 91, 92, 93, 94, 95, 96, 97, 98, 99, 100, 101, 102, 103, 104, 6] rfl
       obtain ⟨zz, hz⟩ : ∃ z : Nat → Value, z = fun k => a1.eval (.tmp k) := ⟨_, rfl⟩
       rw [← hz] at hfr
       have z6 : zz 6 = v7 := by rw [hz]; exact hS.val 15 _ 6 _ rfl rfl rfl (hl 15 (by decide))
       have hwz : wz = w7 := by have h := hJ.1; rw [hl 13 (by decide), hl 14 (by decide)] at h; exact h
       refine (‹∀ (a : Act) (w : World), Code.wp Tryz.prog _ _ a w → _› a1 wz ?_)
       rw [hfr, hwz]
       clear hfr hz hS hJ hl hwz hrun
       simp only [over, List.setIfInBounds_toArray, List.set_cons_zero, List.set_cons_succ, z6]
       clear z6
       go_wp2_with fail
       go_roundw
       case rel => exact ⟨k + 2, by go_num, by omega, by omega, HK.out, HZ.out⟩
       case measure => simp [intOf]; omega
     ·have hke : k = parts.length := by omega
      have hk3 : k / 2 = PL.length := by rw [hPn, hke]
      have HJR : Hid (wr.ownsRow W0.heap.size 9 1 u6 PL.length (strCs PL)) := by
       have h := HROW.out
       rw [hk3, List.take_length] at h
       exact h
      have HBB : Hid (Below w.heap.size w wr) := HBZ.out.trans (HB.out.mono HBZ.out.size)
      have hJ := join_any (slAt_row rfl HJR.out) hjl
      clear HROW hk3
      generalize cmB PL = JJ at hjl HFIN hJ
      go_wp2_with fail
      refine hJ.mono ?_
      clear hJ
      rintro e w9 ⟨rfl, b9⟩
      have HB9 : Hid (Below w.heap.size w w9) := HBB.out.trans (b9.mono HBB.out.size)
      clear b9
      go_wp2
      go_ret
      exact ⟨by rw [HT.out]; exact congrArg (fun t => Ending.returned (.string t)) HFIN.out, HB9.out⟩
   ·have hlen := HLEN.out
    rw [show exT 17 num text (txEs parts) params (txSs body) = [102, 110, 40] ++ commas (params.map bl) ++ [41, 32, 123, 10] ++ txSs body ++ [125] from by show [102, 110, 40] ++ commas (params.map bl) ++ [41, 32] ++ ([123, 10] ++ txSs body ++ [125]) = _; simp only [List.append_assoc, List.cons_append, List.nil_append]] at hlen
    simp only [List.length_append, List.length_cons, List.length_nil] at hlen
    have hj := cmB_size params
    have hp := mkB_size (txSs body)
    have HJN : Hid (∀ W, Below w.heap.size w W → Calls Tryz.prog 53 #[.slice na params.length nc] W fun en w' => en = .returned (.string (cmB params)) ∧ Below W.heap.size W w') := fun W hb => join_any (P := (· < w.heap.size)) (HE.out.2.2.1.imp (fun _ h => h) fun g o hg hA => StrAt.kept (hb.block g hg) params o hA) (by omega)
    have HPR : Hid (∀ W, Below w.heap.size w W → Calls Tryz.prog 17 #[.slice ba body.length bc] W fun en w' => en = .returned (.string (mkB (txSs body))) ∧ Below W.heap.size W w') := fun W hb => HA.out.s body HSB.out HBW0.out W _ (HL.out.below hb) (ssin_up (show SsIn w.heap.size w _ body from HE.out.2.2.2) hb) (by omega)
    have HFIN : Hid (⟨#[102, 110, 40]⟩ ++ cmB params ++ ⟨#[41, 32, 123, 10]⟩ ++ mkB (txSs body) ++ ⟨#[125]⟩ = mkB (exT 17 num text (txEs parts) params (txSs body))) := by
     show _ = _
     rw [show exT 17 num text (txEs parts) params (txSs body) = [102, 110, 40] ++ commas (params.map bl) ++ [41, 32, 123, 10] ++ txSs body ++ [125] from by show [102, 110, 40] ++ commas (params.map bl) ++ [41, 32] ++ ([123, 10] ++ txSs body ++ [125]) = _; simp only [List.append_assoc, List.cons_append, List.nil_append], ← mkB_add, ← mkB_add, ← mkB_add, ← mkB_add]
     rfl
    generalize cmB params = JJ at hj HJN HFIN
    generalize mkB (txSs body) = PP at hp HPR HFIN
    have hsum : JJ.size + PP.size ≤ 999999992 := by omega
    have hgx2 := (HBZ.out)
    clear hlen hj hp hgx2
    go_wp2_with fail
    refine region_sh (fun | 0 => some (.pointer (some ⟨w.heap.size, 4, none⟩)) | 1 => some (.slice na params.length nc) | 2 => some (.string JJ) | 3 => some (.string (⟨#[102, 110, 40]⟩ ++ JJ)) | 4 => some (.string (⟨#[102, 110, 40]⟩ ++ JJ ++ ⟨#[41, 32, 123, 10]⟩)) | 5 => some (.pointer (some ⟨w.heap.size, 5, none⟩)) | 6 => some (.slice ba body.length bc) | 7 => some (.string PP) | 8 => some (.string (⟨#[102, 110, 40]⟩ ++ JJ ++ ⟨#[41, 32, 123, 10]⟩ ++ PP)) | 9 => some (.string (⟨#[102, 110, 40]⟩ ++ JJ ++ ⟨#[41, 32, 123, 10]⟩ ++ PP ++ ⟨#[125]⟩)) | 10 => some (.string (⟨#[102, 110, 40]⟩ ++ JJ ++ ⟨#[41, 32, 123, 10]⟩ ++ PP ++ ⟨#[125]⟩)) | _ => none) (fun _ _ W => Below wr.heap.size wr W) (by kernel_rfl) (by kernel_rfl) (by kernel_rfl) ((Below.refl _ _).drew) ?_ ?_
    ·intro hon q hq L a1 W hC hl hBh hS hJ K hK
     have hqn : q < 11 := hq
     clear hq
     rcases (show q = 0 ∨ q = 1 ∨ q = 2 ∨ q = 3 ∨ q = 4 ∨ q = 5 ∨ q = 6 ∨ q = 7 ∨ q = 8 ∨ q = 9 ∨ q = 10 from by omega) with rfl | rfl | rfl | rfl | rfl | rfl | rfl | rfl | rfl | rfl | rfl
     ·have e1 := (eval_tmp a1 1).symm.trans ((hS.kept 1 (by kernel_rfl)).trans rfl)
      refine wpOp_step rfl (fun K' hK' => ?_)
      go_simp
      exact hK' _ _ (hK _ _ (hS.put hon (i := 0) rfl rfl (fun u hu => by cases hu; rfl)) hJ)
     ·have e111 := (eval_tmp a1 111).symm.trans (hS.get hBh (i := 1) rfl 0 (by simp) rfl rfl rfl)
      have hc := (hJ.cell (p := ⟨w.heap.size, 4, none⟩) hgxl).trans e4
      refine wpOp_step rfl (fun K' hK' => ?_)
      go_simp
      exact hK' _ _ (hK _ _ (hS.put hon (i := 1) rfl rfl (fun u hu => by cases hu; rfl)) hJ)
     ·have e112 := (eval_tmp a1 112).symm.trans (hS.get hBh (i := 2) rfl 1 (by simp) rfl rfl rfl)
      refine wpOp_call (f := 53) (args := #[.slice na params.length nc]) (R := fun v W2 => v = .string JJ ∧ Below W.heap.size W W2) rfl rfl (by simp [execOp, resolve, invoke, e112, go_sem]) ((HJN.out W (HBZ.out.trans (hJ.mono HBZ.out.size))).mono fun en W2 ⟨h1, h2⟩ => ⟨_, h1, rfl, h2⟩) ?_
      rintro v WQ ⟨rfl, b⟩
      exact hK _ _ (hS.put hon (i := 2) rfl rfl (fun u hu => by cases hu; rfl)) (hJ.trans (b.mono hJ.size))
     ·have e113 := (eval_tmp a1 113).symm.trans (hS.get hBh (i := 3) rfl 2 (by simp) rfl rfl rfl)
      refine wpOp_step rfl (fun K' hK' => ?_)
      go_simp
      rw [if_neg (by omega)]
      exact hK' _ _ (hK _ _ (hS.put hon (i := 3) rfl rfl (fun u hu => by cases hu; rfl)) hJ)
     ·have e114 := (eval_tmp a1 114).symm.trans (hS.get hBh (i := 4) rfl 3 (by simp) rfl rfl rfl)
      refine wpOp_step rfl (fun K' hK' => ?_)
      go_simp
      rw [if_neg (by omega)]
      exact hK' _ _ (hK _ _ (hS.put hon (i := 4) rfl rfl (fun u hu => by cases hu; rfl)) hJ)
     ·have e1 := (eval_tmp a1 1).symm.trans ((hS.kept 1 (by kernel_rfl)).trans rfl)
      refine wpOp_step rfl (fun K' hK' => ?_)
      go_simp
      exact hK' _ _ (hK _ _ (hS.put hon (i := 5) rfl rfl (fun u hu => by cases hu; rfl)) hJ)
     ·have e116 := (eval_tmp a1 116).symm.trans (hS.get hBh (i := 6) rfl 5 (by simp) rfl rfl rfl)
      have hc := (hJ.cell (p := ⟨w.heap.size, 5, none⟩) hgxl).trans e5
      refine wpOp_step rfl (fun K' hK' => ?_)
      go_simp
      exact hK' _ _ (hK _ _ (hS.put hon (i := 6) rfl rfl (fun u hu => by cases hu; rfl)) hJ)
     ·have e117 := (eval_tmp a1 117).symm.trans (hS.get hBh (i := 7) rfl 6 (by simp) rfl rfl rfl)
      refine wpOp_call (f := 17) (args := #[.slice ba body.length bc]) (R := fun v W2 => v = .string PP ∧ Below W.heap.size W W2) rfl rfl (by simp [execOp, resolve, invoke, e117, go_sem]) ((HPR.out W (HBZ.out.trans (hJ.mono HBZ.out.size))).mono fun en W2 ⟨h1, h2⟩ => ⟨_, h1, rfl, h2⟩) ?_
      rintro v WQ ⟨rfl, b⟩
      exact hK _ _ (hS.put hon (i := 7) rfl rfl (fun u hu => by cases hu; rfl)) (hJ.trans (b.mono hJ.size))
     ·have e115 := (eval_tmp a1 115).symm.trans (hS.get hBh (i := 8) rfl 4 (by simp) rfl rfl rfl)
      have e118 := (eval_tmp a1 118).symm.trans (hS.get hBh (i := 8) rfl 7 (by simp) rfl rfl rfl)
      refine wpOp_step rfl (fun K' hK' => ?_)
      go_simp
      rw [if_neg (by omega)]
      exact hK' _ _ (hK _ _ (hS.put hon (i := 8) rfl rfl (fun u hu => by cases hu; rfl)) hJ)
     ·have e119 := (eval_tmp a1 119).symm.trans (hS.get hBh (i := 9) rfl 8 (by simp) rfl rfl rfl)
      refine wpOp_step rfl (fun K' hK' => ?_)
      go_simp
      rw [if_neg (by omega)]
      exact hK' _ _ (hK _ _ (hS.put hon (i := 9) rfl rfl (fun u hu => by cases hu; rfl)) hJ)
     ·have e120 := (eval_tmp a1 120).symm.trans (hS.get hBh (i := 10) rfl 9 (by simp) rfl rfl rfl)
      refine wpOp_step rfl (fun K' hK' => ?_)
      go_simp
      exact hK' _ _ (hK _ _ (hS.put hon (i := 10) rfl rfl (fun u hu => by cases hu; rfl)) hJ)
    ·intro L a1 wz hl hS hJ
     have hfr := hS.frame [111, 112, 113, 114, 115, 116, 117, 118, 119, 120, 2] rfl
     obtain ⟨zz, hz⟩ : ∃ z : Nat → Value, z = fun k => a1.eval (.tmp k) := ⟨_, rfl⟩
     rw [← hz] at hfr
     have z2 : zz 2 = .string (⟨#[102, 110, 40]⟩ ++ JJ ++ ⟨#[41, 32, 123, 10]⟩ ++ PP ++ ⟨#[125]⟩) := by rw [hz]; exact hS.val 10 _ 2 _ rfl rfl rfl (hl 10 (by decide))
     first | refine (‹∀ (a : Act) (w : World), Code.wp Tryz.prog _ _ a w → _› a1 wz ?_) | skip
     rw [hfr]
     have HBZ2 : Hid (Below w.heap.size w wz) := HBZ.out.trans (hJ.mono HBZ.out.size)
     clear hfr hz hS hJ hl
     simp only [over, List.setIfInBounds_toArray, List.set_cons_zero, List.set_cons_succ, z2]
     clear z2
     go_wp2
     go_ret
     exact ⟨by rw [HT.out]; exact congrArg (fun t => Ending.returned (.string t)) HFIN.out, HBZ2.out⟩
end Go.Proofs.YtpboencfnjmmbaaGreatDoor

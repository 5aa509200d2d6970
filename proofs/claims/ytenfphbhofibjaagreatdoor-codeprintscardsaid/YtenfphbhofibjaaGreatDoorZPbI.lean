/-
 PaRec, Pa12, Pa13, Pa14, PaWith, joined.
 Conditions: as each theorem says.
-/
import Derived.Test.YtenfphbhofibjaaGreatDoorZPbH
set_option maxRecDepth 100000
set_option maxHeartbeats 4000000
set_option linter.unusedVariables false
set_option linter.unusedSimpArgs false
namespace Go.Proofs.YtenfphbhofibjaaGreatDoor
open Go.RowKit LM TM PM
theorem flat2_snoc (l : List (TE × TE)) (p : TE × TE) : flat2 (l ++ [p]) = flat2 l ++ [p.1, p.2] := by
 induction l with
 | nil => rfl
 | cons q l ih => simp [flat2, ih]
theorem flat2_len (l : List (TE × TE)) : (flat2 l).length = 2 * l.length := by
 induction l with
 | nil => rfl
 | cons q l ih => simp [flat2, ih]; omega
theorem row_two {v : Value} {x y : TE} {P : Nat → Prop} {w : World} (h : RE v [x, y] P w) : ∃ g o cap a b c a' b' c', v = .slice (some ⟨g, o, none⟩) 2 cap ∧ P g ∧ ECells w g o x a b c ∧ ECells w g (o + 6) y a' b' c' ∧ EIn P w x a b c ∧ EIn P w y a' b' c' := by
 obtain ⟨ad, cap, h1, h2, h3, h4⟩ := h
 obtain ⟨g, o, rfl, hg, hA⟩ := h4 (by simp)
 obtain ⟨⟨a, b, c, hc, hi⟩, ⟨a', b', c', hc', hi'⟩, _⟩ := hA
 exact ⟨g, o, cap, a, b, c, a', b', c', h1, hg, hc, hc', hi, hi'⟩
theorem add_add (g o q : Nat) : ((⟨g, o, none⟩ : Addr).add (q + 6)) = (⟨g, o + 6, none⟩ : Addr).add q := by
 unfold Addr.add
 simp
 first
  | omega
  | (split <;> simp_all <;> omega)
theorem cells_get2 {w : World} {g o : Nat} {x y : TE} {a b c a' b' c' : Value} (h : ECells w g o x a b c) (k : ECells w g (o + 6) y a' b' c') : ∀ (q : Nat) (u : Value), (sixE x a b c ++ sixE y a' b' c')[q]? = some u → w.cell? ((⟨g, o, none⟩ : Addr).add q) = some u := by
 intro q u hq
 rcases Nat.lt_or_ge q 6 with h6 | h6
 ·rw [List.getElem?_append_left (by rw [sixE_len]; exact h6)] at hq
  exact cells_get h q u hq
 ·obtain ⟨r, rfl⟩ : ∃ r, q = r + 6 := ⟨q - 6, by omega⟩
  rw [List.getElem?_append_right (by rw [sixE_len]; omega), sixE_len, show r + 6 - 6 = r from by omega] at hq
  rw [add_add]
  exact cells_get k r u hq
def SR (F : PR (TE × TE)) (w0 wr : World) (pb d gx gp bs : Nat) (T : TypeId) (O : Nat → Option Obj) (bc : Value → Array Value) (v0 : Value) (acc : List (TE × TE)) : Nat → Value → World → Prop
 | 0, v, W => ∃ p ts', F = .ok p ts' ∧ Lie (RE v [p.1, p.2]) wr.heap.size W.heap.size W ∧ PAt W pb ts' d ∧ wr.grownBy W (some pb)
 | 1, v, W => ∃ p ts' cs, F = .ok p ts' ∧ PAt W pb ts' d ∧ W.heap[gx]? = some (.cells (bc v0) T (0, 0)) ∧ (∀ k o, O k = some o → W.heap[k]? = some o) ∧ RowG (XEs (flat2 (acc ++ [p]))) 35 6 bs ((flat2 acc).length + 2) W v cs ∧ w0.grownBy W (some pb) ∧ Below pb wr W
 | _, v, W => ∃ p ts' v2 cs, F = .ok p ts' ∧ PAt W pb ts' d ∧ BoxI (XEs (flat2 (acc ++ [p]))) 35 6 T O bc w0 pb gx gp bs ((flat2 acc).length + 2) W v2 cs ∧ Below pb wr W
theorem SR.blk {F : PR (TE × TE)} {w0 wr W : World} {pb d gx gp bs n k : Nat} {T : TypeId} {O : Nat → Option Obj} {bc : Value → Array Value} {v0 v : Value} {acc : List (TE × TE)} {o : Obj} (hk : k < 1) (h : SR F w0 wr pb d gx gp bs T O bc v0 acc k v W) (hb : wr.heap[n]? = some o) (hn : n ≠ pb) : W.heap[n]? = some o := by
 have hl := lt_of_block hb
 obtain rfl : k = 0 := by omega
 obtain ⟨p, ts', _, _, _, hg⟩ := h
 rw [hg.block n hl (by simpa using hn), hb]
theorem rec_app {F : PR (TE × TE)} {w0 wr Wc : World} {pb d gx gp bs : Nat} {T : TypeId} {O : Nat → Option Obj} {bc : Value → Array Value} {v0 v : Value} {acc : List (TE × TE)} {cs : List Value} {p : TE × TE} {ts' : List Tok} (hI : BoxI (XEs (flat2 acc)) 35 6 T O bc w0 pb gx gp bs (flat2 acc).length wr v0 cs) (hF : F = .ok p ts') (hL : Lie (RE v [p.1, p.2]) wr.heap.size Wc.heap.size Wc) (hp : PAt Wc pb ts' d) (hg : wr.grownBy Wc (some pb))
 (h1 : pb < w0.heap.size) (hx : w0.heap.size ≤ gx) (hO : ∀ k o, O k = some o → w0.heap.size ≤ k ∧ k < bs ∧ k ≠ gx) (hb : gx < bs) (hbw : bs ≤ wr.heap.size) (hn : acc.length ≤ 100000) (ty : TypeId) :
 ∃ v2 W2, (Builtin.append_ #[28, 28] ty #[v0, v]).run Tryz.prog Wc = .ok v2 W2 ∧ SR F w0 wr pb d gx gp bs T O bc v0 acc 1 v2 W2 := by
 obtain ⟨i0, hi, hz0, hz1, hz2⟩ := info_parts infoExpr
 have hIc := hI.step (stab_XEs _) hg h1 hx hO (by omega)
 have hsc : wr.heap.size ≤ Wc.heap.size := hg.size
 have hfl := flat2_len acc
 obtain ⟨gv, ov, cap, a, b, c, a', b', c', rfl, hgv, hc1, hc2, hi1, hi2⟩ := row_two hL.at'
 obtain ⟨v2, W2, hrun, r1, r2, r3⟩ := run_append_own2 (P := Tryz.prog) Wc bs 28 ty 35 i0 _ 6 104 Tryz.underlying28 hi hz0 hz1 hz2 rfl (by decide) v0 (flat2 acc).length cs hIc.row.own ⟨gv, ov, none⟩ 2 cap (sixE p.1 a b c ++ sixE p.2 a' b' c') (by rw [List.length_append, sixE_len, sixE_len]) (cells_get2 hc1 hc2) (by intro u hu; rw [List.mem_append] at hu; rcases hu with hu | hu; exact six_cells hi1 u hu; exact six_cells hi2 u hu) (by decide) (by unfold maxLen; omega) (by omega) (by omega)
 have hLy : Lie (fun P w => EIn P w p.1 a b c ∧ EIn P w p.2 a' b' c') wr.heap.size Wc.heap.size Wc := ⟨fun P Q w w' H h => ⟨EIn.kept H _ h.1, EIn.kept H _ h.2⟩, hsc, Nat.le_refl _, hi1, hi2⟩
 obtain ⟨a1, a2⟩ := hIc.row.app0 (Z := XEs (flat2 (acc ++ [p]))) (stab_XEs _) hLy (by omega) (fun k hk => by have := (hI.row.own.lt k hk).2; omega) r1 r2 r3 (fun P h1 h2 => by
  show EsC _ _ _ _
  rw [flat2_snoc, show (flat2 acc ++ [p.1, p.2]) = (flat2 acc ++ [p.1]) ++ [p.2] from by simp, ← List.append_assoc]
  exact EsC.snoc h2.2 (EsC.snoc h2.1 h1))
 have a2p : Below pb Wc W2 := ⟨a2.os, a2.tape, a2.output, a2.size, fun k hk => a2.block k (by omega)⟩
 exact ⟨v2, W2, hrun, p, ts', _, hF, hp.bel a2 (by omega), (a2.block gx (by omega)).trans hIc.box, fun k o hk => (a2.block k (hO k o hk).2.1).trans (hIc.oth k o hk), a1, ⟨a2.os.trans hIc.gr.os, a2.tape.trans hIc.gr.tape, a2.output.trans hIc.gr.output, by have := a2.size; have := hIc.gr.size; omega, fun k hk hn => (a2.block k (by omega)).trans (hIc.gr.block k hk hn)⟩, (grown_to_below hg (by omega)).trans a2p⟩
theorem ret_F {r : PR (TE × TE)} {w w' : World} {pb d : Nat} {v : Value} (h : Ret r w pb d (VF w) (.returned v) w') : ∃ p ts', r = .ok p ts' ∧ Lie (RE v [p.1, p.2]) w.heap.size w'.heap.size w' ∧ PAt w' pb ts' d ∧ w.grownBy w' (some pb) := by
 cases r with
 | ok y ts' =>
  obtain ⟨⟨a, he, hL⟩, h1, h2⟩ := h
  cases he
  exact ⟨y, ts', rfl, hL, h1, h2⟩
 | bad a e => cases h.1
theorem VF_p {w : World} {ch : List PanicEntry} (x : TE × TE) (w' : World) : ¬ VF w x (.panicked ch) w' := fun ⟨_, h, _⟩ => by cases h
theorem VF_o {w : World} (x : TE × TE) (w' : World) : ¬ VF w x .outgrown w' := fun ⟨_, h, _⟩ => by cases h
end Go.Proofs.YtenfphbhofibjaaGreatDoor
namespace Go.Proofs.YtenfphbhofibjaaGreatDoor
open Go.RowKit LM TM PM
def bcF (v : Value) : Array Value := #[.int .i64 17, .int .i64 0, .string ⟨#[]⟩, .slice none 0 0, v, .slice none 0 0]
theorem layN (W : World) (s : ByteArray) : (Instr.buildSlice 33 1 #[(0, .string s)]).run Tryz.prog W = .ok (.slice (some ⟨W.heap.size, 0, none⟩) 1 1) (W.alloc (.cells #[.string s] 9)) := by
 go_simp
theorem st1N {W : World} {g f : Nat} {x : Value} (hc : W.cell? ⟨g, f, none⟩ = some x) (hf : W.frozen? ⟨g, f, none⟩ = false) (a : Option Addr) (n m : Nat) : (Instr.storeAt 33 (.pointer (some ⟨g, f, none⟩)) (.slice a n m)).run Tryz.prog W = .ok () (W.setCell ⟨g, f, none⟩ (.slice a n m)) := by
 go_simp
theorem fnclo_ok {pb d gx gp bs : Nat} {w0 wr : World} {O : Nat → Option Obj} {acc : List ByteArray} {v0 : Value} {cs : List Value} {tk : List Tok} (hI : BoxI (XNs acc) 9 1 35 O bcF w0 pb gx gp bs acc.length wr v0 cs) (hP : PAt wr pb tk d) (hG : GoodT tk) (h1 : pb < w0.heap.size) (hx : w0.heap.size ≤ gx) (hO : ∀ k o, O k = some o → w0.heap.size ≤ k ∧ k < bs ∧ k ≠ gx) (hOp : O gp = some (.cells #[.pointer (some ⟨pb, 0, none⟩)] 138 (0, 0))) (hb : gx < bs) (hbw : bs ≤ wr.heap.size) (hn : acc.length ≤ 100000) : Calls Tryz.prog 232 #[.pointer (some ⟨gx, 0, none⟩), .pointer (some ⟨gp, 0, none⟩)] wr fun en w' => RetI (pName tk) wr pb d (fun s W => ∃ v cs, BoxI (XNs (acc ++ [s])) 9 1 35 O bcF w0 pb gx gp bs (acc.length + 1) W v cs) en w' := by
 obtain ⟨ao0, cap0, hv0, _⟩ := row_shape hI.row.own
 have hpl : pb < wr.heap.size := by omega
 have HI := Lib.hid hI
 have HBX := Lib.hid hI.box
 have HPX := Lib.hid (hI.oth _ _ hOp)
 have HP := Lib.hid hP
 have HGD := Lib.hid hG
 subst hv0
 clear hI hP hG
 go_enter Tryz.func232, Tryz.ntmps232
 go_wp2_with fail
 refine region_sh (fun | 0 => some (.pointer (some ⟨gx, 4, none⟩)) | 1 => some (.slice ao0 acc.length cap0) | 2 => some (.pointer (some ⟨pb, 0, none⟩)) | 6 => some (.pointer (some ⟨gx, 4, none⟩)) | _ => none) (JG wr 4 (fun | 0 => 3 | 1 => 4 | 2 => 5 | _ => 7) (fun | 0 => 5 | 1 => 6 | 2 => 7 | _ => 0) (SN (pName tk) w0 wr pb d gx gp bs 35 O bcF (.slice ao0 acc.length cap0) acc)) (by kernel_rfl) (by kernel_rfl) (by kernel_rfl) (JG.start _) ?_ ?_
 ·intro hon q hq L a1 W hC hl hBh hS hJ K hK
  have hqn : q < 8 := hq
  clear hq
  rcases (show q = 0 ∨ q = 1 ∨ q = 2 ∨ q = 3 ∨ q = 4 ∨ q = 5 ∨ q = 6 ∨ q = 7 from by omega) with rfl | rfl | rfl | rfl | rfl | rfl | rfl | rfl
  ·have e0 := (eval_tmp a1 0).symm.trans ((hS.kept 0 (by kernel_rfl)).trans rfl)
   refine wpOp_step rfl (fun K' hK' => ?_)
   go_simp
   exact hK' _ _ (hK _ _ (hS.put hon (i := 0) rfl rfl (fun u hu => by cases hu; rfl)) (hJ.pure (by decide) (by decide) (by decide)))
  ·have e2 := (eval_tmp a1 2).symm.trans (hS.get hBh (i := 1) rfl 0 (by simp) rfl rfl rfl)
   have n2 : L 5 = false := closed_not hC hl (i := 5) (j := 1) rfl (g := .data) (by simp) rfl
   have hbW : W.heap[gx]? = some (.cells (bcF (.slice ao0 acc.length cap0)) 35 (0, 0)) := hJ.read (by decide) (fun W => W.heap[gx]? = some (.cells (bcF (.slice ao0 acc.length cap0)) 35 (0, 0))) 2 (by decide) (fun _ => n2) HBX.out (fun k v W hk hS2 => SN.blk (by omega) hS2 HBX.out (by omega))
   have hcl : W.cell? ⟨gx, 4, none⟩ = some (.slice ao0 acc.length cap0) := by simp [World.cell?, hbW, bcF]
   refine wpOp_step rfl (fun K' hK' => ?_)
   go_simp
   exact hK' _ _ (hK _ _ (hS.put hon (i := 1) rfl rfl (fun u hu => by cases hu; rfl)) (hJ.pure (by decide) (by decide) (by decide)))
  ·have e1 := (eval_tmp a1 1).symm.trans ((hS.kept 1 (by kernel_rfl)).trans rfl)
   have n0 : L 3 = false := closed_not hC hl (i := 3) (j := 2) rfl (g := .data) (by simp) rfl
   obtain rfl := hJ.n0 n0
   have hcl : wr.drew.cell? ⟨gp, 0, none⟩ = some (.pointer (some ⟨pb, 0, none⟩)) := by have h9 := HPX.out; show wr.cell? _ = _; simp [World.cell?, h9]
   refine wpOp_step rfl (fun K' hK' => ?_)
   go_simp
   exact hK' _ _ (hK _ _ (hS.put hon (i := 2) rfl rfl (fun u hu => by cases hu; rfl)) (hJ.pure (by decide) (by decide) (by decide)))
  ·have e4 := (eval_tmp a1 4).symm.trans (hS.get hBh (i := 3) rfl 2 (by simp) rfl rfl rfl)
   obtain rfl := hJ.n0 hl
   refine wpOp_callP (f := 173) (args := #[.pointer (some ⟨pb, 0, none⟩)]) (R := fun en WQ => Ret (pName tk) wr.drew pb d VN en WQ) rfl rfl (by simp [execOp, resolve, invoke, e4, go_sem]) (name_p HP.out.drew HGD.out) ?_ ?_ (fun WQ => ret_out VN_o)
   ·intro v WQ hR
    obtain ⟨s, ts', q1, q2, q3, q4⟩ := ret_N hR
    exact hK _ _ (hS.put hon (i := 3) rfl rfl (fun u hu => by cases hu)) (hJ.eff 0 (by decide) (fun j hj => by omega) hl (by decide) (a1.put (some 5) v) (by show SN (pName tk) w0 wr pb d gx gp bs 35 O bcF (.slice ao0 acc.length cap0) acc 0 ((a1.put (some 5) v).eval (.tmp 5)) _; rw [eval_put _ _ _ _ (by rw [hS.size]; exact (by decide : (5 : Nat) < 9)), if_pos rfl]; exact ⟨s, ts', q2, q1, q3, ⟨q4.os, q4.tape, q4.output, q4.size, q4.block⟩⟩))
   ·intro ch WQ hR
    obtain ⟨pa, pe, q1, rfl, q3⟩ := ret_panic VN_p hR
    exact ⟨hS.defers.trans rfl, reti_bad q1 ⟨q3.os, q3.tape, q3.output, q3.size, q3.block⟩⟩
  ·have d0 : L 3 = true := hBh _ rfl ⟨3, .data⟩ (by simp) rfl
   obtain ⟨s, ts', hv, q1, q2, q3⟩ := hJ.cur 0 (by decide) d0 (fun _ => hl)
   have hv2 : a1.eval (.tmp 5) = .string s := hv
   refine wpOp_run rfl rfl (v := (.slice (some ⟨W.heap.size, 0, none⟩) 1 1)) (w' := W.alloc (.cells #[.string s] 9)) (by simp [execOp, hv2, layN, Result.andThen]) (hK _ _ (hS.put hon (i := 4) rfl rfl (fun u hu => by cases hu)) (hJ.eff 1 (by decide) (fun j hj => by obtain rfl : j = 0 := (by omega); exact d0) hl (by decide) (a1.put (some 6) (.slice (some ⟨W.heap.size, 0, none⟩) 1 1)) (by show SN (pName tk) w0 wr pb d gx gp bs 35 O bcF (.slice ao0 acc.length cap0) acc 1 ((a1.put (some 6) (.slice (some ⟨W.heap.size, 0, none⟩) 1 1)).eval (.tmp 6)) _; rw [eval_put _ _ _ _ (by rw [hS.size]; exact (by decide : (6 : Nat) < 9)), if_pos rfl]; exact ⟨s, ts', W, rfl, rfl, q1, q2, q3⟩)))
  ·have d1 : L 4 = true := hBh _ rfl ⟨4, .data⟩ (by simp) rfl
   have e3 := (hS.get hBh (i := 5) rfl 1 (by simp) rfl rfl rfl)
   obtain ⟨s, ts', Wc, hv, rfl, q1, q2, q3⟩ := hJ.cur 1 (by decide) d1 (fun _ => hl)
   have hv2 : a1.eval (.tmp 6) = .slice (some ⟨Wc.heap.size, 0, none⟩) 1 1 := hv
   obtain ⟨v, WQ, hrun, hSN⟩ := name_app HI.out q1 q2 q3 h1 hx hO hb hbw hn 33
   refine wpOp_run rfl rfl (v := v) (w' := WQ) (by simp [execOp, resolve, invoke, builtin, e3, hv2, hrun, Result.andThen]) (hK _ _ (hS.put hon (i := 5) rfl rfl (fun u hu => by cases hu)) (hJ.eff 2 (by decide) (fun j hj => by obtain rfl : j = 1 := (by omega); exact d1) hl (by decide) (a1.put (some 7) v) (by show SN (pName tk) w0 wr pb d gx gp bs 35 O bcF (.slice ao0 acc.length cap0) acc 2 ((a1.put (some 7) v).eval (.tmp 7)) _; rw [eval_put _ _ _ _ (by rw [hS.size]; exact (by decide : (7 : Nat) < 9)), if_pos rfl]; exact hSN)))
  ·have e0 := (eval_tmp a1 0).symm.trans ((hS.kept 0 (by kernel_rfl)).trans rfl)
   refine wpOp_step rfl (fun K' hK' => ?_)
   go_simp
   exact hK' _ _ (hK _ _ (hS.put hon (i := 6) rfl rfl (fun u hu => by cases hu; rfl)) (hJ.pure (by decide) (by decide) (by decide)))
  ·have d2 : L 5 = true := hBh _ rfl ⟨5, .data⟩ (by simp) rfl
   have e8 := (hS.get hBh (i := 7) rfl 6 (by simp) rfl rfl rfl)
   obtain ⟨v9, hv9⟩ : ∃ v9, a1.eval (.tmp 7) = v9 := ⟨_, rfl⟩
   have hS2 := hJ.cur 2 (by decide) d2 (fun _ => hl)
   obtain ⟨s, ts', cs2, q1, q2, q3, q4, q5, q6, q7⟩ : SN (pName tk) w0 wr pb d gx gp bs 35 O bcF (.slice ao0 acc.length cap0) acc 2 v9 W := by rw [← hv9]; exact hS2
   obtain ⟨ao9, cap9, rfl, _⟩ := row_shape q5.own
   have hpg : pb < gx := by omega
   have hc9 : W.cell? ⟨gx, 4, none⟩ = some (.slice ao0 acc.length cap0) := by simp [World.cell?, q3, bcF]
   have hf9 : W.frozen? ⟨gx, 4, none⟩ = false := by simp [World.frozen?, q3]
   refine wpOp_skip rfl rfl rfl (w' := W.setCell ⟨gx, 4, none⟩ (.slice ao9 (acc.length + 1) cap9)) (by simp [execOp, e8, hv9, st1N hc9 hf9, Result.andThen]) (hK _ _ (hS.none (i := 7) rfl rfl) (hJ.eff 3 (by decide) (fun j hj => by obtain rfl : j = 2 := (by omega); exact d2) hl (by decide) _ ⟨s, ts', _, _, q1, q2.other hpg, BoxI.stored q3 q4 q5 (stab_XNs _) q6 rfl hO hx hb, q7.trans ⟨rfl, rfl, rfl, by simp [World.setCell], fun k hk => Below.heap_setCell _ _ _ _ (by show k ≠ gx; omega)⟩⟩))
 ·intro L a1 wz hl hS hJ
  obtain ⟨s, ts', v2, cs2, q1, q2, q3, q4⟩ := hJ.cur 3 (by decide) (hl 7 (by decide)) (fun h => absurd h (by decide))
  have hfr := hS.frame [2, 3, 4, 5, 6, 7, 8] rfl
  obtain ⟨zz, hz⟩ : ∃ z : Nat → Value, z = fun k => a1.eval (.tmp k) := ⟨_, rfl⟩
  rw [← hz] at hfr
  rw [hfr]
  clear hfr hS hJ hl
  simp only [over, List.setIfInBounds_toArray, List.set_cons_zero, List.set_cons_succ]
  go_end0
  exact reti_ok q1 q2 ⟨_, _, q3⟩ q4
end Go.Proofs.YtenfphbhofibjaaGreatDoor
namespace Go.Proofs.YtenfphbhofibjaaGreatDoor
open Go.RowKit LM TM PM
def bcR (v : Value) : Array Value := #[.int .i64 16, .int .i64 0, .string ⟨#[]⟩, v, .slice none 0 0, .slice none 0 0]
theorem st1E {W : World} {g f : Nat} {x : Value} (hc : W.cell? ⟨g, f, none⟩ = some x) (hf : W.frozen? ⟨g, f, none⟩ = false) (a : Option Addr) (n m : Nat) : (Instr.storeAt 28 (.pointer (some ⟨g, f, none⟩)) (.slice a n m)).run Tryz.prog W = .ok () (W.setCell ⟨g, f, none⟩ (.slice a n m)) := by
 go_simp
theorem recclo_ok {pb d gx gp bs : Nat} {E : List Tok → PR TE} (hOE : OkE pb d E) (hE : Eats E) {w0 wr : World} {O : Nat → Option Obj} {acc : List (TE × TE)} {v0 : Value} {cs : List Value} {tk : List Tok} (hI : BoxI (XEs (flat2 acc)) 35 6 35 O bcR w0 pb gx gp bs (flat2 acc).length wr v0 cs) (hP : PAt wr pb tk d) (hG : GoodT tk) (h1 : pb < w0.heap.size) (hx : w0.heap.size ≤ gx) (hO : ∀ k o, O k = some o → w0.heap.size ≤ k ∧ k < bs ∧ k ≠ gx) (hOp : O gp = some (.cells #[.pointer (some ⟨pb, 0, none⟩)] 138 (0, 0))) (hb : gx < bs) (hbw : bs ≤ wr.heap.size) (hn : acc.length ≤ 100000) : Calls Tryz.prog 233 #[.pointer (some ⟨gx, 0, none⟩), .pointer (some ⟨gp, 0, none⟩)] wr fun en w' => RetI (pField E tk) wr pb d (fun p W => ∃ v cs, BoxI (XEs (flat2 (acc ++ [p]))) 35 6 35 O bcR w0 pb gx gp bs ((flat2 acc).length + 2) W v cs) en w' := by
 obtain ⟨ao0, cap0, hv0, _⟩ := row_shape hI.row.own
 have hpl : pb < wr.heap.size := by omega
 obtain ⟨n0, hn0⟩ : ∃ n0, (flat2 acc).length = n0 := ⟨_, rfl⟩
 have HI := Lib.hid hI
 have HBX := Lib.hid hI.box
 have HPX := Lib.hid (hI.oth _ _ hOp)
 have HP := Lib.hid hP
 have HGD := Lib.hid hG
 subst hv0
 have HN0 := Lib.hid hn0
 rw [hn0] at HBX
 clear hI hP hG hn0
 go_enter Tryz.func233, Tryz.ntmps233
 go_wp2_with fail
 refine region_sh (fun | 0 => some (.pointer (some ⟨gx, 3, none⟩)) | 1 => some (.slice ao0 n0 cap0) | 2 => some (.pointer (some ⟨pb, 0, none⟩)) | 5 => some (.pointer (some ⟨gx, 3, none⟩)) | _ => none) (JG wr 3 (fun | 0 => 3 | 1 => 4 | _ => 6) (fun | 0 => 5 | 1 => 6 | _ => 0) (SR (pField E tk) w0 wr pb d gx gp bs 35 O bcR (.slice ao0 n0 cap0) acc)) (by kernel_rfl) (by kernel_rfl) (by kernel_rfl) (JG.start _) ?_ ?_
 ·intro hon q hq L a1 W hC hl hBh hS hJ K hK
  have hqn : q < 7 := hq
  clear hq
  rcases (show q = 0 ∨ q = 1 ∨ q = 2 ∨ q = 3 ∨ q = 4 ∨ q = 5 ∨ q = 6 from by omega) with rfl | rfl | rfl | rfl | rfl | rfl | rfl
  ·have e0 := (eval_tmp a1 0).symm.trans ((hS.kept 0 (by kernel_rfl)).trans rfl)
   refine wpOp_step rfl (fun K' hK' => ?_)
   go_simp
   exact hK' _ _ (hK _ _ (hS.put hon (i := 0) rfl rfl (fun u hu => by cases hu; rfl)) (hJ.pure (by decide) (by decide) (by decide)))
  ·have e2 := (eval_tmp a1 2).symm.trans (hS.get hBh (i := 1) rfl 0 (by simp) rfl rfl rfl)
   have n2 : L 4 = false := closed_not hC hl (i := 4) (j := 1) rfl (g := .data) (by simp) rfl
   have hbW : W.heap[gx]? = some (.cells (bcR (.slice ao0 n0 cap0)) 35 (0, 0)) := hJ.read (by decide) (fun W => W.heap[gx]? = some (.cells (bcR (.slice ao0 n0 cap0)) 35 (0, 0))) 1 (by decide) (fun _ => n2) HBX.out (fun k v W hk hS2 => SR.blk (by omega) hS2 HBX.out (by omega))
   have hcl : W.cell? ⟨gx, 3, none⟩ = some (.slice ao0 n0 cap0) := by simp [World.cell?, hbW, bcR]
   refine wpOp_step rfl (fun K' hK' => ?_)
   go_simp
   exact hK' _ _ (hK _ _ (hS.put hon (i := 1) rfl rfl (fun u hu => by cases hu; rfl)) (hJ.pure (by decide) (by decide) (by decide)))
  ·have e1 := (eval_tmp a1 1).symm.trans ((hS.kept 1 (by kernel_rfl)).trans rfl)
   have q0 : L 3 = false := closed_not hC hl (i := 3) (j := 2) rfl (g := .data) (by simp) rfl
   obtain rfl := hJ.n0 q0
   have hcl : wr.drew.cell? ⟨gp, 0, none⟩ = some (.pointer (some ⟨pb, 0, none⟩)) := by have h9 := HPX.out; show wr.cell? _ = _; simp [World.cell?, h9]
   refine wpOp_step rfl (fun K' hK' => ?_)
   go_simp
   exact hK' _ _ (hK _ _ (hS.put hon (i := 2) rfl rfl (fun u hu => by cases hu; rfl)) (hJ.pure (by decide) (by decide) (by decide)))
  ·have e4 := (eval_tmp a1 4).symm.trans (hS.get hBh (i := 3) rfl 2 (by simp) rfl rfl rfl)
   obtain rfl := hJ.n0 hl
   refine wpOp_callP (f := 234) (args := #[.pointer (some ⟨pb, 0, none⟩)]) (R := fun en WQ => Ret (pField E tk) wr pb d (VF wr) en WQ) rfl rfl (by simp [execOp, resolve, invoke, e4, go_sem]) ((field_ok hOE hE _ _ HP.out.drew HGD.out).mono fun en WQ h => ret_drew (V := VF) (fun _ _ _ h => h) h) ?_ ?_ (fun WQ => ret_out VF_o)
   ·intro v WQ hR
    obtain ⟨s, ts', q1, q2, q3, q4⟩ := ret_F hR
    exact hK _ _ (hS.put hon (i := 3) rfl rfl (fun u hu => by cases hu)) (hJ.eff 0 (by decide) (fun j hj => by omega) hl (by decide) (a1.put (some 5) v) (by show SR (pField E tk) w0 wr pb d gx gp bs 35 O bcR (.slice ao0 n0 cap0) acc 0 ((a1.put (some 5) v).eval (.tmp 5)) _; rw [eval_put _ _ _ _ (by rw [hS.size]; exact (by decide : (5 : Nat) < 8)), if_pos rfl]; exact ⟨s, ts', q1, q2, q3, q4⟩))
   ·intro ch WQ hR
    obtain ⟨pa, pe, q1, rfl, q3⟩ := ret_panic VF_p hR
    exact ⟨hS.defers.trans rfl, reti_bad q1 q3⟩
  ·have d1 : L 3 = true := hBh _ rfl ⟨3, .data⟩ (by simp) rfl
   have e3 := (hS.get hBh (i := 4) rfl 1 (by simp) rfl rfl rfl)
   obtain ⟨v9, hv9⟩ : ∃ v9, a1.eval (.tmp 5) = v9 := ⟨_, rfl⟩
   have hS2 := hJ.cur 0 (by decide) d1 (fun _ => hl)
   obtain ⟨s, ts', q1, q2, q3, q4⟩ : SR (pField E tk) w0 wr pb d gx gp bs 35 O bcR (.slice ao0 n0 cap0) acc 0 v9 W := by rw [← hv9]; exact hS2
   obtain ⟨v, WQ, hrun, hSN⟩ := rec_app HI.out q1 q2 q3 q4 h1 hx hO hb hbw hn 28
   rw [HN0.out] at hrun hSN
   refine wpOp_run rfl rfl (v := v) (w' := WQ) (by simp [execOp, resolve, invoke, builtin, e3, hv9, hrun, Result.andThen]) (hK _ _ (hS.put hon (i := 4) rfl rfl (fun u hu => by cases hu)) (hJ.eff 1 (by decide) (fun j hj => by obtain rfl : j = 0 := (by omega); exact d1) hl (by decide) (a1.put (some 6) v) (by show SR (pField E tk) w0 wr pb d gx gp bs 35 O bcR (.slice ao0 n0 cap0) acc 1 ((a1.put (some 6) v).eval (.tmp 6)) _; rw [eval_put _ _ _ _ (by rw [hS.size]; exact (by decide : (6 : Nat) < 8)), if_pos rfl]; exact hSN)))
  ·have e0 := (eval_tmp a1 0).symm.trans ((hS.kept 0 (by kernel_rfl)).trans rfl)
   refine wpOp_step rfl (fun K' hK' => ?_)
   go_simp
   exact hK' _ _ (hK _ _ (hS.put hon (i := 5) rfl rfl (fun u hu => by cases hu; rfl)) (hJ.pure (by decide) (by decide) (by decide)))
  ·have d2 : L 4 = true := hBh _ rfl ⟨4, .data⟩ (by simp) rfl
   have e7 := (hS.get hBh (i := 6) rfl 5 (by simp) rfl rfl rfl)
   obtain ⟨v9, hv9⟩ : ∃ v9, a1.eval (.tmp 6) = v9 := ⟨_, rfl⟩
   have hS2 := hJ.cur 1 (by decide) d2 (fun _ => hl)
   obtain ⟨s, ts', cs2, q1, q2, q3, q4, q5, q6, q7⟩ : SR (pField E tk) w0 wr pb d gx gp bs 35 O bcR (.slice ao0 n0 cap0) acc 1 v9 W := by rw [← hv9]; exact hS2
   obtain ⟨ao9, cap9, rfl, _⟩ := row_shape q5.own
   have hpg : pb < gx := by omega
   have hc9 : W.cell? ⟨gx, 3, none⟩ = some (.slice ao0 n0 cap0) := by simp [World.cell?, q3, bcR]
   have hf9 : W.frozen? ⟨gx, 3, none⟩ = false := by simp [World.frozen?, q3]
   refine wpOp_skip rfl rfl rfl (w' := W.setCell ⟨gx, 3, none⟩ (.slice ao9 ((flat2 acc).length + 2) cap9)) (by simp [execOp, e7, hv9, st1E hc9 hf9, Result.andThen]) (hK _ _ (hS.none (i := 6) rfl rfl) (hJ.eff 2 (by decide) (fun j hj => by obtain rfl : j = 1 := (by omega); exact d2) hl (by decide) _ ⟨s, ts', _, _, q1, q2.other hpg, BoxI.stored q3 q4 q5 (stab_XEs _) q6 rfl hO hx hb, q7.trans ⟨rfl, rfl, rfl, by simp [World.setCell], fun k hk => Below.heap_setCell _ _ _ _ (by show k ≠ gx; omega)⟩⟩))
 ·intro L a1 wz hl hS hJ
  obtain ⟨s, ts', v2, cs2, q1, q2, q3, q4⟩ := hJ.cur 2 (by decide) (hl 6 (by decide)) (fun h => absurd h (by decide))
  have hfr := hS.frame [2, 3, 4, 5, 6, 7] rfl
  obtain ⟨zz, hz⟩ : ∃ z : Nat → Value, z = fun k => a1.eval (.tmp k) := ⟨_, rfl⟩
  rw [← hz] at hfr
  rw [hfr]
  clear hfr hS hJ hl
  simp only [over, List.setIfInBounds_toArray, List.set_cons_zero, List.set_cons_succ]
  go_end0
  exact reti_ok q1 q2 ⟨_, _, q3⟩ q4
theorem pItems_more {α : Type} {item : List Tok → PR α} {fin : Bs} {k : Nat} {acc : List α} {tk : List Tok} (h : isT 4 sCO tk = true) : pItems item fin (k + 1) acc tk = (item tk.tail).bind fun x ts' => pItems item fin k (acc ++ [x]) ts' := by rw [pItems, if_pos h]
theorem pItems_end {α : Type} {item : List Tok → PR α} {fin : Bs} {k : Nat} {acc : List α} {tk : List Tok} (h : isT 4 sCO tk = false) : pItems item fin (k + 1) acc tk = (pSign fin tk).bind fun _ ts' => .ok acc ts' := by rw [pItems, if_neg (by simp [h])]
theorem pList_none {α : Type} {item : List Tok → PR α} {fin : Bs} {tk : List Tok} (h : isT 4 fin tk = true) : pList item fin tk = .ok [] tk.tail := by rw [pList, if_pos h]
theorem pList_some {α : Type} {item : List Tok → PR α} {fin : Bs} {tk : List Tok} (h : isT 4 fin tk = false) : pList item fin tk = (item tk).bind fun x ts' => pItems item fin (ts'.length + 1) [x] ts' := by rw [pList, if_neg (by simp [h])]
theorem list_fn {α : Type} {item : List Tok → PR α} (hIE : Eats item) {pb d : Nat} {c0 c1 : Value} {I : List α → World → Prop} (fin : Bs)
 (hst : ∀ (acc : List α) (W W' : World), I acc W → W.grownBy W' (some pb) → I acc W')
 (hstep : ∀ (W : World) (tk : List Tok) (acc : List α), PAt W pb tk d → GoodT tk → I acc W → acc.length ≤ 100000 → Calls Tryz.prog 232 #[c0, c1] W fun en W' => RetI (item tk) W pb d (fun x W' => I (acc ++ [x]) W') en W')
 {w : World} {ts : List Tok} (hP : PAt w pb ts d) (hG : GoodT ts) (hI : I [] w) : Calls Tryz.prog 229 #[.pointer (some ⟨pb, 0, none⟩), .string ⟨fin.toArray⟩, .func (.func 232) #[] #[c0, c1]] w fun en w' => RetI (pList item fin ts) w pb d I en w' := by
 have hpl := hP.lt
 have HP := Lib.hid hP
 have HGD := Lib.hid hG
 have HI := Lib.hid hI
 have HST := Lib.hid hst
 have HSTEP := Lib.hid hstep
 clear hP hG hI hst hstep
 go_enter Tryz.func229, Tryz.ntmps229
 go_wp2_with fail
 refine (met_any HP.out HGD.out 4 (by decide) fin).mono ?_
 rintro en W1 ⟨rfl, h, g⟩
 have HB1 : Hid (Below pb w W1) := grown_to_below g (Nat.le_of_lt hpl)
 have HI1 : Hid (I [] W1) := HST.out _ _ _ HI.out g
 rcases tf (isT 4 fin ts) with hi | hi
 ·rw [hi] at h ⊢
  rw [if_pos rfl] at h
  have H1 := Lib.hid h
  have D1 := Lib.hid hi
  clear h g hi
  go_wp2_with fail
  refine bodyPost_ret (results_none rfl _ _ _) rfl (reti_ok (pList_none D1.out) H1.out HI1.out HB1.out)
 ·rw [hi] at h ⊢
  rw [if_neg (by simp)] at h
  have H1 := Lib.hid h
  have D1 := Lib.hid hi
  clear h g hi
  go_wp2_with fail
  refine (HSTEP.out W1 ts [] H1.out HGD.out HI1.out (by simp)).mono ?_
  rintro en W2 hR
  cases hx : item ts with
  | bad a e =>
   rw [hx] at hR
   obtain ⟨rfl, hb⟩ := hR
   exact ⟨rfl, reti_bad (by rw [pList_some D1.out, hx]; rfl) (HB1.out.trans hb)⟩
  | ok x ts1 =>
   rw [hx] at hR
   obtain ⟨rfl, h, hi2, hb⟩ := hR
   obtain ⟨hG1, hl1⟩ := hIE ts HGD.out x ts1 hx
   have HG1 := Lib.hid hG1
   have H2 := Lib.hid h
   have HI2 : Hid (I [x] W2) := hi2
   have HB2 : Hid (Below pb w W2) := HB1.out.trans hb
   have HRR : Hid (pList item fin ts = pItems item fin (ts1.length + 1) [x] ts1) := by show _ = _; rw [pList_some D1.out, hx]; rfl
   have HL0 : Hid (([x] : List α).length + ts1.length ≤ 100000) := by show _ ≤ _; have := HP.out.len; simp; omega
   clear h hi2 hb hG1 hl1 hx
   go_wp2_with fail
   go_loopw [] (fun wr => ∃ (k : Nat) (acc : List α) (tk : List Tok), Hid (PAt wr pb tk d) ∧ Hid (GoodT tk) ∧ Hid (I acc wr) ∧ Hid (Below pb w wr) ∧ Hid (tk.length ≤ k) ∧ Hid (pList item fin ts = pItems item fin (k + 1) acc tk) ∧ Hid (acc.length + tk.length ≤ 100000))
    (fun wr => restLen wr pb)
   case atStart => exact ⟨ts1.length, [x], ts1, H2, HG1, HI2, HB2, Nat.le_refl _, HRR, HL0⟩
   case round =>
    obtain ⟨k, acc, tk, HPR, HGK, HIR, HBR, HLE, HEQ, HAL⟩ := hrel
    have HM0 : Hid (restLen wr pb = tk.length) := restLen_of HPR.out
    have hplr : pb < wr.heap.size := HPR.out.lt
    clear HG1 H2 HI2 HB2 HRR HL0 HB1 HI1 H1
    go_wp2_with fail
    refine (met_any HPR.out HGK.out 4 (by decide) sCO).mono ?_
    rintro en Wm ⟨rfl, h, g⟩
    have HBm : Hid (Below pb w Wm) := HBR.out.trans (grown_to_below g (Nat.le_of_lt hplr))
    have HIm : Hid (I acc Wm) := HST.out _ _ _ HIR.out g
    rcases tf (isT 4 sCO tk) with hi | hi
    ·rw [hi] at h ⊢
     rw [if_pos rfl] at h
     have Hm := Lib.hid h
     have Dm := Lib.hid hi
     have HKT : Hid (GoodT tk.tail) := (keep_tail HGK.out (isT_kind hi) (by decide)).1
     have HKL : Hid (tk.tail.length < tk.length) := HGK.out.len
     clear h g hi
     go_wp2_with fail
     refine (HSTEP.out Wm tk.tail acc Hm.out HKT.out HIm.out (by have := HAL.out; omega)).mono ?_
     rintro en Wn hR
     cases hx : item tk.tail with
     | bad a e =>
      rw [hx] at hR
      obtain ⟨rfl, hb⟩ := hR
      exact ⟨rfl, reti_bad (HEQ.out.trans (by rw [pItems_more Dm.out, hx]; rfl)) (HBm.out.trans hb)⟩
     | ok x1 ts' =>
      rw [hx] at hR
      obtain ⟨rfl, h, hi2, hb⟩ := hR
      obtain ⟨hG1, hl1⟩ := hIE _ HKT.out x1 ts' hx
      have HGY := Lib.hid hG1
      have HPz := Lib.hid h
      have HIz := Lib.hid hi2
      have HBz : Hid (Below pb w Wn) := HBm.out.trans hb
      obtain ⟨k1, hk1⟩ : ∃ k1, k = k1 + 1 := ⟨k - 1, by have := HLE.out; have := HKL.out; omega⟩
      have HLE1 : Hid (ts'.length ≤ k1) := by show _ ≤ _; have := HLE.out; have := HKL.out; omega
      have HLT : Hid (ts'.length < tk.length) := by show _ < _; have := HKL.out; omega
      have HEQ1 : Hid (pList item fin ts = pItems item fin (k1 + 1) (acc ++ [x1]) ts') := by show _ = _; rw [HEQ.out, hk1, pItems_more Dm.out, hx]; rfl
      have HAL1 : Hid ((acc ++ [x1]).length + ts'.length ≤ 100000) := by show _ ≤ _; have := HAL.out; have := HKL.out; simp; omega
      have HM1 : Hid (restLen Wn pb = ts'.length) := restLen_of HPz.out
      clear h hi2 hb hG1 hl1 hx hk1
      go_wp2_with fail
      go_roundw
      case rel => exact ⟨k1, acc ++ [x1], ts', HPz, HGY, HIz, HBz, HLE1, HEQ1, HAL1⟩
      case measure => rw [HM1.out, HM0.out]; exact HLT.out
    ·rw [hi] at h ⊢
     rw [if_neg (by simp)] at h
     have Hm := Lib.hid h
     have Dm := Lib.hid hi
     have hplm : pb < Wm.heap.size := h.lt
     clear h g hi
     go_wp2_with fail
     refine (psign_any Hm.out HGK.out fin).mono ?_
     rintro en Wn hR
     cases hx : pSign fin tk with
     | bad a e =>
      rw [hx] at hR
      obtain ⟨rfl, hb⟩ := hR
      exact ⟨rfl, reti_bad (HEQ.out.trans (by rw [pItems_end Dm.out, hx]; rfl)) (HBm.out.trans hb)⟩
     | ok u ts' =>
      rw [hx] at hR
      obtain ⟨hv, h, g⟩ := hR
      have hv2 : en = .returned (.tuple #[]) := hv
      subst hv2
      have HPz := Lib.hid h
      have HIz := Lib.hid (HST.out _ _ _ HIm.out g)
      have HBz : Hid (Below pb w Wn) := HBm.out.trans (grown_to_below g (Nat.le_of_lt hplm))
      have HX := Lib.hid hx
      clear h g hx hv
      go_wp2_with fail
      go_end0
      exact reti_ok (HEQ.out.trans (by rw [pItems_end Dm.out, HX.out]; rfl)) HPz.out HIz.out HBz.out
theorem list_rec {α : Type} {item : List Tok → PR α} (hIE : Eats item) {pb d : Nat} {c0 c1 : Value} {I : List α → World → Prop} (fin : Bs)
 (hst : ∀ (acc : List α) (W W' : World), I acc W → W.grownBy W' (some pb) → I acc W')
 (hstep : ∀ (W : World) (tk : List Tok) (acc : List α), PAt W pb tk d → GoodT tk → I acc W → acc.length ≤ 100000 → Calls Tryz.prog 233 #[c0, c1] W fun en W' => RetI (item tk) W pb d (fun x W' => I (acc ++ [x]) W') en W')
 {w : World} {ts : List Tok} (hP : PAt w pb ts d) (hG : GoodT ts) (hI : I [] w) : Calls Tryz.prog 229 #[.pointer (some ⟨pb, 0, none⟩), .string ⟨fin.toArray⟩, .func (.func 233) #[] #[c0, c1]] w fun en w' => RetI (pList item fin ts) w pb d I en w' := by
 have hpl := hP.lt
 have HP := Lib.hid hP
 have HGD := Lib.hid hG
 have HI := Lib.hid hI
 have HST := Lib.hid hst
 have HSTEP := Lib.hid hstep
 clear hP hG hI hst hstep
 go_enter Tryz.func229, Tryz.ntmps229
 go_wp2_with fail
 refine (met_any HP.out HGD.out 4 (by decide) fin).mono ?_
 rintro en W1 ⟨rfl, h, g⟩
 have HB1 : Hid (Below pb w W1) := grown_to_below g (Nat.le_of_lt hpl)
 have HI1 : Hid (I [] W1) := HST.out _ _ _ HI.out g
 rcases tf (isT 4 fin ts) with hi | hi
 ·rw [hi] at h ⊢
  rw [if_pos rfl] at h
  have H1 := Lib.hid h
  have D1 := Lib.hid hi
  clear h g hi
  go_wp2_with fail
  refine bodyPost_ret (results_none rfl _ _ _) rfl (reti_ok (pList_none D1.out) H1.out HI1.out HB1.out)
 ·rw [hi] at h ⊢
  rw [if_neg (by simp)] at h
  have H1 := Lib.hid h
  have D1 := Lib.hid hi
  clear h g hi
  go_wp2_with fail
  refine (HSTEP.out W1 ts [] H1.out HGD.out HI1.out (by simp)).mono ?_
  rintro en W2 hR
  cases hx : item ts with
  | bad a e =>
   rw [hx] at hR
   obtain ⟨rfl, hb⟩ := hR
   exact ⟨rfl, reti_bad (by rw [pList_some D1.out, hx]; rfl) (HB1.out.trans hb)⟩
  | ok x ts1 =>
   rw [hx] at hR
   obtain ⟨rfl, h, hi2, hb⟩ := hR
   obtain ⟨hG1, hl1⟩ := hIE ts HGD.out x ts1 hx
   have HG1 := Lib.hid hG1
   have H2 := Lib.hid h
   have HI2 : Hid (I [x] W2) := hi2
   have HB2 : Hid (Below pb w W2) := HB1.out.trans hb
   have HRR : Hid (pList item fin ts = pItems item fin (ts1.length + 1) [x] ts1) := by show _ = _; rw [pList_some D1.out, hx]; rfl
   have HL0 : Hid (([x] : List α).length + ts1.length ≤ 100000) := by show _ ≤ _; have := HP.out.len; simp; omega
   clear h hi2 hb hG1 hl1 hx
   go_wp2_with fail
   go_loopw [] (fun wr => ∃ (k : Nat) (acc : List α) (tk : List Tok), Hid (PAt wr pb tk d) ∧ Hid (GoodT tk) ∧ Hid (I acc wr) ∧ Hid (Below pb w wr) ∧ Hid (tk.length ≤ k) ∧ Hid (pList item fin ts = pItems item fin (k + 1) acc tk) ∧ Hid (acc.length + tk.length ≤ 100000))
    (fun wr => restLen wr pb)
   case atStart => exact ⟨ts1.length, [x], ts1, H2, HG1, HI2, HB2, Nat.le_refl _, HRR, HL0⟩
   case round =>
    obtain ⟨k, acc, tk, HPR, HGK, HIR, HBR, HLE, HEQ, HAL⟩ := hrel
    have HM0 : Hid (restLen wr pb = tk.length) := restLen_of HPR.out
    have hplr : pb < wr.heap.size := HPR.out.lt
    clear HG1 H2 HI2 HB2 HRR HL0 HB1 HI1 H1
    go_wp2_with fail
    refine (met_any HPR.out HGK.out 4 (by decide) sCO).mono ?_
    rintro en Wm ⟨rfl, h, g⟩
    have HBm : Hid (Below pb w Wm) := HBR.out.trans (grown_to_below g (Nat.le_of_lt hplr))
    have HIm : Hid (I acc Wm) := HST.out _ _ _ HIR.out g
    rcases tf (isT 4 sCO tk) with hi | hi
    ·rw [hi] at h ⊢
     rw [if_pos rfl] at h
     have Hm := Lib.hid h
     have Dm := Lib.hid hi
     have HKT : Hid (GoodT tk.tail) := (keep_tail HGK.out (isT_kind hi) (by decide)).1
     have HKL : Hid (tk.tail.length < tk.length) := HGK.out.len
     clear h g hi
     go_wp2_with fail
     refine (HSTEP.out Wm tk.tail acc Hm.out HKT.out HIm.out (by have := HAL.out; omega)).mono ?_
     rintro en Wn hR
     cases hx : item tk.tail with
     | bad a e =>
      rw [hx] at hR
      obtain ⟨rfl, hb⟩ := hR
      exact ⟨rfl, reti_bad (HEQ.out.trans (by rw [pItems_more Dm.out, hx]; rfl)) (HBm.out.trans hb)⟩
     | ok x1 ts' =>
      rw [hx] at hR
      obtain ⟨rfl, h, hi2, hb⟩ := hR
      obtain ⟨hG1, hl1⟩ := hIE _ HKT.out x1 ts' hx
      have HGY := Lib.hid hG1
      have HPz := Lib.hid h
      have HIz := Lib.hid hi2
      have HBz : Hid (Below pb w Wn) := HBm.out.trans hb
      obtain ⟨k1, hk1⟩ : ∃ k1, k = k1 + 1 := ⟨k - 1, by have := HLE.out; have := HKL.out; omega⟩
      have HLE1 : Hid (ts'.length ≤ k1) := by show _ ≤ _; have := HLE.out; have := HKL.out; omega
      have HLT : Hid (ts'.length < tk.length) := by show _ < _; have := HKL.out; omega
      have HEQ1 : Hid (pList item fin ts = pItems item fin (k1 + 1) (acc ++ [x1]) ts') := by show _ = _; rw [HEQ.out, hk1, pItems_more Dm.out, hx]; rfl
      have HAL1 : Hid ((acc ++ [x1]).length + ts'.length ≤ 100000) := by show _ ≤ _; have := HAL.out; have := HKL.out; simp; omega
      have HM1 : Hid (restLen Wn pb = ts'.length) := restLen_of HPz.out
      clear h hi2 hb hG1 hl1 hx hk1
      go_wp2_with fail
      go_roundw
      case rel => exact ⟨k1, acc ++ [x1], ts', HPz, HGY, HIz, HBz, HLE1, HEQ1, HAL1⟩
      case measure => rw [HM1.out, HM0.out]; exact HLT.out
    ·rw [hi] at h ⊢
     rw [if_neg (by simp)] at h
     have Hm := Lib.hid h
     have Dm := Lib.hid hi
     have hplm : pb < Wm.heap.size := h.lt
     clear h g hi
     go_wp2_with fail
     refine (psign_any Hm.out HGK.out fin).mono ?_
     rintro en Wn hR
     cases hx : pSign fin tk with
     | bad a e =>
      rw [hx] at hR
      obtain ⟨rfl, hb⟩ := hR
      exact ⟨rfl, reti_bad (HEQ.out.trans (by rw [pItems_end Dm.out, hx]; rfl)) (HBm.out.trans hb)⟩
     | ok u ts' =>
      rw [hx] at hR
      obtain ⟨hv, h, g⟩ := hR
      have hv2 : en = .returned (.tuple #[]) := hv
      subst hv2
      have HPz := Lib.hid h
      have HIz := Lib.hid (HST.out _ _ _ HIm.out g)
      have HBz : Hid (Below pb w Wn) := HBm.out.trans (grown_to_below g (Nat.le_of_lt hplm))
      have HX := Lib.hid hx
      clear h g hx hv
      go_wp2_with fail
      go_end0
      exact reti_ok (HEQ.out.trans (by rw [pItems_end Dm.out, HX.out]; rfl)) HPz.out HIz.out HBz.out
theorem list_with {α : Type} {item : List Tok → PR α} (hIE : Eats item) {pb d : Nat} {c0 c1 : Value} {I : List α → World → Prop} (fin : Bs)
 (hst : ∀ (acc : List α) (W W' : World), I acc W → W.grownBy W' (some pb) → I acc W')
 (hstep : ∀ (W : World) (tk : List Tok) (acc : List α), PAt W pb tk d → GoodT tk → I acc W → acc.length ≤ 100000 → Calls Tryz.prog 230 #[c0, c1] W fun en W' => RetI (item tk) W pb d (fun x W' => I (acc ++ [x]) W') en W')
 {w : World} {ts : List Tok} (hP : PAt w pb ts d) (hG : GoodT ts) (hI : I [] w) : Calls Tryz.prog 229 #[.pointer (some ⟨pb, 0, none⟩), .string ⟨fin.toArray⟩, .func (.func 230) #[] #[c0, c1]] w fun en w' => RetI (pList item fin ts) w pb d I en w' := by
 have hpl := hP.lt
 have HP := Lib.hid hP
 have HGD := Lib.hid hG
 have HI := Lib.hid hI
 have HST := Lib.hid hst
 have HSTEP := Lib.hid hstep
 clear hP hG hI hst hstep
 go_enter Tryz.func229, Tryz.ntmps229
 go_wp2_with fail
 refine (met_any HP.out HGD.out 4 (by decide) fin).mono ?_
 rintro en W1 ⟨rfl, h, g⟩
 have HB1 : Hid (Below pb w W1) := grown_to_below g (Nat.le_of_lt hpl)
 have HI1 : Hid (I [] W1) := HST.out _ _ _ HI.out g
 rcases tf (isT 4 fin ts) with hi | hi
 ·rw [hi] at h ⊢
  rw [if_pos rfl] at h
  have H1 := Lib.hid h
  have D1 := Lib.hid hi
  clear h g hi
  go_wp2_with fail
  refine bodyPost_ret (results_none rfl _ _ _) rfl (reti_ok (pList_none D1.out) H1.out HI1.out HB1.out)
 ·rw [hi] at h ⊢
  rw [if_neg (by simp)] at h
  have H1 := Lib.hid h
  have D1 := Lib.hid hi
  clear h g hi
  go_wp2_with fail
  refine (HSTEP.out W1 ts [] H1.out HGD.out HI1.out (by simp)).mono ?_
  rintro en W2 hR
  cases hx : item ts with
  | bad a e =>
   rw [hx] at hR
   obtain ⟨rfl, hb⟩ := hR
   exact ⟨rfl, reti_bad (by rw [pList_some D1.out, hx]; rfl) (HB1.out.trans hb)⟩
  | ok x ts1 =>
   rw [hx] at hR
   obtain ⟨rfl, h, hi2, hb⟩ := hR
   obtain ⟨hG1, hl1⟩ := hIE ts HGD.out x ts1 hx
   have HG1 := Lib.hid hG1
   have H2 := Lib.hid h
   have HI2 : Hid (I [x] W2) := hi2
   have HB2 : Hid (Below pb w W2) := HB1.out.trans hb
   have HRR : Hid (pList item fin ts = pItems item fin (ts1.length + 1) [x] ts1) := by show _ = _; rw [pList_some D1.out, hx]; rfl
   have HL0 : Hid (([x] : List α).length + ts1.length ≤ 100000) := by show _ ≤ _; have := HP.out.len; simp; omega
   clear h hi2 hb hG1 hl1 hx
   go_wp2_with fail
   go_loopw [] (fun wr => ∃ (k : Nat) (acc : List α) (tk : List Tok), Hid (PAt wr pb tk d) ∧ Hid (GoodT tk) ∧ Hid (I acc wr) ∧ Hid (Below pb w wr) ∧ Hid (tk.length ≤ k) ∧ Hid (pList item fin ts = pItems item fin (k + 1) acc tk) ∧ Hid (acc.length + tk.length ≤ 100000))
    (fun wr => restLen wr pb)
   case atStart => exact ⟨ts1.length, [x], ts1, H2, HG1, HI2, HB2, Nat.le_refl _, HRR, HL0⟩
   case round =>
    obtain ⟨k, acc, tk, HPR, HGK, HIR, HBR, HLE, HEQ, HAL⟩ := hrel
    have HM0 : Hid (restLen wr pb = tk.length) := restLen_of HPR.out
    have hplr : pb < wr.heap.size := HPR.out.lt
    clear HG1 H2 HI2 HB2 HRR HL0 HB1 HI1 H1
    go_wp2_with fail
    refine (met_any HPR.out HGK.out 4 (by decide) sCO).mono ?_
    rintro en Wm ⟨rfl, h, g⟩
    have HBm : Hid (Below pb w Wm) := HBR.out.trans (grown_to_below g (Nat.le_of_lt hplr))
    have HIm : Hid (I acc Wm) := HST.out _ _ _ HIR.out g
    rcases tf (isT 4 sCO tk) with hi | hi
    ·rw [hi] at h ⊢
     rw [if_pos rfl] at h
     have Hm := Lib.hid h
     have Dm := Lib.hid hi
     have HKT : Hid (GoodT tk.tail) := (keep_tail HGK.out (isT_kind hi) (by decide)).1
     have HKL : Hid (tk.tail.length < tk.length) := HGK.out.len
     clear h g hi
     go_wp2_with fail
     refine (HSTEP.out Wm tk.tail acc Hm.out HKT.out HIm.out (by have := HAL.out; omega)).mono ?_
     rintro en Wn hR
     cases hx : item tk.tail with
     | bad a e =>
      rw [hx] at hR
      obtain ⟨rfl, hb⟩ := hR
      exact ⟨rfl, reti_bad (HEQ.out.trans (by rw [pItems_more Dm.out, hx]; rfl)) (HBm.out.trans hb)⟩
     | ok x1 ts' =>
      rw [hx] at hR
      obtain ⟨rfl, h, hi2, hb⟩ := hR
      obtain ⟨hG1, hl1⟩ := hIE _ HKT.out x1 ts' hx
      have HGY := Lib.hid hG1
      have HPz := Lib.hid h
      have HIz := Lib.hid hi2
      have HBz : Hid (Below pb w Wn) := HBm.out.trans hb
      obtain ⟨k1, hk1⟩ : ∃ k1, k = k1 + 1 := ⟨k - 1, by have := HLE.out; have := HKL.out; omega⟩
      have HLE1 : Hid (ts'.length ≤ k1) := by show _ ≤ _; have := HLE.out; have := HKL.out; omega
      have HLT : Hid (ts'.length < tk.length) := by show _ < _; have := HKL.out; omega
      have HEQ1 : Hid (pList item fin ts = pItems item fin (k1 + 1) (acc ++ [x1]) ts') := by show _ = _; rw [HEQ.out, hk1, pItems_more Dm.out, hx]; rfl
      have HAL1 : Hid ((acc ++ [x1]).length + ts'.length ≤ 100000) := by show _ ≤ _; have := HAL.out; have := HKL.out; simp; omega
      have HM1 : Hid (restLen Wn pb = ts'.length) := restLen_of HPz.out
      clear h hi2 hb hG1 hl1 hx hk1
      go_wp2_with fail
      go_roundw
      case rel => exact ⟨k1, acc ++ [x1], ts', HPz, HGY, HIz, HBz, HLE1, HEQ1, HAL1⟩
      case measure => rw [HM1.out, HM0.out]; exact HLT.out
    ·rw [hi] at h ⊢
     rw [if_neg (by simp)] at h
     have Hm := Lib.hid h
     have Dm := Lib.hid hi
     have hplm : pb < Wm.heap.size := h.lt
     clear h g hi
     go_wp2_with fail
     refine (psign_any Hm.out HGK.out fin).mono ?_
     rintro en Wn hR
     cases hx : pSign fin tk with
     | bad a e =>
      rw [hx] at hR
      obtain ⟨rfl, hb⟩ := hR
      exact ⟨rfl, reti_bad (HEQ.out.trans (by rw [pItems_end Dm.out, hx]; rfl)) (HBm.out.trans hb)⟩
     | ok u ts' =>
      rw [hx] at hR
      obtain ⟨hv, h, g⟩ := hR
      have hv2 : en = .returned (.tuple #[]) := hv
      subst hv2
      have HPz := Lib.hid h
      have HIz := Lib.hid (HST.out _ _ _ HIm.out g)
      have HBz : Hid (Below pb w Wn) := HBm.out.trans (grown_to_below g (Nat.le_of_lt hplm))
      have HX := Lib.hid hx
      clear h g hx hv
      go_wp2_with fail
      go_end0
      exact reti_ok (HEQ.out.trans (by rw [pItems_end Dm.out, HX.out]; rfl)) HPz.out HIz.out HBz.out
end Go.Proofs.YtenfphbhofibjaaGreatDoor
namespace Go.Proofs.YtenfphbhofibjaaGreatDoor
open Go.RowKit LM TM PM
theorem blk_new30 {W W' : World} {pb : Nat} {o p q : Obj} (hg : (((W.alloc o).alloc p).alloc q).grownBy W' (some pb)) (hp : pb < W.heap.size) : W'.heap[W.heap.size]? = some o := by
 rw [hg.block _ (by first | (simp; done) | (simp; omega)) (by first | (simp; done) | (simp; omega)), Below.heap_alloc _ _ _ (by first | (simp; done) | (simp; omega)), Below.heap_alloc _ _ _ (by first | (simp; done) | (simp; omega))]
 exact heap_alloc_new _ _
theorem blk_new31 {W W' : World} {pb : Nat} {o p q : Obj} (hg : (((W.alloc o).alloc p).alloc q).grownBy W' (some pb)) (hp : pb < W.heap.size) : W'.heap[W.heap.size + 1]? = some p := by
 have h1 : W.heap.size + 1 = (W.alloc o).heap.size := by simp
 rw [h1, hg.block _ (by first | (simp; done) | (simp; omega)) (by first | (simp; done) | (simp; omega)), Below.heap_alloc _ _ _ (by first | (simp; done) | (simp; omega))]
 exact heap_alloc_new _ _
theorem blk_new32 {W W' : World} {pb : Nat} {o p q : Obj} (hg : (((W.alloc o).alloc p).alloc q).grownBy W' (some pb)) (hp : pb < W.heap.size) : W'.heap[W.heap.size + 2]? = some q := by
 have h1 : W.heap.size + 2 = ((W.alloc o).alloc p).heap.size := by simp
 rw [h1, hg.block _ (by first | (simp; done) | (simp; omega)) (by first | (simp; done) | (simp; omega))]
 exact heap_alloc_new _ _
def twoO (pb g1 g2 : Nat) (k : Nat) : Option Obj := if k = g1 then some (.cells #[.pointer (some ⟨pb, 0, none⟩)] 138 (0, 0)) else if k = g2 then some (.cells #[.int .i64 0, .int .i64 0, .string ⟨#[]⟩, .slice none 0 0, .slice none 0 0, .slice none 0 0] 35 (0, 0)) else none
theorem twoO_1 (pb g1 g2 : Nat) : twoO pb g1 g2 g1 = some (.cells #[.pointer (some ⟨pb, 0, none⟩)] 138 (0, 0)) := by simp [twoO]
theorem twoO_2 (pb g1 g2 : Nat) (h : g2 ≠ g1) : twoO pb g1 g2 g2 = some (.cells #[.int .i64 0, .int .i64 0, .string ⟨#[]⟩, .slice none 0 0, .slice none 0 0, .slice none 0 0] 35 (0, 0)) := by simp [twoO, h]
theorem twoO_of {pb g1 g2 k : Nat} {o : Obj} (h : twoO pb g1 g2 k = some o) : k = g1 ∧ o = .cells #[.pointer (some ⟨pb, 0, none⟩)] 138 (0, 0) ∨ k = g2 ∧ o = .cells #[.int .i64 0, .int .i64 0, .string ⟨#[]⟩, .slice none 0 0, .slice none 0 0, .slice none 0 0] 35 (0, 0) := by
 unfold twoO at h
 split at h
 ·cases h; exact .inl ⟨by assumption, rfl⟩
 ·split at h
  ·cases h; exact .inr ⟨by assumption, rfl⟩
  ·cases h
theorem reti_cases {α : Type} {r : PR α} {w w' : World} {pb d : Nat} {I : α → World → Prop} {en : Ending} (h : RetI r w pb d I en w') : (∃ x ts', r = .ok x ts' ∧ en = .returned (.tuple #[]) ∧ PAt w' pb ts' d ∧ I x w' ∧ Below pb w w') ∨ ∃ a e, r = .bad a e ∧ en = .panicked (chainF a e) ∧ Below pb w w' := by
 cases r with
 | ok x ts => exact .inl ⟨x, ts, rfl, h.1, h.2.1, h.2.2.1, h.2.2.2⟩
 | bad a e => exact .inr ⟨a, e, rfl, h.1, h.2⟩
theorem function_ok {pb d : Nat} {B : List Tok → PR (List TS)} (hOB : OkB pb d B) (hB : Eats B) : ∀ (w : World) (ts : List Tok), PAt w pb ts d → GoodT ts → Calls Tryz.prog 227 #[.pointer (some ⟨pb, 0, none⟩)] w fun en w' => Ret (pFunction B ts) w pb d (VE w) en w' := by
 intro w ts hP hG
 have hpl := hP.lt
 have HP := Lib.hid hP
 have HGD := Lib.hid hG
 clear hP hG
 go_enter Tryz.func227, Tryz.ntmps227
 go_wp2_with fail
 refine (psign_any (((HP.out.alloc _).alloc _).alloc _) HGD.out sLP).mono ?_
 rintro en W1 hR
 cases hx : pSign sLP ts with
 | bad a e =>
  rw [hx] at hR
  obtain ⟨rfl, hb⟩ := hR
  exact ⟨rfl, ret_bad (by simp only [pFunction, PR.bind, hx, PR.bind, ↓reduceIte, Bool.false_eq_true]) ((grown_to_below (gr_alloc (gr_alloc (gr_alloc (gr_refl _ _) _) _) _) (Nat.le_of_lt hpl)).trans hb)⟩
 | ok x1 ts1 =>
  rw [hx] at hR
  have K1 : Hid (GoodT ts1) := ((eats_sign sLP) _ HGD.out _ _ hx).1
  obtain ⟨hv, h, g⟩ := hR
  have hv2 : en = .returned (.tuple #[]) := hv
  subst hv2
  clear hv
  have X1 := Lib.hid hx
  clear hx
  have H1 := Lib.hid h
  have G1 : Hid (w.grownBy W1 (some pb)) := gr_trans (gr_alloc (gr_alloc (gr_alloc (gr_refl _ _) _) _) _) g
  have hs1 : w.heap.size ≤ W1.heap.size := G1.out.size
  have hm1 : w.heap.size + 3 ≤ W1.heap.size := by have := g.size; simpa using this
  have B1_0 : Hid (W1.heap[w.heap.size]? = some (.cells #[.pointer (some ⟨pb, 0, none⟩)] 138 (0, 0))) := blk_new30 g (by omega)
  have B1_1 : Hid (W1.heap[w.heap.size + 1]? = some (.cells #[.int .i64 0, .int .i64 0, .string ⟨#[]⟩, .slice none 0 0, .slice none 0 0, .slice none 0 0] 35 (0, 0))) := blk_new31 g (by omega)
  have B1_2 : Hid (W1.heap[w.heap.size + 2]? = some (.cells #[.int .i64 17, .int .i64 0, .string ⟨#[]⟩, .slice none 0 0, .slice none 0 0, .slice none 0 0] 35 (0, 0))) := blk_new32 g (by omega)
  clear h g
  have c9 : W1.cell? ⟨w.heap.size, 0, none⟩ = some (.pointer (some ⟨pb, 0, none⟩)) := by have h9 := B1_0.out; simp [World.cell?, h9]
  have hl9 : w.heap.size < W1.heap.size := lt_of_block B1_0.out
  have hgx : w.heap.size + 2 < W1.heap.size := lt_of_block B1_2.out
  go_wp2_with fail
  refine (list_fn (item := pName) eats_name (pb := pb) (d := d) (c0 := .pointer (some ⟨w.heap.size + 2, 0, none⟩)) (c1 := .pointer (some ⟨w.heap.size, 0, none⟩)) (I := (fun acc W => ∃ v cs, BoxI (XNs acc) 9 1 35 (twoO pb (w.heap.size) (w.heap.size + 1)) bcF w pb (w.heap.size + 2) (w.heap.size) (w.heap.size + 3) acc.length W v cs)) sRP ?hst ?hstep H1.out K1.out ⟨.slice none 0 0, [], B1_2.out, fun k o hk => by rcases twoO_of hk with ⟨rfl, rfl⟩ | ⟨rfl, rfl⟩; exact B1_0.out; exact B1_1.out, RowG.nil_N _ _, G1.out⟩).mono ?_
  case hst =>
   rintro acc W W' ⟨v, cs, hI⟩ hg
   exact ⟨v, cs, hI.step (stab_XNs _) hg hpl (by omega) (fun k o hk => by rcases twoO_of hk with ⟨rfl, _⟩ | ⟨rfl, _⟩ <;> omega) (by omega)⟩
  case hstep =>
   rintro W tk acc hP9 hG9 ⟨v, cs, hI⟩ hn9
   refine (fnclo_ok hI hP9 hG9 hpl (by omega) (fun k o hk => by rcases twoO_of hk with ⟨rfl, _⟩ | ⟨rfl, _⟩ <;> omega) (twoO_1 _ _ _) (by omega) (by have := lt_of_block hI.box; omega) hn9).mono ?_
   rintro en WQ hR
   rcases reti_cases hR with ⟨x, ts', q1, rfl, q2, ⟨v9, cs9, hB9⟩, q4⟩ | ⟨a, e, q1, rfl, q2⟩
   ·exact reti_ok q1 q2 ⟨v9, cs9, by simpa using hB9⟩ q4
   ·exact reti_bad q1 q2
  rintro en W2 hR
  rcases reti_cases hR with ⟨l9, tsl, q1, rfl, q2, ⟨v9, cs9, hB9⟩, q4⟩ | ⟨a, e, q1, rfl, q2⟩
  ·have HQ1 := Lib.hid q1
   have HP2 := Lib.hid q2
   have HB9 := Lib.hid hB9
   have HGl : Hid (GoodT tsl) := (eats_list eats_name sRP _ K1.out _ _ q1).1
   obtain ⟨va, vc, hva, _⟩ := row_shape hB9.row.own
   subst hva
   have hgx2 : w.heap.size + 2 < W2.heap.size := lt_of_block hB9.box
   have BP : Hid (W2.heap[w.heap.size]? = some (.cells #[.pointer (some ⟨pb, 0, none⟩)] 138 (0, 0))) := hB9.oth _ _ (twoO_1 _ _ _)
   have BZ : Hid (W2.heap[w.heap.size + 1]? = some (.cells #[.int .i64 0, .int .i64 0, .string ⟨#[]⟩, .slice none 0 0, .slice none 0 0, .slice none 0 0] 35 (0, 0))) := hB9.oth _ _ (twoO_2 _ _ _ (by omega))
   have BX : Hid (W2.heap[w.heap.size + 2]? = some (.cells #[.int .i64 17, .int .i64 0, .string ⟨#[]⟩, .slice none 0 0, .slice va l9.length vc, .slice none 0 0] 35 (0, 0))) := hB9.box
   clear hR q1 q2 q4 hB9
   have G2 : Hid (w.grownBy W2 (some pb)) := HB9.out.gr
   have c9 : W2.cell? ⟨w.heap.size, 0, none⟩ = some (.pointer (some ⟨pb, 0, none⟩)) := by have h9 := BP.out; simp [World.cell?, h9]
   have LR := Lib.hid (HB9.out.row.lie_N rfl (by omega))
   go_wp2_with fail
   refine (hOB _ _ HP2.out HGl.out).mono ?_
   rintro en W3 hR
   cases hx : B tsl with
   | bad a e =>
    rw [hx] at hR
    obtain ⟨rfl, hb⟩ := hR
    exact ⟨rfl, ret_bad (by simp only [pFunction, PR.bind, X1.out, HQ1.out, hx, PR.bind, ↓reduceIte, Bool.false_eq_true]) ((grown_to_below (G2.out) (Nat.le_of_lt hpl)).trans hb)⟩
   | ok x3 ts3 =>
    rw [hx] at hR
    have K3 : Hid (GoodT ts3) := (hB _ HGl.out _ _ hx).1
    obtain ⟨⟨va, rfl, hL⟩, h, g⟩ := hR
    obtain ⟨pa3, pc3, rfl, _⟩ := hL.at'
    have X3 := Lib.hid hx
    clear hx
    have hL2 := Lib.hid hL
    clear hL
    have H3 := Lib.hid h
    have G3 : Hid (w.grownBy W3 (some pb)) := gr_trans (G2.out) g
    have hs3 : w.heap.size ≤ W3.heap.size := G3.out.size
    have hm3 : W2.heap.size + 0 ≤ W3.heap.size := by have := g.size; simpa using this
    have B3_0 : Hid (W3.heap[w.heap.size]? = some (.cells #[.pointer (some ⟨pb, 0, none⟩)] 138 (0, 0))) := blk_next BP.out (Below.refl _ _) g (by omega)
    have B3_1 : Hid (W3.heap[w.heap.size + 1]? = some (.cells #[.int .i64 0, .int .i64 0, .string ⟨#[]⟩, .slice none 0 0, .slice none 0 0, .slice none 0 0] 35 (0, 0))) := blk_next BZ.out (Below.refl _ _) g (by omega)
    have B3_2 : Hid (W3.heap[w.heap.size + 2]? = some (.cells #[.int .i64 17, .int .i64 0, .string ⟨#[]⟩, .slice none 0 0, .slice va l9.length vc, .slice none 0 0] 35 (0, 0))) := blk_next BX.out (Below.refl _ _) g (by omega)
    have L3_0 : Hid (Lie (RN (.slice va l9.length vc) l9) (w.heap.size + 3) W2.heap.size W3) := (LR.out).gr g (by omega)
    clear h g BP BZ BX LR
    have L3_1 : Hid (Lie (RS (.slice pa3 x3.length pc3) x3) (W2.heap.size) W3.heap.size W3) := hL2
    clear hL2
    have qh := B3_2.out
    have q0 : W3.cell? ⟨w.heap.size + 2, 0, none⟩ = some (.int .i64 17) := by simp [World.cell?, qh]
    have q1 : W3.cell? ⟨w.heap.size + 2, 1, none⟩ = some (.int .i64 0) := by simp [World.cell?, qh]
    have q2 : W3.cell? ⟨w.heap.size + 2, 2, none⟩ = some (.string ⟨#[]⟩) := by simp [World.cell?, qh]
    have q3 : W3.cell? ⟨w.heap.size + 2, 3, none⟩ = some (.slice none 0 0) := by simp [World.cell?, qh]
    have q4 : W3.cell? ⟨w.heap.size + 2, 4, none⟩ = some (.slice va l9.length vc) := by simp [World.cell?, qh]
    have q5 : W3.cell? ⟨w.heap.size + 2, 5, none⟩ = some (.slice none 0 0) := by simp [World.cell?, qh]
    have qf : ∀ i, W3.frozen? ⟨w.heap.size + 2, i, none⟩ = false := fun i => by simp [World.frozen?, qh]
    have ql : w.heap.size + 2 < W3.heap.size := lt_of_block qh
    clear qh
    have rh := B3_1.out
    have r0 : W3.cell? ⟨w.heap.size + 1, 0, none⟩ = some (.int .i64 0) := by simp [World.cell?, rh]
    have r1 : W3.cell? ⟨w.heap.size + 1, 1, none⟩ = some (.int .i64 0) := by simp [World.cell?, rh]
    have r2 : W3.cell? ⟨w.heap.size + 1, 2, none⟩ = some (.string ⟨#[]⟩) := by simp [World.cell?, rh]
    have r3 : W3.cell? ⟨w.heap.size + 1, 3, none⟩ = some (.slice none 0 0) := by simp [World.cell?, rh]
    have r4 : W3.cell? ⟨w.heap.size + 1, 4, none⟩ = some (.slice none 0 0) := by simp [World.cell?, rh]
    have r5 : W3.cell? ⟨w.heap.size + 1, 5, none⟩ = some (.slice none 0 0) := by simp [World.cell?, rh]
    have rf : ∀ i, W3.frozen? ⟨w.heap.size + 1, i, none⟩ = false := fun i => by simp [World.frozen?, rh]
    have rl : w.heap.size + 1 < W3.heap.size := lt_of_block rh
    clear rh
    go_wp2_with fail
    have H4 : Hid (PAt (W3.setCell ⟨w.heap.size + 2, 5, none⟩ (.slice pa3 x3.length pc3)) pb ts3 d) := H3.out.other (by omega)
    have G4 : Hid (w.grownBy (W3.setCell ⟨w.heap.size + 2, 5, none⟩ (.slice pa3 x3.length pc3)) (some pb)) := gr_new G3.out (by omega) _ _
    have hz4 : (W3.setCell ⟨w.heap.size + 2, 5, none⟩ (.slice pa3 x3.length pc3)).heap.size = W3.heap.size := by simp [World.setCell]
    have B4_0 : Hid ((W3.setCell ⟨w.heap.size + 2, 5, none⟩ (.slice pa3 x3.length pc3)).heap[w.heap.size]? = some (.cells #[.pointer (some ⟨pb, 0, none⟩)] 138 (0, 0))) := (Below.heap_setCell _ _ _ _ (by show w.heap.size ≠ w.heap.size + 2; omega)).trans B3_0.out
    have B4_1 : Hid ((W3.setCell ⟨w.heap.size + 2, 5, none⟩ (.slice pa3 x3.length pc3)).heap[w.heap.size + 1]? = some (.cells #[.int .i64 0, .int .i64 0, .string ⟨#[]⟩, .slice none 0 0, .slice none 0 0, .slice none 0 0] 35 (0, 0))) := (Below.heap_setCell _ _ _ _ (by show w.heap.size + 1 ≠ w.heap.size + 2; omega)).trans B3_1.out
    have B4_2 : Hid ((W3.setCell ⟨w.heap.size + 2, 5, none⟩ (.slice pa3 x3.length pc3)).heap[w.heap.size + 2]? = some (.cells #[.int .i64 17, .int .i64 0, .string ⟨#[]⟩, .slice none 0 0, .slice va l9.length vc, .slice pa3 x3.length pc3] 35 (0, 0))) := blk_set B3_2.out
    have L4_0 : Hid (Lie (RN (.slice va l9.length vc) l9) (w.heap.size + 3) W2.heap.size (W3.setCell ⟨w.heap.size + 2, 5, none⟩ (.slice pa3 x3.length pc3))) := L3_0.out.keep (by simp [World.setCell]) fun k h1 h2 => Below.heap_setCell _ _ _ _ (by show k ≠ w.heap.size + 2; omega)
    have L4_1 : Hid (Lie (RS (.slice pa3 x3.length pc3) x3) (W2.heap.size) W3.heap.size (W3.setCell ⟨w.heap.size + 2, 5, none⟩ (.slice pa3 x3.length pc3))) := L3_1.out.keep (by simp [World.setCell]) fun k h1 h2 => Below.heap_setCell _ _ _ _ (by show k ≠ w.heap.size + 2; omega)
    clear B3_0 B3_1 B3_2 L3_0 L3_1
    obtain ⟨y0, y1, y2, y3, y4, y5⟩ := six7_cell (a := .int .i64 17) (b := .int .i64 0) (c := .string ⟨#[]⟩) (d := .slice none 0 0) (e := .slice va l9.length vc) (f := .slice pa3 x3.length pc3) B4_1.out
    have hsz9 : (six7 (W3.setCell ⟨w.heap.size + 2, 5, none⟩ (.slice pa3 x3.length pc3)) (w.heap.size + 1) (.int .i64 17) (.int .i64 0) (.string ⟨#[]⟩) (.slice none 0 0) (.slice va l9.length vc) (.slice pa3 x3.length pc3)).heap.size = (W3.setCell ⟨w.heap.size + 2, 5, none⟩ (.slice pa3 x3.length pc3)).heap.size := six7_size
    have f1 : PAt (six7 (W3.setCell ⟨w.heap.size + 2, 5, none⟩ (.slice pa3 x3.length pc3)) (w.heap.size + 1) (.int .i64 17) (.int .i64 0) (.string ⟨#[]⟩) (.slice none 0 0) (.slice va l9.length vc) (.slice pa3 x3.length pc3)) pb ts3 d := six_pat H4.out (by omega)
    have f2 : w.grownBy (six7 (W3.setCell ⟨w.heap.size + 2, 5, none⟩ (.slice pa3 x3.length pc3)) (w.heap.size + 1) (.int .i64 17) (.int .i64 0) (.string ⟨#[]⟩) (.slice none 0 0) (.slice va l9.length vc) (.slice pa3 x3.length pc3)) (some pb) := six_gr (G4.out) (by omega)
    have f3_0 : Lie (RN (.slice va l9.length vc) l9) (w.heap.size + 3) W2.heap.size (six7 (W3.setCell ⟨w.heap.size + 2, 5, none⟩ (.slice pa3 x3.length pc3)) (w.heap.size + 1) (.int .i64 17) (.int .i64 0) (.string ⟨#[]⟩) (.slice none 0 0) (.slice va l9.length vc) (.slice pa3 x3.length pc3)) := six_lie L4_0.out (by omega)
    have f3_1 : Lie (RS (.slice pa3 x3.length pc3) x3) (W2.heap.size) W3.heap.size (six7 (W3.setCell ⟨w.heap.size + 2, 5, none⟩ (.slice pa3 x3.length pc3)) (w.heap.size + 1) (.int .i64 17) (.int .i64 0) (.string ⟨#[]⟩) (.slice none 0 0) (.slice va l9.length vc) (.slice pa3 x3.length pc3)) := six_lie L4_1.out (by omega)
    have f5_0 : (six7 (W3.setCell ⟨w.heap.size + 2, 5, none⟩ (.slice pa3 x3.length pc3)) (w.heap.size + 1) (.int .i64 17) (.int .i64 0) (.string ⟨#[]⟩) (.slice none 0 0) (.slice va l9.length vc) (.slice pa3 x3.length pc3)).heap[w.heap.size]? = some (.cells #[.pointer (some ⟨pb, 0, none⟩)] 138 (0, 0)) := (six7_other (by omega)).trans B4_0.out
    have f5_2 : (six7 (W3.setCell ⟨w.heap.size + 2, 5, none⟩ (.slice pa3 x3.length pc3)) (w.heap.size + 1) (.int .i64 17) (.int .i64 0) (.string ⟨#[]⟩) (.slice none 0 0) (.slice va l9.length vc) (.slice pa3 x3.length pc3)).heap[w.heap.size + 2]? = some (.cells #[.int .i64 17, .int .i64 0, .string ⟨#[]⟩, .slice none 0 0, .slice va l9.length vc, .slice pa3 x3.length pc3] 35 (0, 0)) := (six7_other (by omega)).trans B4_2.out
    obtain ⟨WF, hWF⟩ : ∃ WF, six7 (W3.setCell ⟨w.heap.size + 2, 5, none⟩ (.slice pa3 x3.length pc3)) (w.heap.size + 1) (.int .i64 17) (.int .i64 0) (.string ⟨#[]⟩) (.slice none 0 0) (.slice va l9.length vc) (.slice pa3 x3.length pc3) = WF := ⟨_, rfl⟩
    rw [hWF] at y0 y1 y2 y3 y4 y5 hsz9 f1 f2 f3_0 f3_1 f5_0 f5_2
    unfold six7 at hWF
    rw [hWF]
    clear hWF
    have f4 : Lie (XE (.mk 17 0 ⟨#[]⟩ [] l9 x3) (.slice none 0 0) (.slice va l9.length vc) (.slice pa3 x3.length pc3)) w.heap.size WF.heap.size WF := fn_lie (f3_0.wider (by omega) f3_0.lt (Nat.le_refl _)) (f3_1.wider (by omega) f3_1.lt (Nat.le_refl _))
    have HF := Lib.hid f4
    clear f4 f3_0 f3_1 f5_0 f5_2
    refine bodyPost_ret (v := exV (.mk 17 0 ⟨#[]⟩ [] l9 x3) (.slice none 0 0) (.slice va l9.length vc) (.slice pa3 x3.length pc3)) (by simp [results, Tryz.results227, go_sem, exV, y0, y1, y2, y3, y4, y5, hsz9]) rfl (ret_ok (x := (.mk 17 0 ⟨#[]⟩ [] l9 x3)) (by simp only [pFunction, PR.bind, X1.out, HQ1.out, X3.out, PR.bind, ↓reduceIte, Bool.false_eq_true]) ⟨_, _, _, rfl, HF.out⟩ f1 f2)
  ·exact ⟨rfl, ret_bad (by simp only [pFunction, X1.out, q1, PR.bind]) ((grown_to_below G1.out (Nat.le_of_lt hpl)).trans q2)⟩
theorem record_ok {pb d : Nat} {E : List Tok → PR TE} (hOE : OkE pb d E) (hE : Eats E) : ∀ (w : World) (ts : List Tok), PAt w pb ts d → GoodT ts → Calls Tryz.prog 228 #[.pointer (some ⟨pb, 0, none⟩)] w fun en w' => Ret (pRecord E ts) w pb d (VE w) en w' := by
 intro w ts hP hG
 have hpl := hP.lt
 have HP := Lib.hid hP
 have HGD := Lib.hid hG
 clear hP hG
 go_enter Tryz.func228, Tryz.ntmps228
 go_wp2_with fail
 obtain ⟨W1, hW1⟩ : ∃ W1, (((w.alloc (.cells #[.pointer (some ⟨pb, 0, none⟩)] 138)).alloc (.cells #[.int .i64 0, .int .i64 0, .string ⟨#[]⟩, .slice none 0 0, .slice none 0 0, .slice none 0 0] 35)).alloc (.cells #[.int .i64 16, .int .i64 0, .string ⟨#[]⟩, .slice none 0 0, .slice none 0 0, .slice none 0 0] 35)) = W1 := ⟨_, rfl⟩
 have g9 : (((w.alloc (.cells #[.pointer (some ⟨pb, 0, none⟩)] 138)).alloc (.cells #[.int .i64 0, .int .i64 0, .string ⟨#[]⟩, .slice none 0 0, .slice none 0 0, .slice none 0 0] 35)).alloc (.cells #[.int .i64 16, .int .i64 0, .string ⟨#[]⟩, .slice none 0 0, .slice none 0 0, .slice none 0 0] 35)).grownBy W1 (some pb) := by rw [hW1]; exact gr_refl _ _
 rw [hW1]
 have H1 : Hid (PAt W1 pb ts d) := by show PAt _ _ _ _; rw [← hW1]; exact ((HP.out.alloc _).alloc _).alloc _
 have G1 : Hid (w.grownBy W1 (some pb)) := by show World.grownBy _ _ _; rw [← hW1]; exact gr_alloc (gr_alloc (gr_alloc (gr_refl _ _) _) _) _
 have B0 : Hid (W1.heap[w.heap.size]? = some (.cells #[.pointer (some ⟨pb, 0, none⟩)] 138 (0, 0))) := blk_new30 g9 hpl
 have B1 : Hid (W1.heap[w.heap.size + 1]? = some (.cells #[.int .i64 0, .int .i64 0, .string ⟨#[]⟩, .slice none 0 0, .slice none 0 0, .slice none 0 0] 35 (0, 0))) := blk_new31 g9 hpl
 have B2 : Hid (W1.heap[w.heap.size + 2]? = some (.cells #[.int .i64 16, .int .i64 0, .string ⟨#[]⟩, .slice none 0 0, .slice none 0 0, .slice none 0 0] 35 (0, 0))) := blk_new32 g9 hpl
 clear g9 hW1
 have hgx : w.heap.size + 2 < W1.heap.size := lt_of_block B2.out
 refine (list_rec (item := (pField E)) (eats_field hE) (pb := pb) (d := d) (c0 := .pointer (some ⟨w.heap.size + 2, 0, none⟩)) (c1 := .pointer (some ⟨w.heap.size, 0, none⟩)) (I := (fun acc W => ∃ v cs, BoxI (XEs (flat2 acc)) 35 6 35 (twoO pb (w.heap.size) (w.heap.size + 1)) bcR w pb (w.heap.size + 2) (w.heap.size) (w.heap.size + 3) (flat2 acc).length W v cs)) sRB ?hst ?hstep H1.out HGD.out ⟨.slice none 0 0, [], B2.out, fun k o hk => by rcases twoO_of hk with ⟨rfl, rfl⟩ | ⟨rfl, rfl⟩; exact B0.out; exact B1.out, RowG.nil_E _ _, G1.out⟩).mono ?_
 case hst =>
  rintro acc W W' ⟨v, cs, hI⟩ hg
  exact ⟨v, cs, hI.step (stab_XEs _) hg hpl (by omega) (fun k o hk => by rcases twoO_of hk with ⟨rfl, _⟩ | ⟨rfl, _⟩ <;> omega) (by omega)⟩
 case hstep =>
  rintro W tk acc hP9 hG9 ⟨v, cs, hI⟩ hn9
  refine (recclo_ok hOE hE hI hP9 hG9 hpl (by omega) (fun k o hk => by rcases twoO_of hk with ⟨rfl, _⟩ | ⟨rfl, _⟩ <;> omega) (twoO_1 _ _ _) (by omega) (by have := lt_of_block hI.box; omega) hn9).mono ?_
  rintro en WQ hR
  rcases reti_cases hR with ⟨x, ts', q1, rfl, q2, ⟨v9, cs9, hB9⟩, q4⟩ | ⟨a, e, q1, rfl, q2⟩
  ·exact reti_ok q1 q2 ⟨v9, cs9, by rw [show (flat2 (acc ++ [x])).length = (flat2 acc).length + 2 from by rw [flat2_snoc]; simp]; exact hB9⟩ q4
  ·exact reti_bad q1 q2
 rintro en W2 hR
 rcases reti_cases hR with ⟨l9, tsl, q1, rfl, q2, ⟨v9, cs9, hB9⟩, q4⟩ | ⟨a, e, q1, rfl, q2⟩
 ·have HQ1 := Lib.hid q1
  have HP2 := Lib.hid q2
  have HB9 := Lib.hid hB9
  have HGl : Hid (GoodT tsl) := (eats_list (eats_field hE) sRB _ HGD.out _ _ q1).1
  obtain ⟨va, vc, hva, _⟩ := row_shape hB9.row.own
  subst hva
  have hgx2 : w.heap.size + 2 < W2.heap.size := lt_of_block hB9.box
  have BP : Hid (W2.heap[w.heap.size]? = some (.cells #[.pointer (some ⟨pb, 0, none⟩)] 138 (0, 0))) := hB9.oth _ _ (twoO_1 _ _ _)
  have BZ : Hid (W2.heap[w.heap.size + 1]? = some (.cells #[.int .i64 0, .int .i64 0, .string ⟨#[]⟩, .slice none 0 0, .slice none 0 0, .slice none 0 0] 35 (0, 0))) := hB9.oth _ _ (twoO_2 _ _ _ (by omega))
  have BX : Hid (W2.heap[w.heap.size + 2]? = some (.cells #[.int .i64 16, .int .i64 0, .string ⟨#[]⟩, .slice va (flat2 l9).length vc, .slice none 0 0, .slice none 0 0] 35 (0, 0))) := hB9.box
  clear hR q1 q2 q4 hB9
  have G2 : Hid (w.grownBy W2 (some pb)) := HB9.out.gr
  have LR := Lib.hid (HB9.out.row.lie_E rfl (by omega))
  have qh := BX.out
  have q0 : W2.cell? ⟨w.heap.size + 2, 0, none⟩ = some (.int .i64 16) := by simp [World.cell?, qh]
  have q1 : W2.cell? ⟨w.heap.size + 2, 1, none⟩ = some (.int .i64 0) := by simp [World.cell?, qh]
  have q2 : W2.cell? ⟨w.heap.size + 2, 2, none⟩ = some (.string ⟨#[]⟩) := by simp [World.cell?, qh]
  have q3 : W2.cell? ⟨w.heap.size + 2, 3, none⟩ = some (.slice va (flat2 l9).length vc) := by simp [World.cell?, qh]
  have q4 : W2.cell? ⟨w.heap.size + 2, 4, none⟩ = some (.slice none 0 0) := by simp [World.cell?, qh]
  have q5 : W2.cell? ⟨w.heap.size + 2, 5, none⟩ = some (.slice none 0 0) := by simp [World.cell?, qh]
  have qf : ∀ i, W2.frozen? ⟨w.heap.size + 2, i, none⟩ = false := fun i => by simp [World.frozen?, qh]
  have ql : w.heap.size + 2 < W2.heap.size := lt_of_block qh
  clear qh
  have rh := BZ.out
  have r0 : W2.cell? ⟨w.heap.size + 1, 0, none⟩ = some (.int .i64 0) := by simp [World.cell?, rh]
  have r1 : W2.cell? ⟨w.heap.size + 1, 1, none⟩ = some (.int .i64 0) := by simp [World.cell?, rh]
  have r2 : W2.cell? ⟨w.heap.size + 1, 2, none⟩ = some (.string ⟨#[]⟩) := by simp [World.cell?, rh]
  have r3 : W2.cell? ⟨w.heap.size + 1, 3, none⟩ = some (.slice none 0 0) := by simp [World.cell?, rh]
  have r4 : W2.cell? ⟨w.heap.size + 1, 4, none⟩ = some (.slice none 0 0) := by simp [World.cell?, rh]
  have r5 : W2.cell? ⟨w.heap.size + 1, 5, none⟩ = some (.slice none 0 0) := by simp [World.cell?, rh]
  have rf : ∀ i, W2.frozen? ⟨w.heap.size + 1, i, none⟩ = false := fun i => by simp [World.frozen?, rh]
  have rl : w.heap.size + 1 < W2.heap.size := lt_of_block rh
  clear rh
  go_wp2_with fail
  obtain ⟨y0, y1, y2, y3, y4, y5⟩ := six7_cell (a := .int .i64 16) (b := .int .i64 0) (c := .string ⟨#[]⟩) (d := .slice va (flat2 l9).length vc) (e := .slice none 0 0) (f := .slice none 0 0) BZ.out
  have hsz9 : (six7 W2 (w.heap.size + 1) (.int .i64 16) (.int .i64 0) (.string ⟨#[]⟩) (.slice va (flat2 l9).length vc) (.slice none 0 0) (.slice none 0 0)).heap.size = W2.heap.size := six7_size
  have f1 : PAt (six7 W2 (w.heap.size + 1) (.int .i64 16) (.int .i64 0) (.string ⟨#[]⟩) (.slice va (flat2 l9).length vc) (.slice none 0 0) (.slice none 0 0)) pb tsl d := six_pat HP2.out (by omega)
  have f2 : w.grownBy (six7 W2 (w.heap.size + 1) (.int .i64 16) (.int .i64 0) (.string ⟨#[]⟩) (.slice va (flat2 l9).length vc) (.slice none 0 0) (.slice none 0 0)) (some pb) := six_gr (G2.out) (by omega)
  have f3_0 : Lie (RE (.slice va (flat2 l9).length vc) (flat2 l9)) (w.heap.size + 3) W2.heap.size (six7 W2 (w.heap.size + 1) (.int .i64 16) (.int .i64 0) (.string ⟨#[]⟩) (.slice va (flat2 l9).length vc) (.slice none 0 0) (.slice none 0 0)) := six_lie LR.out (by omega)
  have f5_0 : (six7 W2 (w.heap.size + 1) (.int .i64 16) (.int .i64 0) (.string ⟨#[]⟩) (.slice va (flat2 l9).length vc) (.slice none 0 0) (.slice none 0 0)).heap[w.heap.size]? = some (.cells #[.pointer (some ⟨pb, 0, none⟩)] 138 (0, 0)) := (six7_other (by omega)).trans BP.out
  have f5_2 : (six7 W2 (w.heap.size + 1) (.int .i64 16) (.int .i64 0) (.string ⟨#[]⟩) (.slice va (flat2 l9).length vc) (.slice none 0 0) (.slice none 0 0)).heap[w.heap.size + 2]? = some (.cells #[.int .i64 16, .int .i64 0, .string ⟨#[]⟩, .slice va (flat2 l9).length vc, .slice none 0 0, .slice none 0 0] 35 (0, 0)) := (six7_other (by omega)).trans BX.out
  obtain ⟨WF, hWF⟩ : ∃ WF, six7 W2 (w.heap.size + 1) (.int .i64 16) (.int .i64 0) (.string ⟨#[]⟩) (.slice va (flat2 l9).length vc) (.slice none 0 0) (.slice none 0 0) = WF := ⟨_, rfl⟩
  rw [hWF] at y0 y1 y2 y3 y4 y5 hsz9 f1 f2 f3_0 f5_0 f5_2
  unfold six7 at hWF
  rw [hWF]
  clear hWF
  have f4 : Lie (XE (mkE 16 (flat2 l9)) (.slice va (flat2 l9).length vc) (.slice none 0 0) (.slice none 0 0)) w.heap.size WF.heap.size WF := mkE_row (f3_0.wider (by omega) f3_0.lt (Nat.le_refl _)) (by decide) (by decide)
  have HF := Lib.hid f4
  clear f4 f3_0 f5_0 f5_2
  refine bodyPost_ret (v := exV (mkE 16 (flat2 l9)) (.slice va (flat2 l9).length vc) (.slice none 0 0) (.slice none 0 0)) (by simp [results, Tryz.results228, go_sem, exV, mkE, y0, y1, y2, y3, y4, y5, hsz9]) rfl (ret_ok (x := (mkE 16 (flat2 l9))) (by simp only [pRecord, PR.bind, HQ1.out, PR.bind, ↓reduceIte, Bool.false_eq_true]) ⟨_, _, _, rfl, HF.out⟩ f1 f2)
 ·exact ⟨rfl, ret_bad (by simp only [pRecord, q1, PR.bind]) ((grown_to_below G1.out (Nat.le_of_lt hpl)).trans q2)⟩
end Go.Proofs.YtenfphbhofibjaaGreatDoor
namespace Go.Proofs.YtenfphbhofibjaaGreatDoor
open Go.RowKit LM TM PM
def QW (s n gl k : Nat) : Prop := s ≤ k ∧ k ≠ n ∧ k ≠ gl
structure WithI (xs : List TE) (w0 : World) (pb gl s n bs : Nat) (O : Nat → Option Obj) (W : World) (v : Value) (cs : List Value) : Prop where
 box : W.heap[gl]? = some (.cells #[v] 28 (0, 0))
 oth : ∀ k o, O k = some o → W.heap[k]? = some o
 own : W.ownsRow bs 35 6 v xs.length cs
 ngl : v.ownBlock ≠ some gl
 els : EsC (fun k => QW s n gl k ∧ k < W.heap.size ∧ v.ownBlock ≠ some k) W xs cs
 gr : w0.grownBy W (some pb)
theorem WithI.step {xs : List TE} {w0 W W' : World} {pb gl s n bs : Nat} {O : Nat → Option Obj} {v : Value} {cs : List Value} (h : WithI xs w0 pb gl s n bs O W v cs) (hg : W.grownBy W' (some pb)) (hgl : pb ≠ gl) (hs : pb < s) (hbs : pb < bs) (hO : ∀ k o, O k = some o → k ≠ pb) : WithI xs w0 pb gl s n bs O W' v cs :=
 ⟨(hg.block gl (lt_of_block h.box) (by simp; omega)).trans h.box, fun k o hk => (hg.block k (lt_of_block (h.oth k o hk)) (by have := hO k o hk; simp; omega)).trans (h.oth k o hk), own_gr h.own hg hbs, h.ngl,
  EsC.kept (fun k hk => ⟨⟨hk.1, Nat.lt_of_lt_of_le hk.2.1 hg.size, hk.2.2⟩, hg.block k hk.2.1 (by have := hk.1.1; simp; omega)⟩) h.els, gr_trans h.gr hg⟩
theorem WithI.lie {xs : List TE} {w0 W : World} {pb gl s n bs : Nat} {O : Nat → Option Obj} {v : Value} {cs : List Value} (h : WithI xs w0 pb gl s n bs O W v cs) (hb : ∀ k, bs ≤ k → s ≤ k ∧ k ≠ n) : LieN (RE v xs) s n W := by
 refine ⟨stab_RE _ _, ?_⟩
 obtain ⟨ao, cap, rfl, h1, h2⟩ := row_shape h.own
 refine ⟨ao, cap, rfl, h1, h2, fun hn => ?_⟩
 obtain ⟨g, cap2, cur2, hv2, _, _, hbg, hblk⟩ := row_at h.own hn
 cases hv2
 exact ⟨g, 0, rfl, ⟨(hb g hbg).1, lt_of_block hblk, (hb g hbg).2⟩, EsC.at (cs := cs) (EsC.kept (fun k hk => ⟨⟨hk.1.1, hk.2.1, hk.1.2.1⟩, rfl⟩) h.els) (rcells h.own)⟩
end Go.Proofs.YtenfphbhofibjaaGreatDoor

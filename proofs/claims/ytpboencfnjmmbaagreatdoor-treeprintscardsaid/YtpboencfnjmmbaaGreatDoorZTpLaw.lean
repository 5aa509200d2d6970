/-
 The law TreePrints.
 Conditions: the listed variables as they are laid.
-/
import Derived.Test.YtpboencfnjmmbaaGreatDoorZLpPrint
import Derived.Test.YtpboencfnjmmbaaGreatDoorZOpenX
import Derived.Test.YtpboencfnjmmbaaGreatDoorZEyAw6
set_option maxRecDepth 100000
set_option maxHeartbeats 8000000
set_option linter.unusedVariables false
set_option linter.unusedSimpArgs false
namespace Go.Proofs.YtpboencfnjmmbaaGreatDoor
open Go.RowKit TM
theorem tp_wf : ∀ {T : List TS}, (∀ e ∈ T, wfS e) → wfSs T
 | [], _ => trivial
 | e :: T, h => ⟨h e (by simp), tp_wf fun x hx => h x (by simp [hx])⟩
theorem tp_len : ∀ {T : List TS}, (∀ e ∈ T, (txS e).length ≤ 1000000) → (txSs T).length ≤ 1000000 * T.length
 | [], _ => by simp [txSs]
 | e :: T, h => by
  have h1 := h e (by simp)
  have h2 := tp_len (T := T) fun x hx => h x (by simp [hx])
  simp only [txSs, List.length_append, List.length_cons]
  omega
theorem sin_upT {w w' : World} {s : TS} {a b c : Value} (h : SIn (· < w.heap.size) w s a b c) (hb : Below w.heap.size w w') : SIn (· < w'.heap.size) w' s a b c := SIn.kept (fun k hk => ⟨Nat.lt_of_lt_of_le hk hb.size, hb.block k hk⟩) s h
theorem one_stmt {w : World} {kind : Nat} {name : ByteArray} {exprs : List TE} {body els : List TS} {pos : Int} {vx vb ve : Value} (h : SIn (· < w.heap.size) w (.mk kind name exprs body els pos) vx vb ve) : SsIn (w.alloc (.cells #[.int .i64 (kind : Int), .string name, vx, vb, ve, .int .i64 pos] 60)).heap.size (w.alloc (.cells #[.int .i64 (kind : Int), .string name, vx, vb, ve, .int .i64 pos] 60)) (.slice (some ⟨w.heap.size, 0, none⟩) 1 1) [.mk kind name exprs body els pos] := by
 refine ⟨_, 1, rfl, Nat.le_refl _, by simp [maxLen], fun _ => ⟨_, 0, rfl, by simp, ⟨⟨vx, vb, ve, ?_, sin_upT h ((Below.refl _ _).alloc (Nat.le_refl _) _)⟩, trivial⟩⟩⟩
 have hc : ∀ k, (w.alloc (.cells #[.int .i64 (kind : Int), .string name, vx, vb, ve, .int .i64 pos] 60)).cell? ⟨w.heap.size, k, none⟩ = (#[.int .i64 (kind : Int), .string name, vx, vb, ve, .int .i64 pos] : Array Value)[k]? := fun k => by simp only [World.cell?, heap_alloc_new]; rfl
 exact ⟨hc 0, hc 1, hc 2, hc 3, hc 4, hc 5⟩
structure JT (w0 : World) (s : TS) (l : Nat → Bool) (a : Act) (W : World) : Prop where
 b : Below w0.heap.size w0 W
 v : l 3 = true → SsIn W.heap.size W (a.eval (.tmp 29)) [s]
theorem JT.start {w0 : World} {s : TS} {a : Act} : JT w0 s (fun _ => false) a w0.drew := ⟨(Below.refl _ _).drew, fun h => (by cases h)⟩
theorem JT.call {w0 W W' : World} {s : TS} {l : Nat → Bool} {a : Act} (h : JT w0 s l a W) {j d : Nat} {u : Value} (hj : 3 ≠ j) (hd : 29 ≠ d) (hb : Below W.heap.size W W') : JT w0 s (more l j) (a.put (some d) u) W' :=
 ⟨h.b.trans (hb.mono h.b.size), fun e => (by rw [eval_other hd]; exact ssin_up (h.v (by rwa [more_ne l hj] at e)) hb)⟩
theorem JT.pure {w0 W : World} {s : TS} {l : Nat → Bool} {a : Act} (h : JT w0 s l a W) {j d : Nat} {u : Value} (hj : 3 ≠ j) (hd : 29 ≠ d) : JT w0 s (more l j) (a.put (some d) u) W := h.call hj hd (Below.refl _ _)
theorem JT.make {w0 W : World} {s : TS} {l : Nat → Bool} {a : Act} {u : Value} {o : Obj} (h : JT w0 s l a W) (hs : 29 < a.tmps.size) (hu : SsIn (W.alloc o).heap.size (W.alloc o) u [s]) : JT w0 s (more l 3) (a.put (some 29) u) (W.alloc o) :=
 ⟨h.b.alloc h.b.size _, fun _ => (by rw [eval_put a 29 29 u hs, if_pos rfl]; exact hu)⟩
theorem treePrints_any {xs : List XX} (hok : ∀ x ∈ xs, x.ok) {w : World} {v : Value} (hv : XSl w v xs) (hE : Go.Ex.Held gs0 w) (hL : Lw w) :
 Calls Tryz.prog 7 #[v] w fun e w' => e = .returned (.bool true) ∧ Below w.heap.size w w' := by
 have HL := Lib.hid hL
 have HE := Lib.hid hE
 have HV := Lib.hid hv
 obtain ⟨ad, cap, rfl, hc1, hc2, _⟩ := hv
 unfold maxLen at hc2
 clear hL hE
 go_enter Tryz.func7, Tryz.ntmps7
 go_wp2_with fail
 refine (awakeX6 _ HE.out).mono ?_
 rintro e wa ⟨rfl, ba⟩
 have HBa := Lib.hid ba
 have HLa := Lib.hid (HL.out.below ba)
 have HVa := Lib.hid (HV.out.up ba)
 clear ba HL HE HV
 by_cases h100 : 100 < xs.length
 ·have h100i : 100 < (xs.length : Int) := by omega
  go_wp2
  go_ret
  exact ⟨rfl, HBa.out⟩
 have h100i : ¬ 100 < (xs.length : Int) := by omega
 obtain ⟨T, hT, hTl, hMk⟩ := make_any (xs := xs) (by omega) hok
 have HT := Lib.hid hT
 have HMK := Lib.hid hMk
 have hTz : (txSs T).length ≤ 1000000000 := Nat.le_trans (tp_len fun e he => (hT e he).2.2) (by omega)
 have HTZ := Lib.hid hTz
 clear hT hMk hTz
 go_wp2_with fail
 refine (HMK.out wa _ HVa.out).mono ?_
 rintro e w2 ⟨u, rfl, hsl, b2, _⟩
 have HSS : Hid (SsIn w2.heap.size w2 u T) := hsl.imp (fun k hk => hk.2) (fun g o hg hA => SsAt.kept (fun k hk => ⟨hk.2, rfl⟩) T hg hA)
 have HB2 : Hid (Below w.heap.size w w2) := HBa.out.trans (b2.mono HBa.out.size)
 have HL2 := Lib.hid (HLa.out.below b2)
 obtain ⟨au, cu, rfl, hu1, hu2, hug⟩ := HSS.out
 unfold maxLen at hu2
 have HUG := Lib.hid hug
 clear hsl b2 hug HLa HVa HMK
 have hcpr : Calls Tryz.prog 21 #[.slice au T.length cu] w2 fun e w' => e = .returned (.string (mkB (txSs T))) ∧ Below w2.heap.size w2 w' := print_any T HL2.out.g HSS.out HTZ.out
 have HPL : Hid (∀ W, Below w2.heap.size w2 W → Calls Tryz.prog 17 #[.slice au T.length cu] W fun e w' => e = .returned (.string (mkB (txSs T))) ∧ Below W.heap.size W w') := fun W hb => lprint_any T (tp_wf fun e he => (HT.out e he).1) W _ (HL2.out.below hb) (ssin_up HSS.out hb) HTZ.out
 generalize mkB (txSs T) = P at hcpr HPL
 have HCPR := Lib.hid hcpr
 clear hcpr
 go_wp2_with fail
 refine HCPR.out.mono ?_
 rintro e w4 ⟨rfl, b4⟩
 have HB4 := Lib.hid b4
 clear b4
 go_wp2_with fail
 refine (HPL.out w4 HB4.out).mono ?_
 rintro e w5 ⟨rfl, b5⟩
 have HB5 : Hid (Below w2.heap.size w2 w5) := HB4.out.trans (b5.mono HB4.out.size)
 clear b5
 go_wp2_with fail
 go_loopw [22] (fun i wr => ∃ j : Nat, i = .int .i64 (j : Int) ∧ j ≤ T.length ∧ Hid (Below w2.heap.size w2 wr))
  (fun i _ => T.length - (Go.RowKit.intOf i).toNat)
 case atStart => exact ⟨0, rfl, Nat.zero_le _, HB5.out⟩
 case round =>
  obtain ⟨j, rfl, hj, HBj⟩ := hrel
  obtain ⟨W0, hW0⟩ : ∃ W0, W0 = wr := ⟨_, rfl⟩
  subst hW0
  by_cases hlt : j < T.length
  ·obtain ⟨s, hs⟩ : ∃ s, T[j]? = some s := ⟨_, List.getElem?_eq_getElem hlt⟩
   have hws := HT.out s (List.mem_of_getElem? hs)
   have HWS : Hid (wfS s) := hws.1
   have HTL : Hid ((txS s).length ≤ 1000000) := hws.2.2
   obtain ⟨g, o, rfl, hgl, hAt⟩ := HUG.out (by omega)
   obtain ⟨vx, vb, ve, hce, hin⟩ := SsAt.get hAt hs
   have hce2 := hce.kept (HBj.out.block g hgl)
   have HIN0 : Hid (SIn (· < w2.heap.size) w2 s vx vb ve) := hin
   have hidx : 0 ≤ (j : Int) ∧ (j : Int) < (T.length : Int) := ⟨by omega, by omega⟩
   have HST : Hid (∀ W, Below w2.heap.size w2 W → Calls Tryz.prog 22 #[stV s vx vb ve] W fun e w' => e = .returned (.string (mkB (txS s))) ∧ Below W.heap.size W w') := fun W hb => stmtString_any s (HL2.out.below hb).g (sin_upT HIN0.out hb) (by have := HTL.out; omega)
   have HPR : Hid (∀ W V, Below w2.heap.size w2 W → SsIn W.heap.size W V [s] → Calls Tryz.prog 17 #[V] W fun e w' => e = .returned (.string (mkB (txS s))) ∧ Below W.heap.size W w') := fun W V hb hV => by
    have h := lprint_any [s] ⟨HWS.out, trivial⟩ W V (HL2.out.below hb) hV (by have := HTL.out; simp [txSs]; omega)
    rwa [show txSs [s] = txS s from by simp [txSs]] at h
   clear hAt hce hs hws
   obtain ⟨S, hS9⟩ : ∃ S, S = mkB (txS s) := ⟨_, rfl⟩
   rw [← hS9] at HST HPR
   clear hS9
   obtain ⟨kind, name, exprs, body, els, pos⟩ := s
   obtain ⟨h8, ⟨xa, xc, rfl, hx1, hx2, hxg⟩, ⟨ba, bc, rfl, _, _, _⟩, ⟨ea, ec, rfl, _, _, _⟩⟩ := hin
   obtain ⟨q0, q1, q2, q3, q4, q5⟩ := hce2
   have HXG := Lib.hid hxg
   have HWX : Hid (wfEs exprs) := by obtain ⟨_, _, _, _, _, _, _, _, _, h, _⟩ := HWS.out; exact h
   unfold maxLen at hx2
   simp only [stV] at HST
   clear hxg
   go_upto_region 11 with fail
   obtain ⟨w1, hw1⟩ : ∃ w1, w1 = W0.alloc (.cells #[.int .i64 (kind : Int), .string name, .slice xa exprs.length xc, .slice ba body.length bc, .slice ea els.length ec, .int .i64 pos] 60) := ⟨_, rfl⟩
   have HGB : Hid (w1.heap[W0.heap.size]? = some (.cells #[.int .i64 (kind : Int), .string name, .slice xa exprs.length xc, .slice ba body.length bc, .slice ea els.length ec, .int .i64 pos] 60 (0, 0))) := by refine Lib.hid ?_; rw [hw1]; exact heap_alloc_new _ _
   have hs1 : W0.heap.size < w1.heap.size := by rw [hw1]; simp
   have HB21 : Hid (Below w2.heap.size w2 w1) := by refine Lib.hid ?_; rw [hw1]; exact HBj.out.alloc HBj.out.size _
   have HB1W : ∀ {W : World}, Below w1.heap.size w1 W → Below w2.heap.size w2 W := fun hb => HB21.out.trans (hb.mono HB21.out.size)
   have HLw : Hid (∀ W, Below w1.heap.size w1 W → Lw W) := fun W hb => HL2.out.below (HB1W hb)
   first | rw [← hw1] | skip
   clear hw1 q0 q1 q2 q3 q4 q5
   refine region_sh (fun | 0 => some (.agg #[.int .i64 (kind : Int), .string name, .slice xa exprs.length xc, .slice ba body.length bc, .slice ea els.length ec, .int .i64 pos]) | 1 => some (.string S) | 2 => some (.agg #[.int .i64 (kind : Int), .string name, .slice xa exprs.length xc, .slice ba body.length bc, .slice ea els.length ec, .int .i64 pos]) | 4 => some (.string S) | 5 => some (.bool false) | _ => none) (fun l a9 W => JT w1 (.mk kind name exprs body els pos) l a9 W) (by kernel_rfl) (by kernel_rfl) (by kernel_rfl) (JT.start) ?_ ?_
   ·intro hon q hq LL a1 W hC hl hBh hS hJ K hK
    have hqn : q < 6 := hq
    clear hq
    rcases (show q = 0 ∨ q = 1 ∨ q = 2 ∨ q = 3 ∨ q = 4 ∨ q = 5 from by omega) with rfl | rfl | rfl | rfl | rfl | rfl
    ·have e5 := (eval_tmp a1 5).symm.trans ((hS.kept 5 (by kernel_rfl)).trans rfl)
     have q0 : W.cell? ⟨W0.heap.size, 0, none⟩ = some (.int .i64 (kind : Int)) := by simp only [World.cell?, (hJ.b.block _ hs1).trans HGB.out]; rfl
     have q1 : W.cell? ⟨W0.heap.size, 1, none⟩ = some (.string name) := by simp only [World.cell?, (hJ.b.block _ hs1).trans HGB.out]; rfl
     have q2 : W.cell? ⟨W0.heap.size, 2, none⟩ = some (.slice xa exprs.length xc) := by simp only [World.cell?, (hJ.b.block _ hs1).trans HGB.out]; rfl
     have q3 : W.cell? ⟨W0.heap.size, 3, none⟩ = some (.slice ba body.length bc) := by simp only [World.cell?, (hJ.b.block _ hs1).trans HGB.out]; rfl
     have q4 : W.cell? ⟨W0.heap.size, 4, none⟩ = some (.slice ea els.length ec) := by simp only [World.cell?, (hJ.b.block _ hs1).trans HGB.out]; rfl
     have q5 : W.cell? ⟨W0.heap.size, 5, none⟩ = some (.int .i64 pos) := by simp only [World.cell?, (hJ.b.block _ hs1).trans HGB.out]; rfl
     refine wpOp_step rfl (fun K' hK' => ?_)
     go_simp
     exact hK' _ _ (hK _ _ (hS.put hon (i := 0) rfl rfl (fun u hu => by cases hu; rfl)) (hJ.pure (by decide) (by decide)))
    ·have e26 := (eval_tmp a1 26).symm.trans (hS.get hBh (i := 1) rfl 0 (by simp) rfl rfl rfl)
     refine wpOp_call (f := 22) (args := #[.agg #[.int .i64 (kind : Int), .string name, .slice xa exprs.length xc, .slice ba body.length bc, .slice ea els.length ec, .int .i64 pos]]) (R := fun u W3 => u = .string S ∧ Below W.heap.size W W3) rfl rfl (by simp [execOp, resolve, invoke, e26, go_sem]) ((HST.out W (HB1W hJ.b)).mono fun e W3 ⟨h1, h2⟩ => ⟨_, h1, rfl, h2⟩) ?_
     rintro u W3 ⟨rfl, r2⟩
     exact hK _ _ (hS.put hon (i := 1) rfl rfl (fun u hu => by cases hu; rfl)) (hJ.call (by decide) (by decide) r2)
    ·have e5 := (eval_tmp a1 5).symm.trans ((hS.kept 5 (by kernel_rfl)).trans rfl)
     have q0 : W.cell? ⟨W0.heap.size, 0, none⟩ = some (.int .i64 (kind : Int)) := by simp only [World.cell?, (hJ.b.block _ hs1).trans HGB.out]; rfl
     have q1 : W.cell? ⟨W0.heap.size, 1, none⟩ = some (.string name) := by simp only [World.cell?, (hJ.b.block _ hs1).trans HGB.out]; rfl
     have q2 : W.cell? ⟨W0.heap.size, 2, none⟩ = some (.slice xa exprs.length xc) := by simp only [World.cell?, (hJ.b.block _ hs1).trans HGB.out]; rfl
     have q3 : W.cell? ⟨W0.heap.size, 3, none⟩ = some (.slice ba body.length bc) := by simp only [World.cell?, (hJ.b.block _ hs1).trans HGB.out]; rfl
     have q4 : W.cell? ⟨W0.heap.size, 4, none⟩ = some (.slice ea els.length ec) := by simp only [World.cell?, (hJ.b.block _ hs1).trans HGB.out]; rfl
     have q5 : W.cell? ⟨W0.heap.size, 5, none⟩ = some (.int .i64 pos) := by simp only [World.cell?, (hJ.b.block _ hs1).trans HGB.out]; rfl
     refine wpOp_step rfl (fun K' hK' => ?_)
     go_simp
     exact hK' _ _ (hK _ _ (hS.put hon (i := 2) rfl rfl (fun u hu => by cases hu; rfl)) (hJ.pure (by decide) (by decide)))
    ·have e28 := (eval_tmp a1 28).symm.trans (hS.get hBh (i := 3) rfl 2 (by simp) rfl rfl rfl)
     refine wpOp_step rfl (fun K' hK' => ?_)
     go_simp
     exact hK' _ _ (hK _ _ (hS.put hon (i := 3) rfl rfl (fun u hu => by cases hu)) (hJ.make (by rw [hS.size]; exact Nat.le_of_ble_eq_true rfl) (one_stmt (sin_upT HIN0.out (HB1W hJ.b)))))
    ·have hl3 : LL 3 = true := hBh _ rfl ⟨3, .data⟩ (by simp) rfl
     have hv := hJ.v hl3
     obtain ⟨V, hV⟩ : ∃ V, V = a1.eval (.tmp 29) := ⟨_, rfl⟩
     have e29 := (eval_tmp a1 29).symm.trans hV.symm
     rw [← hV] at hv
     refine wpOp_call (f := 17) (args := #[V]) (R := fun u W3 => u = .string S ∧ Below W.heap.size W W3) rfl rfl (by simp [execOp, resolve, invoke, e29, go_sem]) ((HPR.out W V (HB1W hJ.b) hv).mono fun e W3 ⟨h1, h2⟩ => ⟨_, h1, rfl, h2⟩) ?_
     rintro u W3 ⟨rfl, r2⟩
     exact hK _ _ (hS.put hon (i := 4) rfl rfl (fun u hu => by cases hu; rfl)) (hJ.call (by decide) (by decide) r2)
    ·have e27 := (eval_tmp a1 27).symm.trans (hS.get hBh (i := 5) rfl 1 (by simp) rfl rfl rfl)
     have e30 := (eval_tmp a1 30).symm.trans (hS.get hBh (i := 5) rfl 4 (by simp) rfl rfl rfl)
     refine wpOp_step rfl (fun K' hK' => ?_)
     go_simp
     exact hK' _ _ (hK _ _ (hS.put hon (i := 5) rfl rfl (fun u hu => by cases hu; rfl)) (hJ.pure (by decide) (by decide)))
   ·intro LL a1 wz hl hS hJ
    have hfr := hS.frame [26, 27, 28, 29, 30, 31] rfl
    obtain ⟨zz, hz⟩ : ∃ z : Nat → Value, z = fun k => a1.eval (.tmp k) := ⟨_, rfl⟩
    rw [← hz] at hfr
    have z31 : zz 31 = .bool false := by rw [hz]; exact hS.val 5 _ 31 _ rfl rfl rfl (hl 5 (by decide))
    first | refine (‹∀ (a : Act) (w : World), Code.wp Tryz.prog _ _ a w → _› a1 wz ?_) | skip
    rw [hfr]
    have HBZ1 : Hid (Below w1.heap.size w1 wz) := hJ.b
    clear hfr hz hS hJ hl
    simp only [over, List.setIfInBounds_toArray, List.set_cons_zero, List.set_cons_succ, z31]
    clear z31
    have HGBZ : Hid (wz.heap[W0.heap.size]? = _) := Lib.hid ((HBZ1.out.block _ hs1).trans HGB.out)
    have x2 : wz.cell? ⟨W0.heap.size, 2, none⟩ = some (.slice xa exprs.length xc) := by simp only [World.cell?, HGBZ.out]; rfl
    go_wp2_with fail
    go_loopw [35] (fun i wr => ∃ k : Nat, i = .int .i64 (k : Int) ∧ k ≤ exprs.length ∧ Hid (Below w1.heap.size w1 wr))
     (fun i _ => exprs.length - (Go.RowKit.intOf i).toNat)
    case atStart => exact ⟨0, rfl, Nat.zero_le _, HBZ1.out⟩
    case round =>
     obtain ⟨k, rfl, hkl, HBk⟩ := hrel
     obtain ⟨W2, hW2⟩ : ∃ W2, W2 = wr := ⟨_, rfl⟩
     subst hW2
     by_cases hlt2 : k < exprs.length
     ·obtain ⟨p, hp⟩ : ∃ p, exprs[k]? = some p := ⟨_, List.getElem?_eq_getElem hlt2⟩
      have HPX : Hid (wfE p ∧ (txE p).length ≤ 1000000000) := ⟨wfEs_get HWX.out hp, Nat.le_trans (expr_le HWS.out (List.mem_of_getElem? hp)) (by have := HTL.out; omega)⟩
      obtain ⟨g2, o2, rfl, hgl2, hAt⟩ := HXG.out (by omega)
      obtain ⟨x, y, z, hce, hin⟩ := hAt.get hp
      have hbw : Below w2.heap.size w2 W2 := HB21.out.trans (HBk.out.mono HB21.out.size)
      have hce2 := hce.kept (hbw.block g2 hgl2)
      have HEI : Hid (∀ W, Below w1.heap.size w1 W → EIn (· < W.heap.size) W p x y z) := fun W hb => ein_up hin (HB21.out.trans (hb.mono HB21.out.size))
      have HES : Hid (∀ W, Below w1.heap.size w1 W → Calls Tryz.prog 23 #[exV p x y z] W fun e w' => e = .returned (.string (mkB (txE p))) ∧ Below W.heap.size W w') := fun W hb => exprString_any p (HLw.out W hb).g (HEI.out W hb) HPX.out.2
      have HEL : Hid (∀ W, Below w1.heap.size w1 W → Calls Tryz.prog 24 #[exV p x y z] W fun e w' => e = .returned (.string (mkB (txE p))) ∧ Below W.heap.size W w') := fun W hb => lexpr_any p HPX.out.1 W x y z (HLw.out W hb) (HEI.out W hb) HPX.out.2
      have hidx2 : 0 ≤ (k : Int) ∧ (k : Int) < (exprs.length : Int) := ⟨by omega, by omega⟩
      generalize mkB (txE p) = X at HES HEL
      clear hp hAt hce hbw HEI HPX
      obtain ⟨op, num, text, parts, params, bod⟩ := p
      obtain ⟨_, ⟨pa, pc, rfl, _⟩, ⟨na, nc, rfl, _⟩, ⟨bb, bcp, rfl, _⟩⟩ := hin
      obtain ⟨q0, q1, q2, q3, q4, q5⟩ := hce2
      simp only [exV] at HES HEL
      go_upto_region 16 with fail
      obtain ⟨w3, hw3⟩ : ∃ w3, w3 = W2.alloc (.cells #[.int .i64 (op : Int), .int .i64 num, .string text, .slice pa parts.length pc, .slice na params.length nc, .slice bb bod.length bcp] 65) := ⟨_, rfl⟩
      have HGE : Hid (w3.heap[W2.heap.size]? = some (.cells #[.int .i64 (op : Int), .int .i64 num, .string text, .slice pa parts.length pc, .slice na params.length nc, .slice bb bod.length bcp] 65 (0, 0))) := by refine Lib.hid ?_; rw [hw3]; exact heap_alloc_new _ _
      have hs3 : W2.heap.size < w3.heap.size := by rw [hw3]; simp
      have HB13 : Hid (Below w1.heap.size w1 w3) := by refine Lib.hid ?_; rw [hw3]; exact HBk.out.alloc HBk.out.size _
      have HES3 : Hid (∀ W, Below w3.heap.size w3 W → Calls Tryz.prog 23 #[.agg #[.int .i64 (op : Int), .int .i64 num, .string text, .slice pa parts.length pc, .slice na params.length nc, .slice bb bod.length bcp]] W fun e w' => e = .returned (.string X) ∧ Below W.heap.size W w') := fun W hb => HES.out W (HB13.out.trans (hb.mono HB13.out.size))
      have HEL3 : Hid (∀ W, Below w3.heap.size w3 W → Calls Tryz.prog 24 #[.agg #[.int .i64 (op : Int), .int .i64 num, .string text, .slice pa parts.length pc, .slice na params.length nc, .slice bb bod.length bcp]] W fun e w' => e = .returned (.string X) ∧ Below W.heap.size W w') := fun W hb => HEL.out W (HB13.out.trans (hb.mono HB13.out.size))
      first | rw [← hw3] | skip
      clear hw3 q0 q1 q2 q3 q4 q5
      refine region_sh (fun | 0 => some (.agg #[.int .i64 (op : Int), .int .i64 num, .string text, .slice pa parts.length pc, .slice na params.length nc, .slice bb bod.length bcp]) | 1 => some (.string X) | 2 => some (.agg #[.int .i64 (op : Int), .int .i64 num, .string text, .slice pa parts.length pc, .slice na params.length nc, .slice bb bod.length bcp]) | 3 => some (.string X) | 4 => some (.bool false) | _ => none) (fun _ _ W => Below w3.heap.size w3 W) (by kernel_rfl) (by kernel_rfl) (by kernel_rfl) ((Below.refl _ _).drew) ?_ ?_
      ·intro hon q hq LL a1 W hC hl hBh hS hJ K hK
       have hqn : q < 5 := hq
       clear hq
       rcases (show q = 0 ∨ q = 1 ∨ q = 2 ∨ q = 3 ∨ q = 4 from by omega) with rfl | rfl | rfl | rfl | rfl
       ·have e7 := (eval_tmp a1 7).symm.trans ((hS.kept 7 (by kernel_rfl)).trans rfl)
        have q0 : W.cell? ⟨W2.heap.size, 0, none⟩ = some (.int .i64 (op : Int)) := by simp only [World.cell?, (hJ.block _ hs3).trans HGE.out]; rfl
        have q1 : W.cell? ⟨W2.heap.size, 1, none⟩ = some (.int .i64 num) := by simp only [World.cell?, (hJ.block _ hs3).trans HGE.out]; rfl
        have q2 : W.cell? ⟨W2.heap.size, 2, none⟩ = some (.string text) := by simp only [World.cell?, (hJ.block _ hs3).trans HGE.out]; rfl
        have q3 : W.cell? ⟨W2.heap.size, 3, none⟩ = some (.slice pa parts.length pc) := by simp only [World.cell?, (hJ.block _ hs3).trans HGE.out]; rfl
        have q4 : W.cell? ⟨W2.heap.size, 4, none⟩ = some (.slice na params.length nc) := by simp only [World.cell?, (hJ.block _ hs3).trans HGE.out]; rfl
        have q5 : W.cell? ⟨W2.heap.size, 5, none⟩ = some (.slice bb bod.length bcp) := by simp only [World.cell?, (hJ.block _ hs3).trans HGE.out]; rfl
        refine wpOp_step rfl (fun K' hK' => ?_)
        go_simp
        exact hK' _ _ (hK _ _ (hS.put hon (i := 0) rfl rfl (fun u hu => by cases hu; rfl)) hJ)
       ·have e39 := (eval_tmp a1 39).symm.trans (hS.get hBh (i := 1) rfl 0 (by simp) rfl rfl rfl)
        refine wpOp_call (f := 23) (args := #[.agg #[.int .i64 (op : Int), .int .i64 num, .string text, .slice pa parts.length pc, .slice na params.length nc, .slice bb bod.length bcp]]) (R := fun u W3 => u = .string X ∧ Below W.heap.size W W3) rfl rfl (by simp [execOp, resolve, invoke, e39, go_sem]) ((HES3.out W hJ).mono fun e W3 ⟨h1, h2⟩ => ⟨_, h1, rfl, h2⟩) ?_
        rintro u W3 ⟨rfl, r2⟩
        exact hK _ _ (hS.put hon (i := 1) rfl rfl (fun u hu => by cases hu; rfl)) (hJ.trans (r2.mono hJ.size))
       ·have e7 := (eval_tmp a1 7).symm.trans ((hS.kept 7 (by kernel_rfl)).trans rfl)
        have q0 : W.cell? ⟨W2.heap.size, 0, none⟩ = some (.int .i64 (op : Int)) := by simp only [World.cell?, (hJ.block _ hs3).trans HGE.out]; rfl
        have q1 : W.cell? ⟨W2.heap.size, 1, none⟩ = some (.int .i64 num) := by simp only [World.cell?, (hJ.block _ hs3).trans HGE.out]; rfl
        have q2 : W.cell? ⟨W2.heap.size, 2, none⟩ = some (.string text) := by simp only [World.cell?, (hJ.block _ hs3).trans HGE.out]; rfl
        have q3 : W.cell? ⟨W2.heap.size, 3, none⟩ = some (.slice pa parts.length pc) := by simp only [World.cell?, (hJ.block _ hs3).trans HGE.out]; rfl
        have q4 : W.cell? ⟨W2.heap.size, 4, none⟩ = some (.slice na params.length nc) := by simp only [World.cell?, (hJ.block _ hs3).trans HGE.out]; rfl
        have q5 : W.cell? ⟨W2.heap.size, 5, none⟩ = some (.slice bb bod.length bcp) := by simp only [World.cell?, (hJ.block _ hs3).trans HGE.out]; rfl
        refine wpOp_step rfl (fun K' hK' => ?_)
        go_simp
        exact hK' _ _ (hK _ _ (hS.put hon (i := 2) rfl rfl (fun u hu => by cases hu; rfl)) hJ)
       ·have e41 := (eval_tmp a1 41).symm.trans (hS.get hBh (i := 3) rfl 2 (by simp) rfl rfl rfl)
        refine wpOp_call (f := 24) (args := #[.agg #[.int .i64 (op : Int), .int .i64 num, .string text, .slice pa parts.length pc, .slice na params.length nc, .slice bb bod.length bcp]]) (R := fun u W3 => u = .string X ∧ Below W.heap.size W W3) rfl rfl (by simp [execOp, resolve, invoke, e41, go_sem]) ((HEL3.out W hJ).mono fun e W3 ⟨h1, h2⟩ => ⟨_, h1, rfl, h2⟩) ?_
        rintro u W3 ⟨rfl, r2⟩
        exact hK _ _ (hS.put hon (i := 3) rfl rfl (fun u hu => by cases hu; rfl)) (hJ.trans (r2.mono hJ.size))
       ·have e40 := (eval_tmp a1 40).symm.trans (hS.get hBh (i := 4) rfl 1 (by simp) rfl rfl rfl)
        have e42 := (eval_tmp a1 42).symm.trans (hS.get hBh (i := 4) rfl 3 (by simp) rfl rfl rfl)
        refine wpOp_step rfl (fun K' hK' => ?_)
        go_simp
        exact hK' _ _ (hK _ _ (hS.put hon (i := 4) rfl rfl (fun u hu => by cases hu; rfl)) hJ)
      ·intro LL a1 wz hl hS hJ
       have hfr := hS.frame [39, 40, 41, 42, 43] rfl
       obtain ⟨zz, hz⟩ : ∃ z : Nat → Value, z = fun k => a1.eval (.tmp k) := ⟨_, rfl⟩
       rw [← hz] at hfr
       have z43 : zz 43 = .bool false := by rw [hz]; exact hS.val 4 _ 43 _ rfl rfl rfl (hl 4 (by decide))
       first | refine (‹∀ (a : Act) (w : World), Code.wp Tryz.prog _ _ a w → _› a1 wz ?_) | skip
       rw [hfr]
       have HBZ3 : Hid (Below w1.heap.size w1 wz) := HB13.out.trans (Below.mono hJ HB13.out.size)
       clear hfr hz hS hJ hl
       simp only [over, List.setIfInBounds_toArray, List.set_cons_zero, List.set_cons_succ, z43]
       clear z43
       go_wp2_with fail
       go_roundw
       case rel => exact ⟨k + 1, by go_num, by omega, HBZ3⟩
       case measure => simp [Go.RowKit.intOf]; omega
     ·obtain rfl : k = exprs.length := by omega
      have HBN : Hid (Below w2.heap.size w2 W2) := HB21.out.trans (HBk.out.mono HB21.out.size)
      go_wp2_with fail
      go_roundw
      case rel => exact ⟨j + 1, by go_num, by omega, HBN.out⟩
      case measure => simp [Go.RowKit.intOf]; omega
  ·obtain rfl : j = T.length := by omega
   have HBE : Hid (Below w.heap.size w W0) := HB2.out.trans (HBj.out.mono HB2.out.size)
   go_wp2
   go_ret
   exact ⟨rfl, HBE.out⟩
end Go.Proofs.YtpboencfnjmmbaaGreatDoor

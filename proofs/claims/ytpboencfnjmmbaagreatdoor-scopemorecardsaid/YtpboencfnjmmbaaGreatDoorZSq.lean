/-
 slices.DeleteFunc at rows of texts, of a predicate that makes memory of its own.
 Conditions: as each theorem says.
-/
import Derived.Test.YtpboencfnjmmbaaGreatDoorZScLib
set_option maxRecDepth 1000000
set_option maxHeartbeats 4000000
set_option linter.unusedVariables false
namespace Go.Proofs.YtpboencfnjmmbaaGreatDoor
open Go.RowKit Go.Shelf Go.Lib Go.Sort TM
abbrev PredM (p : ByteArray → Bool) (base : Nat) (q : Option Addr) (w : World) : Prop :=
 ∀ (W : World) (x : ByteArray), Below base w W → Calls Tryz.prog 35 #[.string x, .pointer q] W fun e w' => e = .returned (.bool (p x)) ∧ Below W.heap.size W w'
theorem idxFM {l : List ByteArray} {p : ByteArray → Bool} {base g o cap : Nat} {q : Option Addr} {w : World} (hlen : l.length ≤ 9223372036854775807) (hA : StrAt w g o l) (hg : g < w.heap.size) (hB : base ≤ w.heap.size) (hP : PredM p base q w) :
 Calls Tryz.prog 60 #[.slice (some ⟨g, o, none⟩) l.length cap, .func (.func 35) #[] #[.pointer q]] w fun e w' => ((e = .returned (.int .i64 (-1)) ∧ ∀ j, j < l.length → p l[j]! = false) ∨ ∃ k, k < l.length ∧ e = .returned (.int .i64 ((k : Nat) : Int)) ∧ p l[k]! = true ∧ ∀ j, j < k → p l[j]! = false) ∧ Below w.heap.size w w' := by
 have HA := Lib.hid hA
 have HP := Lib.hid hP
 clear hA hP
 go_enter Tryz.func60, Tryz.ntmps60
 go_wp2_with fail
 go_loopw [8] (fun i wr => ∃ k : Nat, i = .int .i64 (k : Int) ∧ k ≤ l.length ∧ Hid (Below w.heap.size w wr) ∧ Hid (∀ j, j < k → p l[j]! = false))
  (fun i _ => l.length - (Go.RowKit.intOf i).toNat)
 case atStart => exact ⟨0, rfl, Nat.zero_le _, Below.refl _ _, fun j hj => absurd hj (Nat.not_lt_zero _)⟩
 case round =>
  obtain ⟨k, rfl, hk, HB, HK⟩ := hrel
  obtain ⟨W0, hW0⟩ : ∃ W0, W0 = wr := ⟨_, rfl⟩
  subst hW0
  by_cases hlt : k < l.length
  ·have hidx : 0 ≤ (k : Int) ∧ (k : Int) < (l.length : Int) := ⟨by omega, by omega⟩
   have c0 : W0.cell? ⟨g, o + k, none⟩ = some (.string l[k]!) := (World.cell?_of_block (w := w) (HB.out.block g hg)).trans (strAt_cell HA.out k hlt)
   have HC : Hid (Calls Tryz.prog 35 #[.string l[k]!, .pointer q] W0 fun e w' => e = .returned (.bool (p l[k]!)) ∧ Below W0.heap.size W0 w') := HP.out W0 _ (HB.out.mono hB)
   obtain ⟨x, hx⟩ : ∃ x, x = l[k]! := ⟨_, rfl⟩
   rw [← hx] at c0 HC
   have HX := Lib.hid hx
   clear hx
   cases hq : p x with
   | false =>
    rw [hq] at HC
    have HQ := Lib.hid hq
    clear hq
    go_wp2_with fail
    refine HC.out.mono ?_
    rintro e w1 ⟨rfl, b1⟩
    have HB1 : Hid (Below w.heap.size w w1) := HB.out.trans (b1.mono HB.out.size)
    clear b1
    go_wp2_with fail
    go_roundw
    case rel => exact ⟨k + 1, by go_num, by omega, HB1, fun j hj => by
     by_cases e : j = k
     ·subst e; rw [← HX.out]; exact HQ.out
     ·exact HK.out j (by omega)⟩
    case measure => simp [Go.RowKit.intOf]; omega
   | true =>
    rw [hq] at HC
    have HQ := Lib.hid hq
    clear hq
    go_wp2_with fail
    refine HC.out.mono ?_
    rintro e w1 ⟨rfl, b1⟩
    have HB1 : Hid (Below w.heap.size w w1) := HB.out.trans (b1.mono HB.out.size)
    clear b1
    go_wp2_with fail
    go_ret
    exact ⟨.inr ⟨k, hlt, rfl, by rw [← HX.out]; exact HQ.out, HK.out⟩, HB1.out⟩
  ·obtain rfl : k = l.length := by omega
   go_wp2
   go_ret
   exact ⟨.inl ⟨rfl, HK.out⟩, HB.out⟩
theorem own_sets {base : Nat} {e : TypeId} {g n cap i : Nat} (hb : base ≤ g) : ∀ (vs : List Value) (o : Nat) (w : World) (xs : List Value), i ≤ o → w.ownsRow base e 1 (.slice (some ⟨g, 0, none⟩) n cap) n xs →
 ∃ xs', (w.setCells g o vs).ownsRow base e 1 (.slice (some ⟨g, 0, none⟩) n cap) n xs' ∧ xs'.take i = xs.take i ∧ Below base w (w.setCells g o vs)
 | [], o, w, xs, _, h => ⟨xs, h, rfl, Below.refl _ _⟩
 | v :: vs, o, w, xs, hi, h => by
  obtain ⟨h1, _⟩ := h.stored o v
  obtain ⟨xs', a, b, c⟩ := own_sets (i := i) hb vs (o + 1) _ _ (by omega) h1
  exact ⟨xs', a, b.trans (List.take_set_of_le hi), ((Below.refl _ _).setCell hb _).trans c⟩
theorem own_cut {base : Nat} {e : TypeId} {g n cap i : Nat} {w : World} {xs : List Value} (h : w.ownsRow base e 1 (.slice (some ⟨g, 0, none⟩) n cap) n xs) (hi : i ≤ n) : w.ownsRow base e 1 (.slice (some ⟨g, 0, none⟩) i cap) i (xs.take i) := by
 have hx := h.1
 rcases h.2 with ⟨h', _⟩ | ⟨g', cap', cur, h', hb, hg, hnc, hcm, hcs, ht⟩
 ·simp at h'
 ·simp only [Value.slice.injEq, Option.some.injEq, Addr.mk.injEq, and_true, true_and] at h'
  obtain ⟨rfl, rfl⟩ := h'
  refine ⟨by rw [List.length_take]; omega, .inr ⟨g, cap, cur, rfl, hb, hg, by omega, hcm, hcs, ?_⟩⟩
  rw [← ht, List.take_take]
  congr 1
  omega
theorem zeroStrM (w : World) : (zeroValue 9).run Tryz.prog w = .ok (.string ⟨#[]⟩) w := by kernel_rfl
theorem delFM_at {l : List ByteArray} {p : ByteArray → Bool} {base g cap : Nat} {q : Option Addr} {w : World} (h : w.ownsRow base 9 1 (.slice (some ⟨g, 0, none⟩) l.length cap) l.length (l.map .string)) (hB : base ≤ w.heap.size) (hP : PredM p base q w) :
 Calls Tryz.prog 34 #[.slice (some ⟨g, 0, none⟩) l.length cap, .func (.func 35) #[] #[.pointer q]] w fun e w' => ∃ v', e = .returned v' ∧ w'.ownsRow base 9 1 v' (l.filter fun x => !p x).length ((l.filter fun x => !p x).map .string) ∧ Below base w w' := by
 obtain ⟨g', cap', he, hbg, hgl, hn, hm, _, _⟩ := holds_of_ownsRow h (by simp)
 simp only [Value.slice.injEq, Option.some.injEq, Addr.mk.injEq, and_true, true_and] at he
 obtain ⟨rfl, rfl⟩ := he
 have hm2 : l.length ≤ 9223372036854775807 := by unfold maxLen at hm; omega
 have hA : StrAt w g 0 l := by
  rcases h.2 with ⟨h', _⟩ | ⟨g', cap', cur, h', hb, hg, hnc, hcm, hcs, ht⟩
  ·simp at h'
  ·simp only [Value.slice.injEq, Option.some.injEq, Addr.mk.injEq, and_true, true_and] at h'
   obtain ⟨rfl, rfl⟩ := h'
   exact strAt_row (n := l.length) hg (by rw [Nat.mul_one] at ht; exact ht)
 have HIX := Lib.hid (idxFM (cap := cap) hm2 hA hgl hB hP)
 obtain ⟨d, hd⟩ : ∃ d : Array ByteArray, d = l.toArray := ⟨_, rfl⟩
 have hds : d.size = l.length := by rw [hd]; simp
 have hdl : ∀ j, j < l.length → d[j]! = l[j]! := fun j hj => by rw [hd]; simp [getElem!_pos, hj]
 have hdt : d.toList = l := by rw [hd]
 obtain ⟨kp, hkp⟩ : ∃ kp : Nat → Bool, kp = fun j => !p d[j]! := ⟨_, rfl⟩
 have hkj : ∀ j, j < l.length → kp j = !p l[j]! := fun j hj => by rw [hkp]; show (!p d[j]!) = _; rw [hdl j hj]
 have hfl : keptUpTo kp d d.size = l.filter fun x => !p x := by rw [hkp, keptUpTo_filter (fun x => !p x) d, hdt]
 have HDL := Lib.hid hdl
 have HDT := Lib.hid hdt
 have HKJ := Lib.hid hkj
 have HFL := Lib.hid hfl
 have HR := Lib.hid h
 have HP := Lib.hid hP
 have HDS := Lib.hid hds
 unfold maxLen at hm
 clear h hP hA hd hkp hdl hdt hkj hfl hds
 go_enter Tryz.func34, Tryz.ntmps34
 go_wp2_with fail
 refine HIX.out.mono ?_
 rintro e w1 ⟨hc, b1⟩
 have HR1 : Hid (w1.ownsRow base 9 1 (.slice (some ⟨g, 0, none⟩) l.length cap) l.length (l.map .string)) := row_keep HR.out fun k hk => b1.block k (HR.out.lt k hk).2
 have HB1 : Hid (Below base w w1) := b1.mono hB
 clear b1 HIX
 rcases hc with ⟨rfl, hall⟩ | ⟨k0, hk0, rfl, ht, hall⟩
 ·have HALL := Lib.hid hall
  clear hall
  go_wp2_with fail
  go_ret
  have e1 : (l.filter fun x => !p x) = l := List.filter_eq_self.2 fun x hx => by
   obtain ⟨j, hj⟩ := List.getElem?_of_mem hx
   have hjl := (List.getElem?_eq_some_iff.1 hj).1
   have := HALL.out j hjl
   rw [getElem!_pos l j hjl, (List.getElem?_eq_some_iff.1 hj).2] at this
   rw [this]; rfl
  rw [e1]
  exact ⟨_, rfl, HR1.out, HB1.out⟩
 ·have hI0 : KeptInv kp d (k0 + 1) k0 d := KeptInv.start (fun j hj => by rw [HKJ.out j (by omega), hall j hj]; rfl) (by rw [HKJ.out k0 hk0, ht]; rfl)
  have HI0 := Lib.hid hI0
  have hne1 : ((k0 : Int) == -1) = false := beq_eq_false_iff_ne.2 (by omega)
  clear hI0 ht hall
  go_wp2_with fail
  go_loopg [5, 6, 7] l.length (fun gg s5 s6 _ wr => ∃ (i j : Nat) (dk : Array ByteArray), s5 = .int .i64 i ∧ s6 = .int .i64 j ∧ j ≤ l.length ∧ l.length - j ≤ gg ∧ Hid (wr.ownsRow base 9 1 (.slice (some ⟨g, 0, none⟩) l.length cap) l.length (dk.toList.map .string)) ∧ Hid (Below base w wr) ∧ Hid (KeptInv kp d j i dk))
  case atStart => exact ⟨k0, k0 + 1, d, rfl, by go_num, by omega, by omega, by rw [HDT.out]; exact HR1.out, HB1.out, HI0.out⟩
  case round =>
   obtain ⟨i, j, dk, rfl, rfl, hjd, hgg, HRk, HBk, HI⟩ := hrel
   obtain ⟨W0, hW0⟩ : ∃ W0, W0 = wr := ⟨_, rfl⟩
   subst hW0
   have hij := HI.out.lt
   have hdk : dk.size = l.length := HI.out.size.trans HDS.out
   have hcell : ∀ (W : World), W.ownsRow base 9 1 (.slice (some ⟨g, 0, none⟩) l.length cap) l.length (dk.toList.map .string) → ∀ t, t < l.length → W.cell? ⟨g, t, none⟩ = some (.string dk[t]!) := fun W hW t ht => by
    rw [hW.cellAt t (by omega), List.getElem?_map, Array.getElem?_toList, Array.getElem?_eq_getElem (by omega), getElem!_pos dk t (by omega)]
    rfl
   by_cases hlt : j < l.length
   ·have hltz : (j : Int) < (l.length : Int) := by omega
    have cj := hcell W0 HRk.out j hlt
    rw [HI.out.high j (by omega), HDL.out j hlt] at cj
    have HC : Hid (Calls Tryz.prog 35 #[.string l[j]!, .pointer q] W0 fun e w' => e = .returned (.bool (p l[j]!)) ∧ Below W0.heap.size W0 w') := HP.out W0 _ HBk.out
    obtain ⟨x, hx⟩ : ∃ x, x = l[j]! := ⟨_, rfl⟩
    rw [← hx] at cj HC
    have HX := Lib.hid hx
    have HCE := Lib.hid hcell
    clear hx hcell
    cases hq : p x with
    | false =>
     rw [hq] at HC
     have HQ := Lib.hid hq
     clear hq
     go_wp2_with fail
     refine HC.out.mono ?_
     rintro e w2 ⟨rfl, b2⟩
     have HR2 : Hid (w2.ownsRow base 9 1 (.slice (some ⟨g, 0, none⟩) l.length cap) l.length (dk.toList.map .string)) := row_keep HRk.out fun k hk => b2.block k (HRk.out.lt k hk).2
     have HB2 : Hid (Below base w w2) := HBk.out.trans (b2.mono (Nat.le_trans hB HBk.out.size))
     have ci := HCE.out w2 HR2.out i (by omega)
     have fi := HR2.out.frozenAt i
     generalize dk[i]! = old at ci
     clear b2 HRk HBk HC cj
     go_wp2_with fail
     go_roundg (l.length - (j + 1))
     case measure => omega
     case rel =>
      refine ⟨i + 1, j + 1, dk.setIfInBounds i x, by go_num, by go_num, by omega, Nat.le_refl _, ?_, ?_, ?_⟩
      ·have := (HR2.out.stored i (.string x)).1
       rw [← List.map_set, ← Array.toList_setIfInBounds] at this
       exact this
      ·exact HB2.out.setCell (by exact hbg) _
      ·have := HI.out.keep (by rw [HDS.out]; exact hlt) (by rw [HKJ.out j hlt, ← HX.out, HQ.out]; rfl)
       rwa [HDL.out j hlt, ← HX.out] at this
    | true =>
     rw [hq] at HC
     have HQ := Lib.hid hq
     clear hq
     go_wp2_with fail
     refine HC.out.mono ?_
     rintro e w2 ⟨rfl, b2⟩
     have HR2 : Hid (w2.ownsRow base 9 1 (.slice (some ⟨g, 0, none⟩) l.length cap) l.length (dk.toList.map .string)) := row_keep HRk.out fun k hk => b2.block k (HRk.out.lt k hk).2
     have HB2 : Hid (Below base w w2) := HBk.out.trans (b2.mono (Nat.le_trans hB HBk.out.size))
     clear b2 HRk HBk HC cj
     go_wp2_with fail
     go_roundg (l.length - (j + 1))
     case measure => omega
     case rel => exact ⟨i, j + 1, dk, rfl, by go_num, by omega, Nat.le_refl _, HR2.out, HB2.out, HI.out.skip (by rw [HKJ.out j hlt, ← HX.out, HQ.out]; rfl)⟩
   ·obtain rfl : j = l.length := by omega
    have hltz : ¬ (l.length : Int) < (l.length : Int) := by omega
    have hcl : ∀ ty, (Builtin.clear_ #[63] ty #[.slice (some ⟨g, i, none⟩) (l.length - i) (cap - i)]).run Tryz.prog W0 = .ok (.tuple #[]) (W0.setCells g i (List.replicate (l.length - i) (.string ⟨#[]⟩))) :=
     fun ty => Lib.run_clear_slice W0 _ _ ty _ Tryz.underlying63 zeroStrM rfl rfl g i _ _ (by omega) (fun t ht => by rw [hcell W0 HRk.out (i + t) (by omega)]; rfl) (fun t ht => HRk.out.frozenAt (i + t))
    obtain ⟨xs', ho, htk, hbw⟩ := own_sets (i := i) hbg (List.replicate (l.length - i) (.string ⟨#[]⟩)) i W0 _ (Nat.le_refl _) HRk.out
    have HO := Lib.hid (own_cut ho (show i ≤ l.length by omega))
    have HTK := Lib.hid htk
    have HBW : Hid (Below base w (W0.setCells g i (List.replicate (l.length - i) (.string ⟨#[]⟩)))) := HBk.out.trans hbw
    clear hcell ho htk hbw
    go_wp2_with fail
    go_ret
    have hlen : (l.filter fun x => !p x).length = i := by rw [← HFL.out, HDS.out]; exact HI.out.len
    refine ⟨_, rfl, ?_, HBW.out⟩
    rw [hlen]
    have e2 : (l.filter fun x => !p x).map Value.string = xs'.take i := by
     rw [HTK.out, ← HFL.out, HDS.out]
     apply List.ext_getElem?
     intro t
     rw [List.getElem?_take, List.getElem?_map, List.getElem?_map, show dk.toList[t]? = dk[t]? from Array.getElem?_toList]
     by_cases htt : t < i
     ·rw [if_pos htt, HI.out.low t htt, Array.getElem?_eq_getElem (by omega), getElem!_pos dk t (by omega)]
     ·rw [if_neg htt, List.getElem?_eq_none (by rw [HI.out.len]; omega)]; rfl
    rw [e2]
    exact HO.out
end Go.Proofs.YtpboencfnjmmbaaGreatDoor
namespace Go.Proofs.YtpboencfnjmmbaaGreatDoor
open Go.RowKit Go.Shelf Go.Lib Go.Sort TM
theorem cloneS_any {l : List ByteArray} {base : Nat} {v : Value} {w : World} (h : w.ownsRow base 9 1 v l.length (strCs l)) (hl : l.length ≤ 1000000) :
 Calls Tryz.prog 32 #[v] w fun e w' => ∃ v', e = .returned v' ∧ w'.ownsRow w.heap.size 9 1 v' l.length (strCs l) ∧ Below w.heap.size w w' := by
 rcases h.2 with ⟨rfl, h0⟩ | ⟨g, cap, cur, rfl, hb, hg, h1, h2, h3, h4⟩
 ·refine (AnyE.slices_Clone_nil Tryz.cloneStrs 0 0 w).mono ?_
  rintro e w' ⟨rfl, rfl⟩
  obtain rfl := List.length_eq_zero_iff.1 h0
  exact ⟨_, rfl, World.ownsRow_nil _ _ _ _, Below.refl _ _⟩
 ·obtain ⟨i0, hi, hz0, hz1, hz2⟩ := info_parts infoString
  refine (AnyE.slices_Clone Tryz.cloneStrs i0 _ 1 16 hi hz0 hz1 hz2 rfl (by decide) (fun W => by exact Tryz.sizeOf9 W) g 0 l.length cap (strCs l) w (by simp [strCs]) (by unfold maxLen; omega) (by omega) (fun j u hj => ?_) (fun u hu => ?_)).mono ?_
  ·rw [Nat.zero_add, h.cellAt j (by have := (List.getElem?_eq_some_iff.1 hj).1; simp [strCs] at this; omega)]
   exact hj
  ·obtain ⟨x, _, rfl⟩ := List.mem_map.1 hu
   rfl
  ·rintro e w' ⟨v', rfl, h5, _, h6⟩
   exact ⟨v', rfl, h5, h6⟩
theorem more1_any {n b : Nat} (hn : n ≤ 255) {w : World} (hb : w.cell? ⟨b, 0, none⟩ = some (.int .u8 (n : Int))) (x : ByteArray) :
 Calls Tryz.prog 35 #[.string x, .pointer (some ⟨b, 0, none⟩)] w fun e w' => e = .returned (.bool (decide (x = nm n))) ∧ Below w.heap.size w w' := by
 have HN := Lib.hid (name_any n hn w)
 have he := bytes_beq x (nm n)
 obtain ⟨z, hz⟩ : ∃ z, z = nm n := ⟨_, rfl⟩
 rw [← hz] at HN he ⊢
 clear hz
 generalize decide (x = z) = d at he ⊢
 go_enter Tryz.func35, Tryz.ntmps35
 go_wp2_with (go_at_call 33; refine HN.out.mono ?_; rintro e w1 ⟨rfl, b1⟩)
 go_ret
 exact ⟨rfl, b1⟩
theorem delM_any {l : List ByteArray} {n base b : Nat} {v : Value} {w : World} (hn : n ≤ 255) (h : w.ownsRow base 9 1 v l.length (l.map .string)) (hb : w.cell? ⟨b, 0, none⟩ = some (.int .u8 (n : Int))) (hbb : b < base) (hbl : base ≤ w.heap.size) :
 Calls Tryz.prog 34 #[v, .func (.func 35) #[] #[.pointer (some ⟨b, 0, none⟩)]] w fun e w' => ∃ v', e = .returned v' ∧ w'.ownsRow base 9 1 v' (outN [nm n] l).length ((outN [nm n] l).map .string) ∧ Below base w w' := by
 have hP : PredM (fun x => decide (x = nm n)) base (some ⟨b, 0, none⟩) w := fun W x hW => more1_any hn ((World.cell?_of_block (w := w) (hW.block b hbb)).trans hb) x
 have e1 : (l.filter fun x => !decide (x = nm n)) = outN [nm n] l := by
  unfold outN
  congr 1
  funext x
  simp [inN, eq_comm]
 by_cases h0 : v = .slice none 0 0
 ·subst h0
  obtain rfl : l = [] := by
   rcases h.2 with ⟨_, h1⟩ | ⟨g, cap, cur, h1, _⟩
   ·exact List.length_eq_zero_iff.1 h1
   ·simp at h1
  refine (delF_nil _ w).mono ?_
  rintro e w' ⟨rfl, rfl⟩
  exact ⟨_, rfl, World.ownsRow_nil _ _ _ _, Below.refl _ _⟩
 ·obtain ⟨g, cap, rfl, _, _, _, _, _, _⟩ := holds_of_ownsRow h h0
  refine (delFM_at h hbl hP).mono ?_
  rintro e w' ⟨v', rfl, h1, h2⟩
  rw [e1] at h1
  exact ⟨v', rfl, h1, h2⟩
end Go.Proofs.YtpboencfnjmmbaaGreatDoor

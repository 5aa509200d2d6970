/-
  The walk of sweep.Reach: it returns the set of what is reached from roots by what objects name; nothing that was there is turned.
  Conditions: as the theorem says (at most 100000 slots; membranes 0 to 3).
-/
import Derived.Test.YtpgbfkdknggceaaGreatDoorReach
namespace Go.Proofs.YtpgbfkdknggceaaGreatDoor
open Go.ChangeShapes Go.WideShapes Go.ChangeAt Go.RowKit Go.Maps Go.Sort Go.Lib
set_option linter.unusedVariables false
/-- Roots: none, or a row that is only looked at. -/
def RootsAt (w : World) (v : Value) (l : List Int) : Prop := (v = .slice none 0 0 ∧ l = []) ∨ ∃ g, LiesAt w v l g
theorem LiesAt.below {w w' : World} {v : Value} {l : List Int} {g : Nat} (h : LiesAt w v l g) (hb : Below w.heap.size w w') : LiesAt w' v l g := by
  obtain ⟨off, cap, h1, h2, h3, h4, h5⟩ := h
  exact ⟨off, cap, h1, h2, h3, Nat.lt_of_lt_of_le h4 hb.size, fun j x hj => (hb.cell (p := ⟨g, off + j, none⟩) h4).trans (h5 j x hj)⟩
theorem reach_roots {base ab ba br bw sb : Nat} {w0 w : World} {s : St} {roots : List Int} {rv : Value} (hA : Arn base ab w0 s) (hl : s.slots.length ≤ 100000) (hR : RI w0 ab ba br bw sb ([], []) w) (hr : RootsAt w0 rv roots) (hb : ∀ x ∈ roots, 0 ≤ x ∧ x ≤ 18446744073709551615) (nm : Int → List Int) :
    Calls Tryz.prog 70 #[rv, .pointer (some ⟨ba, 0, none⟩), .pointer (some ⟨br, 0, none⟩), .pointer (some ⟨bw, 0, none⟩)] w fun e w' => e = .returned (.tuple #[]) ∧ ∃ S' wk', RI w0 ab ba br bw sb (S', wk') w' ∧ Going (lives s) nm roots S' wk' := by
  have hN := Going.start (lives s) nm roots
  rcases hr with ⟨rfl, rfl⟩ | ⟨g, hg⟩
  · refine (reach_none (w0 := w0)).mono ?_
    rintro e w' ⟨rfl, rfl⟩
    exact ⟨rfl, [], [], hR, hN⟩
  · have hgl : g < w0.heap.size := by obtain ⟨_, _, _, _, _, h4, _⟩ := hg; exact h4
    refine (reach_row hA hR (hg.below hR.B) (fun u hu => ?_) hb (by simp) (by simp) hl (by simp)).mono ?_
    · obtain ⟨u', h1, h2⟩ := hR.W
      rw [hu] at h1
      simp at h1
      subst h1
      intro e
      have := (h2.lt g e).1
      omega
    · rintro e w' ⟨rfl, h1⟩
      exact ⟨rfl, _, _, h1, hN⟩
theorem RI.start (w : World) (ab : Nat) : RI w ab w.heap.size (w.heap.size + 1 + 1) (w.heap.size + 1 + 1 + 1) (w.heap.size + 1) ([], []) ((((w.alloc (.cells #[.pointer (some ⟨ab, 0, none⟩)] 79)).alloc (.map #[] 0)).alloc (.cells #[.map (some (w.heap.size + 1))] 90)).alloc (.cells #[.slice none 0 0] 80)) := by
  have s1 : (w.alloc (.cells #[.pointer (some ⟨ab, 0, none⟩)] 79)).heap.size = w.heap.size + 1 := by simp
  have s2 : ((w.alloc (.cells #[.pointer (some ⟨ab, 0, none⟩)] 79)).alloc (.map #[] 0)).heap.size = w.heap.size + 1 + 1 := by simp
  have s3 : (((w.alloc (.cells #[.pointer (some ⟨ab, 0, none⟩)] 79)).alloc (.map #[] 0)).alloc (.cells #[.map (some (w.heap.size + 1))] 90)).heap.size = w.heap.size + 1 + 1 + 1 := by simp
  have m1 := RSet.made (w.alloc (.cells #[.pointer (some ⟨ab, 0, none⟩)] 79))
  rw [s1] at m1
  have r1 := heap_alloc_new ((w.alloc (.cells #[.pointer (some ⟨ab, 0, none⟩)] 79)).alloc (.map #[] 0)) (.cells #[.map (some (w.heap.size + 1))] 90)
  rw [s2] at r1
  have w1 := heap_alloc_new (((w.alloc (.cells #[.pointer (some ⟨ab, 0, none⟩)] 79)).alloc (.map #[] 0)).alloc (.cells #[.map (some (w.heap.size + 1))] 90)) (.cells #[.slice none 0 0] 80)
  rw [s3] at w1
  refine ⟨⟨by omega, by omega⟩, block_alloc (block_alloc (block_alloc (heap_alloc_new w _) _) _) _, block_alloc r1 _, ⟨_, w1, World.ownsRow_nil _ _ _ _⟩, ?_, ?_⟩
  · exact (m1.kept (Below.heap_alloc _ _ _ m1.lt)).kept (Below.heap_alloc _ _ _ (by simp))
  · exact ((((Below.refl _ w).alloc (Nat.le_refl _) _).alloc (by simp) _).alloc (by simp; omega) _).alloc (by simp; omega) _
theorem entersGet (args : Array Value) (w : World) : (callFunc 66 args).run Tryz.prog w = .ok (.enter 66 args) w := by kernel_rfl
theorem lives_range {s : St} {r : Int} (h : lives s r = true) (hu : ∀ (n : Nat) (sl : Sl), s.slots[n]? = some sl → sl.uses ≤ 4294967295 := by assumption) : 0 ≤ r ∧ r ≤ 18446744073709551615 := by
  obtain ⟨sl, h1, h2, _⟩ := lives_slot h
  have := hu _ sl h1
  omega
set_option maxRecDepth 100000 in
set_option maxHeartbeats 2000000 in
theorem reach_any {base ab dg : Nat} {lb : Array Value} {w : World} {s : St} {fl : Nat → List (Vl × Vl)} {dd : Int → Bool} {roots : List Int} {rv : Value} (hA : Arn base ab w s) (hO : Objs w s fl) (hl : s.slots.length ≤ 100000) (hu : ∀ (n : Nat) (sl : Sl), s.slots[n]? = some sl → sl.uses ≤ 4294967295) (hr : RootsAt w rv roots) (hb : ∀ x ∈ roots, 0 ≤ x ∧ x ≤ 18446744073709551615) (hD : DeadF w dg lb dd) :
    Calls Tryz.prog 50 #[.pointer (some ⟨ab, 0, none⟩), rv, .func (.func dg) #[] lb] w fun e w' => ∃ sb, e = .returned (.map (some sb)) ∧ ∃ S, RSet w' sb S ∧ (∀ x, x ∈ S ↔ Rch (lives s) (nmOf s fl dd) roots x) ∧ w.heap.size ≤ sb ∧ Below w.heap.size w w' := by
  have hmm := @run_makeMap Tryz.prog
  have HA : Hid (Arn base ab w s) := hA
  have HO : Hid (Objs w s fl) := hO
  have HR : Hid (RootsAt w rv roots) := hr
  have HB : Hid (∀ x ∈ roots, 0 ≤ x ∧ x ≤ 18446744073709551615) := hb
  have HD : Hid (∀ (W : World) (x : Int), Below w.heap.size w W → 0 ≤ x → x ≤ 3 → Calls Tryz.prog dg (#[.int .i64 x] ++ lb) W fun e w' => e = .returned (.bool (dd x)) ∧ ∃ q, w' = W.drewN q) := hD.2
  have eD := hD.1
  clear hA hO hr hb hD
  go_enter Tryz.func50, Tryz.ntmps50
  go_wp2_with fail
  refine (orNone_some _ _ _).mono ?_
  rintro e wx ⟨rfl, rfl⟩
  go_wp2_with fail
  refine (reach_roots HA.out hl (RI.start w ab) HR.out HB.out (nmOf s fl dd)).mono ?_
  rintro e w1 ⟨rfl, S1, wk1, hR1, hG1⟩
  go_wp2_with fail
  generalize w.heap.size + 1 + 1 + 1 = bw at hR1 ⊢
  generalize w.heap.size + 1 + 1 = br at hR1 ⊢
  obtain ⟨sb, hsb⟩ : ∃ sb, sb = w.heap.size + 1 := ⟨_, rfl⟩
  rw [← hsb] at hR1 ⊢
  have hbs : w.heap.size ≤ sb := by omega
  clear hsb
  go_loopw [10] (fun _ wr => ∃ S wk, RI w ab w.heap.size br bw sb (S, wk) wr ∧ Going (lives s) (nmOf s fl dd) roots S wk)
    (fun _ wr => (s.slots.length - mapSize wr sb) + boxLen wr bw)
  case atStart => exact ⟨S1, wk1, hR1, hG1⟩
  case round =>
    clear hR1 hG1
    obtain ⟨S, wk, hR, hG⟩ := hrel
    obtain ⟨v, hv, hrow⟩ := hR.W
    simp only at hrow
    obtain ⟨cV, cVf⟩ := box1 hv
    obtain ⟨cR, cRf⟩ := box1 hR.R
    obtain ⟨cA, cAf⟩ := box1 hR.A
    have HS := hR.sizes
    simp only at HS
    rcases List.eq_nil_or_concat wk with rfl | ⟨l, x, rfl⟩
    · obtain ⟨ao, cap, rfl, hc1, hc2⟩ := row_shape hrow
      simp only [List.length_nil] at cV
      unfold maxLen at hc2
      have hM := hR.M
      have hB := hR.B
      have HG : Hid (∀ x, x ∈ S ↔ Rch (lives s) (nmOf s fl dd) roots x) := hG.done
      clear hG hR hrow hv HS
      go_wp2
      go_ret
      exact ⟨sb, rfl, S, hM, HG.out, hbs, hB⟩
    · rw [List.concat_eq_append] at hR hG hrow HS
      rw [List.length_append, List.length_singleton] at hrow HS
      obtain ⟨g, cap, cur, rfl, hc1, hc2, hgb, hgg⟩ := row_at hrow (by omega)
      unfold maxLen at hc2
      have e0 : wr.cell? ⟨g, l.length, none⟩ = some (.int .u64 x) := by
        rw [hrow.cellAt l.length (by omega)]; simp [refRow]
      have hbd := hG.bound
      simp at hbd
      have hxS : x ∈ S := hG.wait x (by simp)
      have hxl := (hG.sound x hxS).live
      obtain ⟨b, o, hlk⟩ : ∃ b o, look s.slots x = some (b, o) := by
        unfold lives at hxl
        cases h : look s.slots x with
        | none => rw [h] at hxl; simp at hxl
        | some p => exact ⟨p.1, p.2, rfl⟩
      have HGe : Hid (∀ n, Calls Tryz.prog 66 #[.pointer (some ⟨ab, 0, none⟩), .int .u64 x] (wr.drewN n) fun e w' => e = .returned (.pointer (some ⟨b, 0, none⟩)) ∧ ∃ m, w' = (wr.drewN n).drewN m) :=
        fun n => get_ptr ((HA.out.below hR.B).drewN n) x (by have := lives_range hxl; omega) (by have := lives_range hxl; omega) (some (b, o)) hlk
      have HL : Hid (look s.slots x = some (b, o)) := hlk
      have HGo : Hid (Going (lives s) (nmOf s fl dd) roots S (l ++ [x])) := hG
      have HRI : Hid (RI w ab w.heap.size br bw sb (S, l ++ [x]) wr) := hR
      have HV : Hid (wr.heap[bw]? = some (.cells #[.slice (some ⟨g, 0, none⟩) (l.length + 1) cap] 80 (0, 0))) := hv
      have hidx : 0 ≤ (l.length : Int) ∧ (l.length : Int) < (l.length + 1 : Int) := ⟨by omega, by omega⟩
      clear hlk hG hR hv hrow hxl hxS hgg
      go_wp2_with fail
      go_quiet ((go_at_call 66; exact Calls.quiet_of (HGe.out _)))
      clear HGe
      go_upto_region 10 with fail
      have HRP : RI w ab w.heap.size br bw sb (S, l) ((wr.drewN nq).setCell ⟨bw, 0, none⟩ (.slice (some ⟨g, 0, none⟩) l.length cap)) := (HRI.out.grow (below_drewN (Below.refl _ _) nq)).pop HV.out
      have HSZ : (s.slots.length - mapSize wr sb) + boxLen wr bw = (s.slots.length - S.length) + (l.length + 1) := by rw [HS.1, HS.2]
      clear HS HRI HV cV cVf cR cRf cA cAf e0
      generalize (wr.drewN nq).setCell ⟨bw, 0, none⟩ (.slice (some ⟨g, 0, none⟩) l.length cap) = W2 at HRP ⊢
      have hA2 := HA.out.below HRP.B
      have hO2 := (HO.out.below HRP.B).at HL.out
      have hob := hA2.at HL.out
      obtain ⟨k0, k11⟩ := ob_kind hob
      have HHO : Hid (Calls Tryz.prog 72 #[.pointer (some ⟨b, 0, none⟩)] W2 fun e w' => ∃ v, e = .returned v ∧ w'.ownsRow W2.heap.size 94 1 v ((namesOf (fl (x % 4294967296).toNat) [] o.br ⟨o.ck, o.cn, o.cs⟩ o.ta).filter fun x => !(x == 0)).length (((namesOf (fl (x % 4294967296).toNat) [] o.br ⟨o.ck, o.cn, o.cs⟩ o.ta).filter fun x => !(x == 0)).map (Value.int .u64)) ∧ Below W2.heap.size W2 w') :=
        holds_any (b2 := 0) (held := []) hob hO2.1 (by rw [hO2.2.1]; exact World.ownsRow_nil _ _ _ _) (by omega) (by simp)
      have hme : 0 ≤ o.me ∧ o.me ≤ 3 := hO2.2.2.2.2.2.2.2
      clear hO2 hob hA2 hmm
      cases hk : (o.k != 6) with
      | true =>
        have HKD : Hid ((o.k == 6 && dd o.me) = false) := by
          show _ = _
          have : (o.k == 6) = false := by simpa using hk
          rw [this]; rfl
        go_wp2_with fail
        refine HHO.out.mono ?_
        rintro e wh ⟨vh, rfl, hvh, hbh⟩
        go_wp2_with fail
        refine (reach_named HA.out HO.out hl HRP HL.out HKD.out HGo.out hbh hvh).mono ?_
        rintro e w9 ⟨rfl, S9, wk9, hR9, hG9, hs9⟩
        have hz9 := hR9.sizes
        have hb9 := hG9.bound
        go_wp2_with fail
        exact ⟨⟨S9, wk9, hR9, hG9⟩, by rw [HSZ, hz9.1, hz9.2]; omega⟩
      | false =>
        cases hd : dd o.me with
        | true =>
          have hsk : nmOf s fl dd x = [] := by
            unfold nmOf
            rw [HL.out]
            have : (o.k == 6) = true := by simpa using hk
            simp [this, hd]
          have HSK := HGo.out.skip hsk
          have HC : Hid (∀ W : World, Below w.heap.size w W → Calls Tryz.prog dg (#[.int .i64 o.me] ++ lb) W fun e w' => e = .returned (.bool true) ∧ ∃ q, w' = W.drewN q) := fun W hW => by have := HD.out W o.me hW hme.1 hme.2; rw [hd] at this; exact this
          clear hsk hd
          go_wp2_with fail
          refine (HC.out _ HRP.B).mono ?_
          rintro e w8 ⟨rfl, q, rfl⟩
          have hR8 := HRP.grow (below_drewN (Below.refl _ _) q)
          have hz8 := hR8.sizes
          have hb8 := HSK.bound
          go_wp2_with fail
          exact ⟨⟨S, l, hR8, HSK⟩, by rw [HSZ, hz8.1, hz8.2]; omega⟩
        | false =>
          have HKD : Hid ((o.k == 6 && dd o.me) = false) := by show _ = _; rw [hd]; simp
          have HC : Hid (∀ W : World, Below w.heap.size w W → Calls Tryz.prog dg (#[.int .i64 o.me] ++ lb) W fun e w' => e = .returned (.bool false) ∧ ∃ q, w' = W.drewN q) := fun W hW => by have := HD.out W o.me hW hme.1 hme.2; rw [hd] at this; exact this
          clear hd
          go_wp2_with fail
          refine (HC.out _ HRP.B).mono ?_
          rintro e w8 ⟨rfl, q, hw8⟩
          have hR8 : RI w ab w.heap.size br bw sb (S, l) w8 := by rw [hw8]; exact HRP.grow (below_drewN (Below.refl _ _) q)
          have hA8 := HA.out.below hR8.B
          have hO8 := (HO.out.below hR8.B).at HL.out
          have HH8 : Hid (Calls Tryz.prog 72 #[.pointer (some ⟨b, 0, none⟩)] w8 fun e w' => ∃ v, e = .returned v ∧ w'.ownsRow w8.heap.size 94 1 v ((namesOf (fl (x % 4294967296).toNat) [] o.br ⟨o.ck, o.cn, o.cs⟩ o.ta).filter fun x => !(x == 0)).length (((namesOf (fl (x % 4294967296).toNat) [] o.br ⟨o.ck, o.cn, o.cs⟩ o.ta).filter fun x => !(x == 0)).map (Value.int .u64)) ∧ Below w8.heap.size w8 w') :=
            holds_any (b2 := 0) (held := []) (hA8.at HL.out) hO8.1 (by rw [hO8.2.1]; exact World.ownsRow_nil _ _ _ _) (by omega) (by simp)
          clear hw8 hA8 hO8 HHO
          go_wp2_with fail
          refine HH8.out.mono ?_
          rintro e wh ⟨vh, rfl, hvh, hbh⟩
          go_wp2_with fail
          refine (reach_named HA.out HO.out hl hR8 HL.out HKD.out HGo.out hbh hvh).mono ?_
          rintro e w9 ⟨rfl, S9, wk9, hR9, hG9, hs9⟩
          have hz9 := hR9.sizes
          have hb9 := hG9.bound
          go_wp2_with fail
          exact ⟨⟨S9, wk9, hR9, hG9⟩, by rw [HSZ, hz9.1, hz9.2]; omega⟩
end Go.Proofs.YtpgbfkdknggceaaGreatDoor

/-
  The contract of M.Do, a step of kind 3: a mark.
  Conditions: as each theorem says.
-/
import Derived.Test.YtbbmcggalffecaaPlaysDo0
import Derived.BigQuiet
namespace Go.Proofs.Ytbbmcggalffecaa
open Go.ChangeShapes Go.WideShapes Go.ChangeAt Go.RowKit
set_option linter.unusedVariables false
theorem PO.drew {base ab mb k : Nat} {w w' : World} (h : PO base ab mb k w w') : PO base ab mb k w w'.drew := by
  obtain ⟨s, qs, L, G, h1, h2, h3, h4⟩ := h
  exact ⟨s, qs, L, G, h1.drew, h2.below ((Below.refl _ _).drew), h3, h4.drew⟩
theorem mem_set_cases {L : List Lv} {i : Nat} {p' q : Lv} (h : q ∈ L.set i p') : q ∈ L ∨ q = p' := by
  rcases List.mem_or_eq_of_mem_set h with h | h
  · exact .inl h
  · exact .inr h
theorem map_set_same {β : Type} (f : Lv → β) {L : List Lv} {i : Nat} {p p' : Lv} (hp : L[i]? = some p) (h : f p' = f p) : (L.set i p').map f = L.map f := by
  apply List.ext_getElem?
  intro j
  rw [List.getElem?_map, List.getElem?_map, List.getElem?_set]
  split
  · rename_i e
    subst e
    rw [if_pos (lt_of_get hp), hp]
    simp [h]
  · rfl
theorem PS.mark {s : St} {qs : List Int} {L : List Lv} {G : List (Nat × Nat)} {k : Nat} (h : PS s qs L G k) (i : Nat) (p : Lv) (hp : L[i]? = some p) (b : Nat) (ko mo : Int) (hb : s.slots[p.n]? = some ⟨p.u, some (b, ⟨ko, p.ow, p.mo, p.fu⟩)⟩) (h0 : -128 ≤ mo) (h1 : mo ≤ 127) :
    PS ⟨s.accs, s.slots.set p.n ⟨p.u, some (b, ⟨ko, p.ow, mo, p.fu⟩)⟩, s.unused⟩ qs (L.set i ⟨p.n, p.u, p.ow, mo, p.fu⟩) G (k + 1) := by
  have hm := h.more
  have ho : owL (L.set i ⟨p.n, p.u, p.ow, mo, p.fu⟩) = owL L := map_set_same Lv.ow hp rfl
  have hc : ∀ j, cntO (L.set i ⟨p.n, p.u, p.ow, mo, p.fu⟩) j = cntO L j := fun j => by unfold cntO; rw [ho]
  have hn := lt_of_get hb
  have hpm := List.mem_of_getElem? hp
  refine ⟨(h.live.mark i p hp b ko mo p.fu hb).1, h.al, fun j q hj => ?_, h.quo, fun j q hj => ?_, fun q hq => ?_, fun q hq => ?_, by simpa using hm.le, hm.gl, h.ql, by simpa using hm.sl, fun n sl e => ?_, hm.un, fun g hg => ?_⟩
  · rw [hc]; exact h.accs j q hj
  · rw [hc]; exact h.many j q hj
  · rcases mem_set_cases hq with hq | rfl
    · exact h.own q hq
    · exact h.own p hpm
  · rcases mem_set_cases hq with hq | rfl
    · exact h.mo q hq
    · exact ⟨h0, h1⟩
  · simp only at e
    by_cases hj : n = p.n
    · subst hj
      simp [hn] at e
      subst e
      have := hm.us _ _ hb
      exact this
    · rw [List.getElem?_set_ne (Ne.symm hj)] at e
      exact hm.us _ _ e
  · obtain ⟨sl, e1, e2, e3⟩ := h.stale g hg
    by_cases hj : g.1 = p.n
    · rw [hj, hb] at e1
      simp at e1
      subst e1
      refine ⟨⟨p.u, some (b, ⟨ko, p.ow, mo, p.fu⟩)⟩, by rw [hj]; simp [hn], e2, fun e => ?_⟩
      exact absurd (e3 e) (by simp)
    · exact ⟨sl, by simp only; rw [List.getElem?_set_ne (Ne.symm hj)]; exact e1, e2, e3⟩
/-- A mark is written. -/
theorem MI.mark {base mb gm cm i : Nat} {w : World} {qs : List Int} {L : List Lv} {G : List (Nat × Nat)} {vq vr vo vg : Value} {p : Lv} (mo : Int) (hb : base ≤ mb) (hp : L[i]? = some p)
    (m0 : w.heap[mb]? = some (.cells #[vq, vr, vo, .slice (some ⟨gm, 0, none⟩) L.length cm, vg] 31 (0, 0))) (m1 : w.ownsRow base 3 1 vq qs.length (qs.map (Value.int .i64))) (m2 : w.ownsRow base 51 1 vr (refL L).length ((refL L).map (Value.int .u64))) (m3 : w.ownsRow base 3 1 vo (owL L).length ((owL L).map (Value.int .i64))) (m4 : w.ownsRow base 2 1 (.slice (some ⟨gm, 0, none⟩) L.length cm) (moL L).length ((moL L).map (Value.int .i64))) (m5 : w.ownsRow base 51 1 vg (goneL G).length ((goneL G).map (Value.int .u64)))
    (m6 : vq.ownBlock = none ∨ vq.ownBlock ≠ vo.ownBlock) (m7 : vr.ownBlock = none ∨ vr.ownBlock ≠ vg.ownBlock) :
    MI base mb (w.setCell ⟨gm, i, none⟩ (.int .i64 mo)) qs (L.set i ⟨p.n, p.u, p.ow, mo, p.fu⟩) G ∧ Fr (only 2) base w (w.setCell ⟨gm, i, none⟩ (.int .i64 mo)) := by
  have hr : refL (L.set i ⟨p.n, p.u, p.ow, mo, p.fu⟩) = refL L := map_set_same (fun p => refN p.u p.n) hp rfl
  have ho : owL (L.set i ⟨p.n, p.u, p.ow, mo, p.fu⟩) = owL L := map_set_same Lv.ow hp rfl
  have hm : moL (L.set i ⟨p.n, p.u, p.ow, mo, p.fu⟩) = (moL L).set i mo := by unfold moL; rw [List.map_set]
  have hml : (moL L).length = L.length := by simp [moL]
  rw [hml] at m4
  obtain ⟨n4, hg⟩ := m4.stored i (.int .i64 mo)
  have hx : ∀ k, some gm = some k → mine (only 2) base w k := fun k hk => mine_row (T := only 2) m4 rfl k (by simpa [Value.ownBlock] using hk)
  have F : Fr (only 2) base w (w.setCell ⟨gm, i, none⟩ (.int .i64 mo)) := (Fr.refl _ _ _).grown hg hx
  refine ⟨⟨hb, vq, vr, vo, _, vg, F.block m0 rfl, F.row m1 rfl, ?_, ?_, ?_, F.row m5 rfl, m6, m7⟩, F⟩
  · rw [hr]; exact F.row m2 rfl
  · rw [ho]; exact F.row m3 rfl
  · rw [hm, List.map_set, List.length_set, hml]; exact n4
/-- An object's mark is written, here and there, in whichever order. -/
theorem both_mark {base ab mb gm cm i b k : Nat} {w W : World} {s : St} {qs : List Int} {L : List Lv} {G : List (Nat × Nat)} {vq vr vo vg : Value} {p : Lv} (ko mo : Int) (hA : Arn base ab w s) (hS : PS s qs L G k) (hbo : s.slots[p.n]? = some ⟨p.u, some (b, ⟨ko, p.ow, p.mo, p.fu⟩)⟩) (h0 : -128 ≤ mo) (h1 : mo ≤ 127) (hB : Below base W w) (hb : base ≤ mb) (hp : L[i]? = some p)
    (m0 : w.heap[mb]? = some (.cells #[vq, vr, vo, .slice (some ⟨gm, 0, none⟩) L.length cm, vg] 31 (0, 0))) (m1 : w.ownsRow base 3 1 vq qs.length (qs.map (Value.int .i64))) (m2 : w.ownsRow base 51 1 vr (refL L).length ((refL L).map (Value.int .u64))) (m3 : w.ownsRow base 3 1 vo (owL L).length ((owL L).map (Value.int .i64))) (m4 : w.ownsRow base 2 1 (.slice (some ⟨gm, 0, none⟩) L.length cm) (moL L).length ((moL L).map (Value.int .i64))) (m5 : w.ownsRow base 51 1 vg (goneL G).length ((goneL G).map (Value.int .u64)))
    (m6 : vq.ownBlock = none ∨ vq.ownBlock ≠ vo.ownBlock) (m7 : vr.ownBlock = none ∨ vr.ownBlock ≠ vg.ownBlock) :
    PO base ab mb (k + 1) W ((w.setCell ⟨gm, i, none⟩ (.int .i64 mo)).setCell ⟨b, 4, none⟩ (.int .i64 mo)) ∧ PO base ab mb (k + 1) W ((w.setCell ⟨b, 4, none⟩ (.int .i64 mo)).setCell ⟨gm, i, none⟩ (.int .i64 mo)) := by
  have hT : ∀ t, isA t = true → only 2 t = false := by intro t ht; simp [isA] at ht; simp [only]; omega
  have hS2 := hS.mark i p hp b ko mo hbo h0 h1
  have hbw : base ≤ w.heap.size := Nat.le_of_lt (Nat.lt_of_le_of_lt hb (lt_of_block m0))
  constructor
  · obtain ⟨M1, F1⟩ := MI.mark mo hb hp m0 m1 m2 m3 m4 m5 m6 m7
    obtain ⟨A2, F2⟩ := Arn.mark (j := 4) (v := .int .i64 mo) (o' := ⟨ko, p.ow, mo, p.fu⟩) (hA.fr F1 hT) hS.live hbo rfl
    exact ⟨_, qs, _, G, A2, M1.fr F2 rfl rfl rfl rfl, hS2, hB.trans ((F1.below hbw).trans (F2.below (Nat.le_trans hbw F1.size)))⟩
  · obtain ⟨A1, F1⟩ := Arn.mark (j := 4) (v := .int .i64 mo) (o' := ⟨ko, p.ow, mo, p.fu⟩) hA hS.live hbo rfl
    obtain ⟨M2, F2⟩ := MI.mark mo hb hp (F1.block m0 rfl) (F1.row m1 rfl) (F1.row m2 rfl) (F1.row m3 rfl) (F1.row m4 rfl) (F1.row m5 rfl) m6 m7
    exact ⟨_, qs, _, G, A1.fr F2 hT, M2, hS2, hB.trans ((F1.below hbw).trans (F2.below (Nat.le_trans hbw F1.size)))⟩
set_option maxRecDepth 100000 in
set_option maxHeartbeats 4000000 in
/-- A mark, where nothing lives. -/
theorem do_3none {base ab mb k : Nat} {w : World} {s : St} {qs : List Int} {L : List Lv} {G : List (Nat × Nat)} (hA : Arn base ab w s) (hM : MI base mb w qs L G) (hS : PS s qs L G k) (d a b n : Int) (hd : d % 4 = 3) (hd0 : 0 ≤ d) (hd1 : d ≤ 255) (hbw : base ≤ w.heap.size) (hL : L.length = 0) :
    Calls Try.prog 11 #[.pointer (some ⟨mb, 0, none⟩), .pointer (some ⟨ab, 0, none⟩), .agg #[.int .u8 d, .int .u8 a, .int .u8 b, .int .i8 n]] w fun e w' => e = .returned (.bool true) ∧ PO base ab mb (k + 1) w w' := by
  obtain ⟨vq, vr, vo, vm, vg, m0, m1, m2, _⟩ := hM.rows
  have hmb := lt_of_block m0
  obtain ⟨c0, c1, c2, c3, c4, cf⟩ := five m0
  obtain ⟨aq, cq, hvq, hq1, hq2⟩ := row_shape m2
  rw [hvq, show (refL L).length = 0 from by simp [refL, hL]] at c1
  have hb0 : (d % 4 == 0) = false := by rw [hd]; rfl
  have hb1 : (d % 4 == 1) = false := by rw [hd]; rfl
  have hb2 : (d % 4 == 2) = false := by rw [hd]; rfl
  have R : PO base ab mb (k + 1) w (w.alloc (.cells #[.int .u8 d, .int .u8 a, .int .u8 b, .int .i8 n] 34)) := ⟨s, qs, L, G, hA.alloc _, hM.below ((Below.refl _ _).alloc (Nat.le_refl _) _), hS.more, (Below.refl _ _).alloc hbw _⟩
  clear hd
  go_enter Try.func11, Try.ntmps11
  go_wp2_with fail
  go_ret
  exact ⟨rfl, R⟩
set_option maxRecDepth 100000 in
set_option maxHeartbeats 4000000 in
/-- A mark. -/
theorem do_3 {base ab mb k : Nat} {w : World} {s : St} {qs : List Int} {L : List Lv} {G : List (Nat × Nat)} (hA : Arn base ab w s) (hM : MI base mb w qs L G) (hS : PS s qs L G k) (d a b n : Int) (hd : d % 4 = 3) (hd0 : 0 ≤ d) (hd1 : d ≤ 255) (hbw : base ≤ w.heap.size) (hk : k ≤ 1000) (i : Nat) (hi : i < L.length)
    (hx : (IntKind.i64.wrap a).tmod (L.length : Int) = (i : Int)) (hn0 : -128 ≤ IntKind.i64.wrap n) (hn1 : IntKind.i64.wrap n ≤ 127) :
    Calls Try.prog 11 #[.pointer (some ⟨mb, 0, none⟩), .pointer (some ⟨ab, 0, none⟩), .agg #[.int .u8 d, .int .u8 a, .int .u8 b, .int .i8 n]] w fun e w' => e = .returned (.bool true) ∧ PO base ab mb (k + 1) w w' := by
  have hb0 : (d % 4 == 0) = false := by rw [hd]; rfl
  have hb1 : (d % 4 == 1) = false := by rw [hd]; rfl
  have hb2 : (d % 4 == 2) = false := by rw [hd]; rfl
  have HS : Hid (PS s qs L G k) := hS
  have HX : Hid ((IntKind.i64.wrap a).tmod (L.length : Int) = (i : Int)) := hx
  have HN : Hid (-128 ≤ IntKind.i64.wrap n ∧ IntKind.i64.wrap n ≤ 127) := ⟨hn0, hn1⟩
  have hrl : (refL L).length = L.length := by simp [refL]
  have hml : (moL L).length = L.length := by simp [moL]
  have hle := hS.le
  have hsl := hS.sl
  clear hd hx hn0 hn1
  have hM1 := hM.below ((Below.refl _ w).alloc (Nat.le_refl _) (.cells #[.int .u8 d, .int .u8 a, .int .u8 b, .int .i8 n] 34))
  have hA1 := hA.alloc (.cells #[.int .u8 d, .int .u8 a, .int .u8 b, .int .i8 n] 34)
  have s0 := heap_alloc_new w (.cells #[.int .u8 d, .int .u8 a, .int .u8 b, .int .i8 n] 34)
  have B1 : Below base w (w.alloc (.cells #[.int .u8 d, .int .u8 a, .int .u8 b, .int .i8 n] 34)) := (Below.refl _ _).alloc hbw _
  obtain ⟨p, hp⟩ : ∃ p, L[i]? = some p := ⟨_, List.getElem?_eq_getElem hi⟩
  obtain ⟨bo, ko, hbo⟩ := hS.live.at_ p (List.mem_of_getElem? hp)
  have hus := hS.us _ _ hbo
  have hnl := lt_of_get hbo
  simp only at hus
  have HB : Hid (s.slots[p.n]? = some ⟨p.u, some (bo, ⟨ko, p.ow, p.mo, p.fu⟩)⟩) := hbo
  have HP : Hid (L[i]? = some p) := hp
  have hR : 0 ≤ refN p.u p.n ∧ refN p.u p.n ≤ 18446744073709551615 := by unfold refN; omega
  obtain ⟨R, hRR⟩ : ∃ R, refN p.u p.n = R := ⟨_, rfl⟩
  have HR : Hid (refN p.u p.n = R) := hRR
  rw [hRR] at hR
  obtain ⟨vq, vr, vo, vm, vg, m0, m1, m2, m3, m4, m5, m6, m7⟩ := hM1.rows
  have hbm := hM.hb
  obtain ⟨gr, cr, _, hvr, hr1, hr2, hr3, hr4⟩ := row_at m2 (by omega)
  obtain ⟨gm, cm, _, hvm, hm1, hm2, hm3, hm4⟩ := row_at m4 (by omega)
  rw [hrl] at hvr
  rw [hml] at hvm
  subst hvr hvm
  unfold maxLen at hr2 hm2
  have q2 := m2
  rw [hrl] at q2
  have e0 := (q2.cellAt i (by omega)).trans (by simp [refL, hp, hRR] : _ = some (.int .u64 R))
  obtain ⟨c0, c1, c2, c3, c4, cf⟩ := five m0
  obtain ⟨s1, s2, s3, s4, sf⟩ := four s0
  clear hM hA hp hbo hRR hS q2
  go_enter Try.func11, Try.ntmps11
  go_upto_region 3 with fail
  generalize w.alloc (.cells #[.int .u8 d, .int .u8 a, .int .u8 b, .int .i8 n] 34) = w1 at *
  generalize w.heap.size = sb at *
  go_quiet (fail)
  rw [show (wrap64 a).tmod (L.length : Int) = (i : Int) from by rw [← IntWalk.i64_left]; exact HX.out]
  have hidx : 0 ≤ (i : Int) ∧ (i : Int) < (L.length : Int) := ⟨by omega, by omega⟩
  clear s1 s2 s3 c0 c2 c4
  go_wp2_with fail
  refine (get_is (hA1.drewN nq) R (by omega) (by omega) (some ⟨bo, 0, none⟩) (by rw [look_at HR.out (by omega) HB.out]; rfl)).mono ?_
  rintro e w3 ⟨rfl, q2, hw3⟩
  have B3 : Below w1.heap.size w1 w3 := by rw [hw3]; exact below_drewN (below_drewN (Below.refl _ _) nq) q2
  have hA3 : Arn base ab w3 s := by rw [hw3]; exact (hA1.drewN nq).drewN q2
  clear hw3
  have n0 := (B3.block mb (lt_of_block m0)).trans m0
  have n1 := row_below m1 B3
  have n2 := row_below m2 B3
  have n3 := row_below m3 B3
  have n4 := row_below m4 B3
  have n5 := row_below m5 B3
  have t0 := (B3.block sb (lt_of_block s0)).trans s0
  have g0 := (B3.block gm (lt_of_block hm4)).trans hm4
  have o0 := (hA3.objs p.n _ _ _ HB.out rfl).2
  have BW : Below base w w3 := B1.trans ⟨B3.os, B3.tape, B3.output, B3.size, fun k hk => B3.block k (Nat.lt_of_lt_of_le hk (Nat.le_of_lt (Nat.lt_of_le_of_lt hbm (lt_of_block m0))))⟩
  obtain ⟨P1, P2⟩ := both_mark ko (IntKind.i64.wrap n) hA3 HS.out HB.out HN.out.1 HN.out.2 BW hbm HP.out n0 n1 n2 n3 n4 n5 m6 m7
  rw [IntWalk.i64_left] at P1 P2
  have r4 := n4
  rw [hml] at r4
  have y2 := (r4.cellAt i (by omega)).trans (by simp [moL, HP.out] : _ = some (.int .i64 p.mo))
  have yf := r4.frozenAt i
  obtain ⟨x1, x3, x4, x5, x6, xf⟩ := box_cells o0
  obtain ⟨d0, d1, d2, d3, d4, df⟩ := five n0
  obtain ⟨s1, s2, s3, s4', sf'⟩ := four t0
  have z1 : bo ≠ gm := ne_of_types o0 g0 (by decide)
  have z2 : bo ≠ mb := ne_of_types o0 n0 (by decide)
  have z3 : bo ≠ sb := ne_of_types o0 t0 (by decide)
  have z4 : gm ≠ mb := ne_of_types g0 n0 (by decide)
  have z5 : gm ≠ sb := ne_of_types g0 t0 (by decide)
  clear m0 m1 m2 m3 m4 m5 n0 n1 n2 n3 n4 n5 s0 t0 g0 o0 hm4 hr4 hA1 hA3 B3 r4 c1 c3 cf s4 sf e0 d0 d1 d2 d4 s1 s2 s3 x1 x3 x5 x6 hM1 BW
  go_upto_region 7 with fail
  go_region
  all_goals
    go_wp2
    go_ret
    first
      | exact ⟨rfl, P2.drew⟩
      | exact ⟨rfl, P1.drew⟩
end Go.Proofs.Ytbbmcggalffecaa

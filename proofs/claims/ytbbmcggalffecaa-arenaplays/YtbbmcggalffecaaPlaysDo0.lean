/-
  The contract of M.Do: a step of ArenaPlays, on both.
  Conditions: as each theorem says.
-/
import Derived.Test.YtbbmcggalffecaaPlaysIs
import Derived.Test.YtbbmcggalffecaaLaw
import Derived.Deep.DeepCutAuto
namespace Go.Proofs.Ytbbmcggalffecaa
open Go.ChangeShapes Go.WideShapes Go.ChangeAt Go.RowKit
set_option linter.unusedVariables false
theorem Fr.ofBelow0 {T : Nat → Bool} {w w' : World} {base : Nat} (h : Below w.heap.size w w') : Fr T base w w' := ⟨h.os, h.tape, h.output, h.size, fun k hk _ => h.block k hk⟩
/-- All that a step hands on. -/
def PO (base ab mb k : Nat) (w w' : World) : Prop := ∃ (s : St) (qs : List Int) (L : List Lv) (G : List (Nat × Nat)), Arn base ab w' s ∧ MI base mb w' qs L G ∧ PS s qs L G k ∧ Below base w w'
theorem PS.more {s : St} {qs : List Int} {L : List Lv} {G : List (Nat × Nat)} {k : Nat} (h : PS s qs L G k) : PS s qs L G (k + 1) :=
  ⟨h.live, h.al, h.accs, h.quo, h.many, h.own, h.mo, Nat.le_succ_of_le h.le, Nat.le_succ_of_le h.gl, h.ql, Nat.le_succ_of_le h.sl, fun n sl e => Nat.le_succ_of_le (h.us n sl e), Nat.le_succ_of_le h.un, h.stale⟩
theorem four {w : World} {b : Nat} {x0 x1 x2 x3 : Value} {t : TypeId} (h : w.heap[b]? = some (.cells #[x0, x1, x2, x3] t (0, 0))) : w.cell? ⟨b, 0, none⟩ = some x0 ∧ w.cell? ⟨b, 1, none⟩ = some x1 ∧ w.cell? ⟨b, 2, none⟩ = some x2 ∧ w.cell? ⟨b, 3, none⟩ = some x3 ∧ (∀ j, w.frozen? ⟨b, j, none⟩ = false) := by
  refine ⟨?_, ?_, ?_, ?_, fun j => frozen_of_row _ _ _ _ _ h⟩ <;> (rw [cell_of_row _ _ _ _ _ _ h]; rfl)
theorem MI.below {base mb : Nat} {w w' : World} {qs : List Int} {L : List Lv} {G : List (Nat × Nat)} (h : MI base mb w qs L G) (hb : Below w.heap.size w w') : MI base mb w' qs L G := by
  obtain ⟨vq, vr, vo, vm, vg, m0, m1, m2, m3, m4, m5, m6, m7⟩ := h.rows
  exact ⟨h.hb, vq, vr, vo, vm, vg, (hb.block mb (lt_of_block m0)).trans m0, row_below m1 hb, row_below m2 hb, row_below m3 hb, row_below m4 hb, row_below m5 hb, m6, m7⟩
theorem MI.fr {base mb : Nat} {T : Nat → Bool} {w w' : World} {qs : List Int} {L : List Lv} {G : List (Nat × Nat)} (h : MI base mb w qs L G) (f : Fr T base w w') (h31 : T 31 = false) (h3 : T 3 = false) (h51 : T 51 = false) (h2 : T 2 = false) : MI base mb w' qs L G := by
  obtain ⟨vq, vr, vo, vm, vg, m0, m1, m2, m3, m4, m5, m6, m7⟩ := h.rows
  exact ⟨h.hb, vq, vr, vo, vm, vg, f.block m0 h31, f.row m1 h3, f.row m2 h51, f.row m3 h3, f.row m4 h2, f.row m5 h51, m6, m7⟩
theorem ne_swap {a b : Option Nat} (h : a = none ∨ a ≠ b) : b = none ∨ b ≠ a := by
  rcases h with rfl | h
  · cases b with
    | none => exact .inl rfl
    | some x => exact .inr (by simp)
  · exact .inr (Ne.symm h)
/-- The row behind an append, against another row of the same type. -/
theorem own_apart {w : World} {base e size n : Nat} {a a' : Option Nat} {v : Value} {xs : List Value} {W : Nat} (ho : w.ownsRow base e size v n xs) (hW : w.heap.size ≤ W) (h : a = none ∨ a ≠ v.ownBlock) (hl : a' = a ∨ a' = some W) : a' = none ∨ a' ≠ v.ownBlock := by
  rcases hl with rfl | rfl
  · exact h
  · right
    intro e
    have := (ho.lt W e.symm).2
    omega
theorem setRow_other {w : World} {base e size n mb : Nat} {v : Value} {xs : List Value} {cs : Array Value} {u : Value} {j : Nat} (h : w.ownsRow base e size v n xs) (hm : w.heap[mb]? = some (.cells cs 31 (0, 0))) (he : e ≠ 31) : (w.setCell ⟨mb, j, none⟩ u).ownsRow base e size v n xs :=
  ownsRow_setCell_other h (own_ne h hm he) u
/-- A quota more. -/
theorem MI.quota {base mb : Nat} {w1 W w2 : World} {qs : List Int} {L : List Lv} {G : List (Nat × Nat)} {vq vr vo vm vg v' : Value} {x : Int} (hb : base ≤ mb)
    (m0 : w1.heap[mb]? = some (.cells #[vq, vr, vo, vm, vg] 31 (0, 0))) (m1 : w1.ownsRow base 3 1 vq qs.length (qs.map (Value.int .i64))) (m2 : w1.ownsRow base 51 1 vr (refL L).length ((refL L).map (Value.int .u64))) (m3 : w1.ownsRow base 3 1 vo (owL L).length ((owL L).map (Value.int .i64))) (m4 : w1.ownsRow base 2 1 vm (moL L).length ((moL L).map (Value.int .i64))) (m5 : w1.ownsRow base 51 1 vg (goneL G).length ((goneL G).map (Value.int .u64)))
    (m6 : vq.ownBlock = none ∨ vq.ownBlock ≠ vo.ownBlock) (m7 : vr.ownBlock = none ∨ vr.ownBlock ≠ vg.ownBlock) (hW : Below w1.heap.size w1 W) (hg : W.grownBy w2 vq.ownBlock) (hn : w2.ownsRow base 3 1 v' (qs.length + 1) (qs.map (Value.int .i64) ++ [.int .i64 x])) (hl : v'.ownBlock = vq.ownBlock ∨ v'.ownBlock = some W.heap.size) :
    MI base mb (w2.setCell ⟨mb, 0, none⟩ v') (qs ++ [x]) L G ∧ w2.heap[mb]? = some (.cells #[vq, vr, vo, vm, vg] 31 (0, 0)) ∧ Fr (fun t => only 3 t || only 31 t) base w1 (w2.setCell ⟨mb, 0, none⟩ v') := by
  have n0 : w2.heap[mb]? = some (.cells #[vq, vr, vo, vm, vg] 31 (0, 0)) := block_grown hg ((hW.block mb (lt_of_block m0)).trans m0) (own_ne m1 m0 (by decide))
  have n2 := (row_below m2 hW).kept hg (own_own m2 m1 (by decide))
  have n3 := (row_below m3 hW).kept hg (ne_swap m6)
  have n4 := (row_below m4 hW).kept hg (own_own m4 m1 (by decide))
  have n5 := (row_below m5 hW).kept hg (own_own m5 m1 (by decide))
  have n1 : w2.ownsRow base 3 1 v' (qs ++ [x]).length ((qs ++ [x]).map (Value.int .i64)) := by simpa using hn
  refine ⟨⟨hb, v', vr, vo, vm, vg, heap_setCell_same _ _ _ _ _ _ n0, setRow_other n1 n0 (by decide), setRow_other n2 n0 (by decide), setRow_other n3 n0 (by decide), setRow_other n4 n0 (by decide), setRow_other n5 n0 (by decide), own_apart m3 hW.size m6 hl, m7⟩, n0, ?_⟩
  have f1 : Fr (fun t => only 3 t || only 31 t) base w1 W := Fr.ofBelow0 hW
  exact (f1.grown hg (fun k hk => mine_row (row_below m1 hW) (by decide) k hk)).setCell ⟨hb, _, _, _, n0, rfl⟩ _
set_option maxRecDepth 100000 in
set_option maxHeartbeats 2000000 in
/-- An owner more, where there are six. -/
theorem do_0full {base ab mb k : Nat} {w : World} {s : St} {qs : List Int} {L : List Lv} {G : List (Nat × Nat)} (hA : Arn base ab w s) (hM : MI base mb w qs L G) (hS : PS s qs L G k) (d a b n : Int) (hd : d % 4 = 0) (hd0 : 0 ≤ d) (hd1 : d ≤ 255) (hbw : base ≤ w.heap.size) (hq : 5 < qs.length) :
    Calls Try.prog 11 #[.pointer (some ⟨mb, 0, none⟩), .pointer (some ⟨ab, 0, none⟩), .agg #[.int .u8 d, .int .u8 a, .int .u8 b, .int .i8 n]] w fun e w' => e = .returned (.bool true) ∧ PO base ab mb (k + 1) w w' := by
  obtain ⟨vq, vr, vo, vm, vg, m0, m1, _⟩ := hM.rows
  have hmb := lt_of_block m0
  obtain ⟨c0, c1, c2, c3, c4, cf⟩ := five m0
  obtain ⟨aq, cq, hvq, hq1, hq2⟩ := row_shape m1
  rw [hvq] at c0
  have hb0 : (d % 4 == 0) = true := by rw [beq_iff_eq]; exact hd
  have R : PO base ab mb (k + 1) w (w.alloc (.cells #[.int .u8 d, .int .u8 a, .int .u8 b, .int .i8 n] 34)) := ⟨s, qs, L, G, hA.alloc _, hM.below ((Below.refl _ _).alloc (Nat.le_refl _) _), hS.more, (Below.refl _ _).alloc hbw _⟩
  clear hd
  go_enter Try.func11, Try.ntmps11
  go_wp2_with fail
  go_ret
  exact ⟨rfl, R⟩
theorem cnt_none (L : List Lv) (i : Nat) (h : ∀ p ∈ L, p.ow ≠ (i : Int)) : cntO L i = 0 := by
  unfold cntO cnt
  rw [List.take_length, List.countP_eq_zero]
  intro x hx
  obtain ⟨p, hp, rfl⟩ := List.mem_map.1 hx
  simpa using h p hp
theorem PS.owner {s : St} {qs : List Int} {L : List Lv} {G : List (Nat × Nat)} {k : Nat} (h : PS s qs L G k) (x : Int) (h0 : 0 ≤ x) (h1 : x ≤ 11) (hq : qs.length ≤ 5) : PS ⟨s.accs ++ [(0, x)], s.slots, s.unused⟩ (qs ++ [x]) L G (k + 1) := by
  have hz : cntO L qs.length = 0 := cnt_none L _ fun p hp e => by have := (h.own p hp).2; omega
  have hm := h.more
  have cases : ∀ (i : Nat) (q : Int), (qs ++ [x])[i]? = some q → (qs[i]? = some q ∧ i < qs.length) ∨ (i = qs.length ∧ q = x) := by
    intro i q hi
    rw [List.getElem?_append] at hi
    split at hi
    · rename_i hlt; exact .inl ⟨hi, hlt⟩
    · right
      have hlt := lt_of_get hi
      simp at hlt
      have e : i = qs.length := by omega
      subst e
      simp at hi
      exact ⟨rfl, hi.symm⟩
  refine ⟨h.live.accs _, by simp [h.al], fun i q hi => ?_, fun q hq => ?_, fun i q hi => ?_, fun p hp => ?_, h.mo, hm.le, hm.gl, by simp; omega, hm.sl, hm.us, hm.un, h.stale⟩
  · rcases cases i q hi with ⟨h2, h3⟩ | ⟨rfl, rfl⟩
    · simp only
      rw [List.getElem?_append_left (by rw [h.al]; exact h3)]
      exact h.accs i q h2
    · simp only
      rw [← h.al] at hz ⊢
      rw [hz]
      simp
  · rcases List.mem_append.1 hq with hq | hq
    · exact h.quo q hq
    · simp at hq; subst hq; exact ⟨h0, h1⟩
  · rcases cases i q hi with ⟨h2, h3⟩ | ⟨rfl, rfl⟩
    · exact h.many i q h2
    · rw [hz]; simpa using h0
  · have := h.own p hp
    simp; omega
theorem end_is (n : Nat) (h : n ≤ 5) : Ending.returned (.bool ((n : Int) == IntKind.i64.wrap (n : Int))) = .returned (.bool true) := by
  have e : IntKind.i64.wrap (n : Int) = n := by simp [IntKind.wrap, IntKind.bits, IntKind.signed]; omega
  rw [e]; simp
theorem enters22 (args : Array Value) (w : World) : (callFunc 22 args).run Try.prog w = .ok (.enter 22 args) w := by kernel_rfl
set_option maxRecDepth 100000 in
set_option maxHeartbeats 4000000 in
/-- An owner more. -/
theorem do_0 {base ab mb k : Nat} {w : World} {s : St} {qs : List Int} {L : List Lv} {G : List (Nat × Nat)} (hA : Arn base ab w s) (hM : MI base mb w qs L G) (hS : PS s qs L G k) (d a b n x y : Int) (hd : d % 4 = 0) (hd0 : 0 ≤ d) (hd1 : d ≤ 255) (hbw : base ≤ w.heap.size) (hq : qs.length ≤ 5)
    (hx : (max (IntKind.i64.wrap n) 0).tmod 12 = x) (hy : (IntKind.i64.wrap n).tmod 12 = y) (hxy : max y 0 = x) (hx0 : 0 ≤ x) (hx1 : x ≤ 11) :
    Calls Try.prog 11 #[.pointer (some ⟨mb, 0, none⟩), .pointer (some ⟨ab, 0, none⟩), .agg #[.int .u8 d, .int .u8 a, .int .u8 b, .int .i8 n]] w fun e w' => e = .returned (.bool true) ∧ PO base ab mb (k + 1) w w' := by
  have hb0 : (d % 4 == 0) = true := by rw [beq_iff_eq]; exact hd
  have HS : Hid (PS s qs L G k) := hS
  have HX : Hid (max y 0 = x) := hxy
  have HX2 : Hid ((max (IntKind.i64.wrap n) 0).tmod 12 = x) := hx
  have HY : Hid ((IntKind.i64.wrap n).tmod 12 = y) := hy
  clear hd hS hxy hx hy
  have hM1 := hM.below ((Below.refl _ w).alloc (Nat.le_refl _) (.cells #[.int .u8 d, .int .u8 a, .int .u8 b, .int .i8 n] 34))
  have hA1 := hA.alloc (.cells #[.int .u8 d, .int .u8 a, .int .u8 b, .int .i8 n] 34)
  have s0 := heap_alloc_new w (.cells #[.int .u8 d, .int .u8 a, .int .u8 b, .int .i8 n] 34)
  have B1 : Below base w (w.alloc (.cells #[.int .u8 d, .int .u8 a, .int .u8 b, .int .i8 n] 34)) := (Below.refl _ _).alloc hbw _
  obtain ⟨vq, vr, vo, vm, vg, m0, m1, m2, m3, m4, m5, m6, m7⟩ := hM1.rows
  have hmb := lt_of_block m0
  have hbm := hM.hb
  obtain ⟨c0, c1, c2, c3, c4, cf⟩ := five m0
  obtain ⟨aq, cq, hvq, hq1, hq2⟩ := row_shape m1
  rw [hvq] at c0
  unfold maxLen at hq2
  obtain ⟨ti, hti, hz0, hz1, hz2⟩ := info_parts Try.info3
  clear hM hA hM1
  go_enter Try.func11, Try.ntmps11
  go_upto_region 11 with fail
  generalize w.alloc (.cells #[.int .u8 d, .int .u8 a, .int .u8 b, .int .i8 n] 34) = w1 at *
  generalize w.heap.size = sb at *
  obtain ⟨s1, s2, s3, s4, sf⟩ := four s0
  have hbw1 := B1.size
  rw [hvq] at m1 m0 m6
  clear c1 c2 c3 c4 s1 s2 s3
  have hsb := lt_of_block s0
  go_cut [77] (fun _ wc => MI base mb wc (qs ++ [x]) L G ∧ Arn base ab wc s ∧ wc.heap[sb]? = some (.cells #[.int .u8 d, .int .u8 a, .int .u8 b, .int .i8 n] 34 (0, 0)) ∧ Below base w wc)
  case first =>
    go_region_law (refine step_append_own2 rfl (.tmp 70) (.tmp 76) 27 rfl base 3 ti (.int .i64 0) 1 8 Try.underlying27 hti hz0 hz1 hz2 rfl (by decide) (.slice aq qs.length cq) qs.length (qs.map (Value.int .i64)) (by simp [Act.eval, Act.put]) (by exact m1.alloc _) ⟨w1.heap.size, 0, none⟩ 1 1 [.int .i64 _] (by simp [Act.eval, Act.put]) rfl (by exact fun j u hj => one_news j u hj) (by intro u hu; simp at hu; subst hu; rfl) (by decide) (by unfold maxLen; omega) (by omega) (by simp; omega) ?_; intro v' w2 hown' hgrow hloc; obtain ⟨A1, A2, A3⟩ := MI.quota hbm m0 m1 m2 m3 m4 m5 m6 m7 (((Below.refl _ _).alloc (Nat.le_refl _) _).drew) hgrow hown' hloc; obtain ⟨au, cu, hv, hcu1, hcu2⟩ := row_shape hown'; rw [hv] at A1 A3; rw [hv]; obtain ⟨d0, d1, d2, d3, d4, df⟩ := five A2; clear hown' hgrow hloc)
    all_goals
      go_wp2_with fail
      go_meet
      case rel => exact ⟨by rw [← HX2.out]; exact A1, hA1.fr A3 (by intro t ht; simp [isA] at ht; simp [only]; omega), A3.block s0 rfl, B1.trans (A3.below (Nat.le_of_lt (Nat.lt_of_le_of_lt hbm hmb)))⟩
  case rest =>
    obtain ⟨hM2, hA2, t0, B2⟩ := hcut
    clear m0 m1 m2 m3 m4 m5 m6 m7 c0 cf hA1 B1 s0 s4 sf hbw1 hmb hsb hvq hq1 hq2 hti hz0 hz1 hz2
    have hM2' := hM2
    obtain ⟨vq, vr, vo, vm, vg, m0, m1, m2, m3, m4, m5, m6, m7⟩ := hM2.rows
    obtain ⟨c0, c1, c2, c3, c4, cf⟩ := five m0
    obtain ⟨aq, cq, hvq, hq1, hq2⟩ := row_shape m1
    rw [hvq, show (qs ++ [x]).length = qs.length + 1 from by simp] at c0
    unfold maxLen at hq2
    obtain ⟨s1, s2, s3, s4, sf⟩ := four t0
    have hal := HS.out.al
    have hown : ∀ W, Arn base ab W s → Calls Try.prog 22 #[.pointer (some ⟨ab, 0, none⟩), .int .i64 ((IntKind.i64.wrap n).tmod 12)] W fun e w' => e = .returned (.int .i64 qs.length) ∧ (Arn base ab w' ⟨s.accs ++ [(0, x)], s.slots, s.unused⟩ ∧ Fr isA base W w') := fun W h => by
      have h2 := owner_any h y (by omega)
      rw [HX.out, hal] at h2
      rw [HY.out]
      exact h2
    have HOW : Hid (∀ W, Arn base ab W s → Calls Try.prog 22 #[.pointer (some ⟨ab, 0, none⟩), .int .i64 ((IntKind.i64.wrap n).tmod 12)] W fun e w' => e = .returned (.int .i64 qs.length) ∧ (Arn base ab w' ⟨s.accs ++ [(0, x)], s.slots, s.unused⟩ ∧ Fr isA base W w')) := hown
    have HAL : Hid (s.accs.length = qs.length) := hal
    have HE : Hid (Ending.returned (.bool ((qs.length : Int) == IntKind.i64.wrap (qs.length : Int))) = .returned (.bool true)) := end_is qs.length hq
    clear hown hal s1 s2 s3 sf c1 c2 c3 c4
    have hbs : base ≤ wc.heap.size := Nat.le_of_lt (Nat.lt_of_le_of_lt hbm (lt_of_block m0))
    go_wp2_with fail
    have hA2' := hA2.drew
    go_region_with (go_at_call 22; refine (HOW.out _ hA2').mono ?_; rintro e w3 ⟨rfl, hA3, F3⟩; have hM3 := MI.fr (MI.below hM2' ((Below.refl _ wc).drew)) F3 rfl rfl rfl rfl; have B3 : Below base w w3 := B2.trans (((Below.refl _ wc).drew).trans (F3.below hbs)); have q0 := (F3.block (w := wc.drew) m0 rfl); obtain ⟨d0, d1, d2, d3, d4, df⟩ := five q0; rw [hvq, show (qs ++ [x]).length = qs.length + 1 from by simp] at d0)
    all_goals
      go_wp2
      go_ret
      exact ⟨HE.out, _, _, L, G, hA3, hM3, HS.out.owner x hx0 hx1 hq, B3⟩
end Go.Proofs.Ytbbmcggalffecaa

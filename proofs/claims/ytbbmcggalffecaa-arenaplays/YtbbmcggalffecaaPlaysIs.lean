/-
  The contract of M.Is: of an arena that is as M says it returns true, and writes nothing that was there.
  Conditions: as each theorem says.
-/
import Derived.Test.YtbbmcggalffecaaPlaysBase
namespace Go.Proofs.Ytbbmcggalffecaa
open Go.ChangeShapes Go.WideShapes Go.ChangeAt Go.RowKit
set_option linter.unusedVariables false
theorem look_at {l : List Sl} {n u : Nat} {x : Option (Nat × Ob)} {R : Int} (hR : refN u n = R) (hn : n < 4294967296) (h : l[n]? = some ⟨u, x⟩) : look l R = x := by
  subst hR
  have e1 : (refN u n % 4294967296).toNat = n := by unfold refN; omega
  have e2 : refN u n / 4294967296 = u := by unfold refN; omega
  rw [look, e1, e2, h]
  simp
theorem look_stale {s : St} {g : Nat × Nat} {R : Int} (hR : refN g.2 g.1 = R) (hn : g.1 < 4294967296) (h : Stale s g) : look s.slots R = none := by
  subst hR
  obtain ⟨sl, h1, h2, h3⟩ := h
  have e1 : (refN g.2 g.1 % 4294967296).toNat = g.1 := by unfold refN; omega
  have e2 : refN g.2 g.1 / 4294967296 = g.2 := by unfold refN; omega
  rw [look, e1, e2, h1]
  simp only
  split
  · rename_i e; exact h3 (by omega)
  · rfl
theorem look_none {s : St} {L : List Lv} (h : Live s L) : look s.slots 0 = none := by
  rw [look]
  simp only [show ((0 : Int) % 4294967296).toNat = 0 from rfl, show (0 : Int) / 4294967296 = 0 from rfl]
  cases hs : s.slots[0]? with
  | none => rfl
  | some sl =>
    have := h.used 0 sl hs
    simp only
    rw [if_neg (by omega)]
set_option maxRecDepth 100000 in
set_option maxHeartbeats 4000000 in
theorem is_any {base ab mb k : Nat} {w : World} {s : St} {qs : List Int} {L : List Lv} {G : List (Nat × Nat)} (hA : Arn base ab w s) (hM : MI base mb w qs L G) (hS : PS s qs L G k) (hk : k ≤ 1000) :
    Calls Try.prog 12 #[.pointer (some ⟨mb, 0, none⟩), .pointer (some ⟨ab, 0, none⟩)] w fun e w' => e = .returned (.bool true) ∧ Below w.heap.size w w' := by
  obtain ⟨vq, vr, vo, vm, vg, m0, m1, m2, m3, m4, m5, m6, m7⟩ := hM.rows
  have hmb := lt_of_block m0
  obtain ⟨c0, c1, c2, c3, c4, cf⟩ := five m0
  have hrl : (refL L).length = L.length := by simp [refL]
  have hol : (owL L).length = L.length := by simp [owL]
  have hml : (moL L).length = L.length := by simp [moL]
  have hgl : (goneL G).length = G.length := by simp [goneL]
  have hle := hS.le
  have hgle := hS.gl
  have hqle := hS.ql
  have hsle := hS.sl
  obtain ⟨aq, cq, hvq, hq1, hq2⟩ := row_shape m1
  obtain ⟨ar, cr, hvr, hr1, hr2⟩ := row_shape m2
  obtain ⟨ao, co, hvo, ho1, ho2⟩ := row_shape m3
  obtain ⟨am, cm, hvm, hm1, hm2⟩ := row_shape m4
  obtain ⟨ag, cg, hvg, hg1, hg2⟩ := row_shape m5
  rw [hvq] at c0
  rw [hvr, hrl] at c1
  rw [hvo, hol] at c2
  rw [hvm, hml] at c3
  rw [hvg, hgl] at c4
  unfold maxLen at hq2 hr2 ho2 hm2 hg2
  rw [hrl] at hr1
  rw [hol] at ho1
  rw [hml] at hm1
  rw [hgl] at hg1
  -- what the rows hold, in every later world
  have cells : ∀ W, Below w.heap.size w W → (∀ p (j : Nat), L[j]? = some p → ∃ gr go gm, ar = some ⟨gr, 0, none⟩ ∧ ao = some ⟨go, 0, none⟩ ∧ am = some ⟨gm, 0, none⟩ ∧ W.cell? ⟨gr, j, none⟩ = some (.int .u64 (refN p.u p.n)) ∧ W.cell? ⟨go, j, none⟩ = some (.int .i64 p.ow) ∧ W.cell? ⟨gm, j, none⟩ = some (.int .i64 p.mo)) := by
    intro W hW p j hp
    have hj := lt_of_get hp
    have n2 := row_below m2 hW
    have n3 := row_below m3 hW
    have n4 := row_below m4 hW
    obtain ⟨g2, d2, _, e2, _⟩ := row_at n2 (by omega)
    obtain ⟨g3, d3, _, e3, _⟩ := row_at n3 (by omega)
    obtain ⟨g4, d4, _, e4, _⟩ := row_at n4 (by omega)
    rw [hvr] at e2
    rw [hvo] at e3
    rw [hvm] at e4
    simp at e2 e3 e4
    refine ⟨g2, g3, g4, e2.1, e3.1, e4.1, ?_, ?_, ?_⟩
    · rw [hvr, e2.1] at n2
      exact (n2.cellAt j (by omega)).trans (by simp [refL, hp])
    · rw [hvo, e3.1] at n3
      exact (n3.cellAt j (by omega)).trans (by simp [owL, hp])
    · rw [hvm, e4.1] at n4
      exact (n4.cellAt j (by omega)).trans (by simp [moL, hp])
  have HCL : Hid (∀ W, Below w.heap.size w W → (∀ p (j : Nat), L[j]? = some p → ∃ gr go gm, ar = some ⟨gr, 0, none⟩ ∧ ao = some ⟨go, 0, none⟩ ∧ am = some ⟨gm, 0, none⟩ ∧ W.cell? ⟨gr, j, none⟩ = some (.int .u64 (refN p.u p.n)) ∧ W.cell? ⟨go, j, none⟩ = some (.int .i64 p.ow) ∧ W.cell? ⟨gm, j, none⟩ = some (.int .i64 p.mo))) := cells
  have mcells : ∀ W, Below w.heap.size w W → W.cell? ⟨mb, 0, none⟩ = some (.slice aq qs.length cq) ∧ W.cell? ⟨mb, 1, none⟩ = some (.slice ar L.length cr) ∧ W.cell? ⟨mb, 2, none⟩ = some (.slice ao L.length co) ∧ W.cell? ⟨mb, 3, none⟩ = some (.slice am L.length cm) ∧ W.cell? ⟨mb, 4, none⟩ = some (.slice ag G.length cg) := fun W hW =>
    ⟨(hW.cell (p := ⟨mb, 0, none⟩) hmb).trans c0, (hW.cell (p := ⟨mb, 1, none⟩) hmb).trans c1, (hW.cell (p := ⟨mb, 2, none⟩) hmb).trans c2, (hW.cell (p := ⟨mb, 3, none⟩) hmb).trans c3, (hW.cell (p := ⟨mb, 4, none⟩) hmb).trans c4⟩
  have HMC : Hid (∀ W, Below w.heap.size w W → W.cell? ⟨mb, 0, none⟩ = some (.slice aq qs.length cq) ∧ W.cell? ⟨mb, 1, none⟩ = some (.slice ar L.length cr) ∧ W.cell? ⟨mb, 2, none⟩ = some (.slice ao L.length co) ∧ W.cell? ⟨mb, 3, none⟩ = some (.slice am L.length cm) ∧ W.cell? ⟨mb, 4, none⟩ = some (.slice ag G.length cg)) := mcells
  have gcells : ∀ W, Below w.heap.size w W → (∀ g (j : Nat), G[j]? = some g → ∃ gg, ag = some ⟨gg, 0, none⟩ ∧ W.cell? ⟨gg, j, none⟩ = some (.int .u64 (refN g.2 g.1))) := by
    intro W hW p j hp
    have hj := lt_of_get hp
    have n2 := row_below m5 hW
    obtain ⟨g2, d2, _, e2, _⟩ := row_at n2 (by omega)
    rw [hvg] at e2
    simp at e2
    refine ⟨g2, e2.1, ?_⟩
    rw [hvg, e2.1] at n2
    exact (n2.cellAt j (by omega)).trans (by simp [goneL, hp])
  have HGC : Hid (∀ W, Below w.heap.size w W → (∀ g (j : Nat), G[j]? = some g → ∃ gg, ag = some ⟨gg, 0, none⟩ ∧ W.cell? ⟨gg, j, none⟩ = some (.int .u64 (refN g.2 g.1)))) := gcells
  have qcells : ∀ W, Below w.heap.size w W → (∀ q (j : Nat), qs[j]? = some q → ∃ gg, aq = some ⟨gg, 0, none⟩ ∧ W.cell? ⟨gg, j, none⟩ = some (.int .i64 q)) := by
    intro W hW p j hp
    have hj := lt_of_get hp
    have n2 := row_below m1 hW
    obtain ⟨g2, d2, _, e2, _⟩ := row_at n2 (by omega)
    rw [hvq] at e2
    simp at e2
    refine ⟨g2, e2.1, ?_⟩
    rw [hvq, e2.1] at n2
    exact (n2.cellAt j (by omega)).trans (by simp [hp])
  have HQC : Hid (∀ W, Below w.heap.size w W → (∀ q (j : Nat), qs[j]? = some q → ∃ gg, aq = some ⟨gg, 0, none⟩ ∧ W.cell? ⟨gg, j, none⟩ = some (.int .i64 q))) := qcells
  have HS : Hid (PS s qs L G k) := hS
  have HQ : Hid (vq = .slice aq qs.length cq) := hvq
  have HVR : Hid (vr = .slice ar L.length cr) := by rw [hrl] at hvr; exact hvr
  have HVO : Hid (vo = .slice ao L.length co) := by rw [hol] at hvo; exact hvo
  have HVG : Hid (vg = .slice ag G.length cg) := by rw [hgl] at hvg; exact hvg
  have HRL : Hid ((refL L).length = L.length) := hrl
  have HOL : Hid ((owL L).length = L.length) := hol
  have HGL : Hid ((goneL G).length = G.length) := hgl
  have B0 := Below.refl w.heap.size w
  clear cells mcells gcells qcells hrl hol hml hgl hvq hvr hvo hvm hvg hS hM c0 c2 c3 c4 cf
  go_enter Try.func12, Try.ntmps12
  go_wp2_with fail
  go_loopw [23] (fun i wr => ∃ j : Nat, j ≤ L.length ∧ i = .int .i64 j ∧ Below w.heap.size w wr) (fun i _ => L.length - (intOf i).toNat)
  case atStart => exact ⟨0, by omega, rfl, B0⟩
  case round =>
    obtain ⟨j, hj, rfl, hW⟩ := hrel
    clear c1
    by_cases hlt : j < L.length
    · obtain ⟨p, hp⟩ : ∃ p, L[j]? = some p := ⟨_, List.getElem?_eq_getElem hlt⟩
      obtain ⟨gr, go, gm, har, hao, ham, e0, _, _⟩ := HCL.out _ hW p j hp
      obtain ⟨bo, ko, hbo⟩ := HS.out.live.at_ p (List.mem_of_getElem? hp)
      have hus := HS.out.us _ _ hbo
      have hnl := lt_of_get hbo
      simp only at hus
      have HB : Hid (s.slots[p.n]? = some ⟨p.u, some (bo, ⟨ko, p.ow, p.mo, p.fu⟩)⟩) := hbo
      have HP : Hid (L[j]? = some p) := hp
      have hR : 0 ≤ refN p.u p.n ∧ refN p.u p.n ≤ 18446744073709551615 := by unfold refN; omega
      obtain ⟨R, hRR⟩ : ∃ R, refN p.u p.n = R := ⟨_, rfl⟩
      have HR : Hid (refN p.u p.n = R) := hRR
      rw [hRR] at e0 hR
      rw [har]
      have hA1 := hA.below hW
      clear hp hbo hRR
      go_wp2_with fail
      refine (get_is hA1 R (by omega) (by omega) (some ⟨bo, 0, none⟩) (by rw [look_at HR.out (by omega) HB.out]; rfl)).mono ?_
      rintro e w3 ⟨rfl, q2, hw3⟩
      have hW3 : Below w.heap.size w w3 := by rw [hw3]; exact below_drewN hW q2
      have hA3 := hA.below hW3
      obtain ⟨x1, x3, x4, x5, x6, xf⟩ := box_cells (hA3.objs p.n _ _ _ HB.out rfl).2
      obtain ⟨gr', go', gm', har', hao', ham', _, y1, y2⟩ := HCL.out _ hW3 p j HP.out
      obtain ⟨z0, z1, z2, z3, z4⟩ := HMC.out _ hW3
      rw [hao'] at z2
      rw [ham'] at z3
      clear hw3 hA1 hA3 x3 x5 x6 xf har hao ham hao' ham' har' hW e0
      have hb1 : (p.ow != p.ow) = false := by simp
      have hb2 : (p.mo != p.mo) = false := by simp
      have hidx : 0 ≤ (j : Int) ∧ (j : Int) < (L.length : Int) := ⟨by omega, by omega⟩
      simp only at x1 x4
      go_wp2_with fail
      go_quiet (fail)
      go_wp2
      go_roundw
      case rel => exact ⟨j + 1, by omega, by go_num, below_drewN hW3 nq⟩
      case measure => simp [intOf]; omega
    · obtain ⟨z0, z1, z2, z3, z4⟩ := HMC.out _ hW
      go_wp2_with fail
      go_loopw [67] (fun i wr => ∃ j : Nat, j ≤ G.length ∧ i = .int .i64 j ∧ Below w.heap.size w wr) (fun i _ => G.length - (intOf i).toNat)
      case atStart => exact ⟨0, by omega, rfl, hW⟩
      case round =>
        clear z0 z1 z2 z3 z4 hW
        obtain ⟨j, hj, rfl, hW⟩ := hrel
        by_cases hlt : j < G.length
        · obtain ⟨g, hg⟩ : ∃ g, G[j]? = some g := ⟨_, List.getElem?_eq_getElem hlt⟩
          obtain ⟨gg, hag, e0⟩ := HGC.out _ hW g j hg
          have hst := HS.out.stale g (List.mem_of_getElem? hg)
          have HST : Hid (Stale s g) := hst
          obtain ⟨sl, h1, h2, _⟩ := hst
          have hnl := lt_of_get h1
          have hus := HS.out.us _ _ h1
          have hR : 0 ≤ refN g.2 g.1 ∧ refN g.2 g.1 ≤ 18446744073709551615 := by unfold refN; omega
          obtain ⟨R, hRR⟩ : ∃ R, refN g.2 g.1 = R := ⟨_, rfl⟩
          have HR : Hid (refN g.2 g.1 = R) := hRR
          rw [hRR] at e0 hR
          rw [hag]
          have hA1 := hA.below hW
          clear hg hRR h1 h2
          go_wp2_with fail
          refine (get_is hA1 R (by omega) (by omega) none (by rw [look_stale HR.out (by omega) HST.out]; rfl)).mono ?_
          rintro e w3 ⟨rfl, q2, hw3⟩
          have hW3 : Below w.heap.size w w3 := by rw [hw3]; exact below_drewN hW q2
          clear hw3 hA1 hW e0
          go_wp2
          go_roundw
          case rel => exact ⟨j + 1, by omega, by go_num, hW3⟩
          case measure => simp [intOf]; omega
        · obtain ⟨z0, z1, z2, z3, z4⟩ := HMC.out _ hW
          go_wp2_with fail
          go_loopw [81] (fun i wr => ∃ j : Nat, j ≤ qs.length ∧ i = .int .i64 j ∧ Below w.heap.size w wr) (fun i _ => qs.length - (intOf i).toNat)
          case atStart => exact ⟨0, by omega, rfl, hW⟩
          case round =>
            clear z0 z1 z2 z3 z4 hW
            obtain ⟨j, hj, rfl, hW⟩ := hrel
            by_cases hlt : j < qs.length
            · obtain ⟨q, hq⟩ : ∃ q, qs[j]? = some q := ⟨_, List.getElem?_eq_getElem hlt⟩
              obtain ⟨gg, haq, e0⟩ := HQC.out _ hW q j hq
              have hacc := HS.out.accs j q hq
              have hquo := HS.out.quo q (List.mem_of_getElem? hq)
              have hmany := HS.out.many j q hq
              have HAC : Hid (s.accs[j]? = some ((cntO L j : Int), q)) := hacc
              have HM0 : Hid (w.heap[mb]? = some (.cells #[vq, vr, vo, vm, vg] 31 (0, 0))) := m0
              have hcle : cntO L j ≤ L.length := by unfold cntO; have := cnt_le (owL L) (owL L).length j; rw [HOL.out] at this ⊢; exact this
              rw [haq]
              have hA1 := hA.below hW
              have hmc : ∀ W, Below w.heap.size w W → Calls Try.prog 29 #[.pointer (some ⟨mb, 0, none⟩), .int .i64 j] W fun e w' => e = .returned (.int .i64 (cntO L j)) ∧ w' = W := fun W hW =>
                many_cnt ((hW.block mb hmb).trans HM0.out) (row_below m3 hW) (by rw [HOL.out]; omega) j
              have HMN : Hid (∀ W, Below w.heap.size w W → Calls Try.prog 29 #[.pointer (some ⟨mb, 0, none⟩), .int .i64 j] W fun e w' => e = .returned (.int .i64 (cntO L j)) ∧ w' = W) := hmc
              generalize cntO L j = cn at *
              clear hq hacc hmc
              go_wp2_with fail
              refine (many_fr hA1 j cn q HAC.out (by omega) (by omega) _ rfl).mono ?_
              rintro e w3 ⟨rfl, F3⟩
              have hW3 : Below w.heap.size w w3 := hW.trans ⟨F3.os, F3.tape, F3.output, F3.size, fun k hk => F3.keep k (Nat.lt_of_lt_of_le hk hW.size) (fun ⟨_, cs, t, fz, _, h2⟩ => by cases h2)⟩
              clear F3 hA1 hW e0
              have hb1 : ((cn : Int) != (cn : Int)) = false := by simp
              have hb2 : ((q - (cn : Int)) != (q - (cn : Int))) = false := by simp
              go_wp2_with fail
              refine (HMN.out _ hW3).mono ?_
              rintro e wx ⟨rfl, rfl⟩
              go_wp2_with fail
              refine (HMN.out _ hW3).mono ?_
              rintro e wx ⟨rfl, rfl⟩
              go_wp2
              go_roundw
              case rel => exact ⟨j + 1, by omega, by go_num, hW3⟩
              case measure => simp [intOf]; omega
            · have hA1 := hA.below hW
              obtain ⟨z0, z1, z2, z3, z4⟩ := HMC.out _ hW
              go_wp2_with fail
              refine (all_any hA1 (by omega) (fun n sl e => by have := HS.out.us n sl e; omega)).mono ?_
              rintro e w4 ⟨v4, rfl, o4, b4⟩
              have hW4 := hW.trans (b4.mono hW.size)
              obtain ⟨y0, y1, y2, y3, y4⟩ := HMC.out _ hW4
              have r4 := row_below m2 hW4
              rw [HVR.out] at r4
              clear z0 z1 z2 z3 z4 hA1 b4 hW
              go_wp2_with fail
              refine (clone_row r4 (by rw [HRL.out]; omega)).mono ?_
              rintro e w5 ⟨v5, rfl, o5, b5⟩
              have hW5 := hW4.trans (b5.mono hW4.size)
              have o4' := row_below o4 b5
              clear r4 b5 y0 y1 y2 y3 y4
              go_wp2_with fail
              refine (sort_row o5 (by rw [HRL.out]; omega)).mono ?_
              rintro e w6 ⟨rfl, ys, hp, hs, o6, g6⟩
              have hys := all_sorted HS.out.live (by omega) hp hs
              have hne : v4.ownBlock = none ∨ v4.ownBlock ≠ v5.ownBlock := by
                cases hb : v4.ownBlock with
                | none => exact .inl rfl
                | some b =>
                  refine .inr fun e => ?_
                  have h1 := (o4.lt b hb).2
                  have h2 := (o5.lt b e.symm).1
                  omega
              have o4'' := o4'.kept g6 hne
              rw [← hys] at o4''
              have hW6 : Below w.heap.size w w6 := hW5.grown g6 hW5.size (fun j hj => Nat.le_trans hW4.size (o5.lt j hj).1)
              have hyl : ys.length ≤ 1000000 := by have := hp.length_eq; rw [HRL.out] at this; omega
              have hA6 := hA.below hW6
              obtain ⟨z0, z1, z2, z3, z4⟩ := HMC.out _ hW6
              clear o4 o4' o5 g6 hne hys hp hs hW5 hW4
              have HNO : Hid (ownB (qs.length : Int) s.accs.length = false) := by show ownB (qs.length : Int) s.accs.length = false; rw [HS.out.al]; simp [ownB]
              have hEq : ∀ n, Calls Try.prog 20 #[v4, v5] (w6.drewN n) fun e w' => e = .returned (.bool true) ∧ ∃ m, w' = (w6.drewN n).drewN m := fun n => equal_rows (w := w6.drewN n) o4'' o6 hyl
              have hOw : ∀ n, Calls Try.prog 40 #[.pointer (some ⟨ab, 0, none⟩)] (w6.drewN n) fun e w' => e = .returned (.int .i64 qs.length) ∧ w' = w6.drewN n := fun n => by have := owners_any (hA6.drewN n); rw [HS.out.al] at this; exact this
              have hGe : ∀ n, Calls Try.prog 25 #[.pointer (some ⟨ab, 0, none⟩), .int .u64 0] (w6.drewN n) fun e w' => e = .returned (.pointer none) ∧ ∃ m, w' = (w6.drewN n).drewN m := fun n => get_is (hA6.drewN n) 0 (by omega) (by omega) none (by rw [look_none HS.out.live]; rfl)
              have HEq : Hid (∀ n, Calls Try.prog 20 #[v4, v5] (w6.drewN n) fun e w' => e = .returned (.bool true) ∧ ∃ m, w' = (w6.drewN n).drewN m) := hEq
              have HOw : Hid (∀ n, Calls Try.prog 40 #[.pointer (some ⟨ab, 0, none⟩)] (w6.drewN n) fun e w' => e = .returned (.int .i64 qs.length) ∧ w' = w6.drewN n) := hOw
              have HGe : Hid (∀ n, Calls Try.prog 25 #[.pointer (some ⟨ab, 0, none⟩), .int .u64 0] (w6.drewN n) fun e w' => e = .returned (.pointer none) ∧ ∃ m, w' = (w6.drewN n).drewN m) := hGe
              clear hEq hOw hGe o4'' o6 hyl
              go_wp2_with fail
              refine (many_no hA6 _ HNO.out).mono ?_
              rintro e wx ⟨rfl, rfl⟩
              go_wp2_with fail
              go_quiet ((first | (go_at_call 20; exact Calls.quiet_of (HEq.out _)) | (go_at_call 40; exact Calls.quiet_of_same (HOw.out _)) | (go_at_call 25; exact Calls.quiet_of (HGe.out _))))
              go_wp2
              go_ret
              exact ⟨rfl, below_drewN hW6 _⟩
end Go.Proofs.Ytbbmcggalffecaa

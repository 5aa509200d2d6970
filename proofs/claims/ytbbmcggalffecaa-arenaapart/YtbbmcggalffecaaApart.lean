/-
  The walk of ArenaApart (promise P3.2): it returns true for every slice of 8-bit numbers, and writes nothing that was there before the call.
  Conditions: as each theorem says (the argument's cells, read before the call).
-/
import Derived.Test.YtbbmcggalffecaaApartBase
namespace Go.Proofs.Ytbbmcggalffecaa
open Go.ChangeShapes Go.WideShapes Go.ChangeAt Go.RowKit Go.Maps
set_option linter.unusedVariables false
/-- All that the loop carries behind k rounds. -/
structure AI (base ab B k : Nat) (wr : World) (v : Value) : Prop where
  ex : ∃ (s : St) (L : List Lv) (D : DataW Unit), Arn base ab wr s ∧ AS s L k ∧ wr.ownsRow base 51 1 v (refL L).length ((refL L).map (Value.int .u64)) ∧ wr.ownsMap Try.prog 51 unitElem B k D ∧ IsMap D ∧ ∀ y : Int, Maps.has D (.int .u64 y) = true → ∃ g, Past s g ∧ y = refN g.2 g.1
theorem refL_len (L : List Lv) : (refL L).length = L.length := by simp [refL]
theorem apart_long (a : Option Addr) (len cap : Nat) (w : World) (hl : 60 < len) (hm : len ≤ maxLen) :
    Calls Try.prog 7 #[.slice a len cap] w fun e w' => e = .returned (.bool true) ∧ Below w.heap.size w w' := by
  unfold maxLen at hm
  go_enter Try.func7, Try.ntmps7
  go_wp2_with (go_at_call 9; refine (awake3 _).mono ?_; rintro e w1 ⟨rfl, B1⟩)
  go_ret
  exact ⟨rfl, B1⟩
theorem refL_erase (L : List Lv) (i : Nat) : (refL L).eraseIdx i = refL (L.eraseIdx i) := by
  induction L generalizing i with
  | nil => simp [refL]
  | cons p L ih =>
    cases i with
    | zero => simp [refL]
    | succ i => simpa [refL] using ih i
/-- A map's block is written: the arena, a row, what was below are as they were. -/
theorem arn_map {base ab B n : Nat} {w w' : World} {s : St} {D : DataW Unit} (h : Arn base ab w s) (hm : w.ownsMap Try.prog 51 unitElem B n D) (hg : (w.alloc (.cells #[] 114)).grownBy w' (some B)) : Arn base ab w' s :=
  h.kept fun k cs t hk ht => (block_grown hg (block_alloc hk _) (fun e => map_ne hm hk (by simpa using e.symm))).trans hk.symm
theorem row_map {base B n m e size : Nat} {w w' : World} {D : DataW Unit} {v : Value} {xs : List Value} (h : w.ownsRow base e size v m xs) (hm : w.ownsMap Try.prog 51 unitElem B n D) (hg : (w.alloc (.cells #[] 114)).grownBy w' (some B)) : w'.ownsRow base e size v m xs := by
  refine ⟨h.1, ?_⟩
  rcases h.2 with h0 | ⟨g, cap, cur, rfl, hb, hh, r⟩
  · exact .inl h0
  · exact .inr ⟨g, cap, cur, rfl, hb, block_grown hg (block_alloc hh _) (fun e => map_ne hm hh (by simpa using e.symm)), r⟩
theorem look_at {l : List Sl} {n u : Nat} {x : Option (Nat × Ob)} {R : Int} (hR : refN u n = R) (hn : n < 4294967296) (h : l[n]? = some ⟨u, x⟩) : look l R = x := by
  subst hR
  have e1 : (refN u n % 4294967296).toNat = n := by unfold refN; omega
  have e2 : refN u n / 4294967296 = u := by unfold refN; omega
  rw [look, e1, e2, h]
  simp
theorem AI.start {base ab : Nat} {w3 : World} (A3 : Arn base ab w3 ⟨[] ++ [((0 : Int), (8 : Int))], [], []⟩) : AI base ab w3.heap.size 0 (w3.alloc (.map #[] 0)) (.slice none 0 0) :=
  ⟨⟨_, [], .map [], A3.alloc _, ⟨Live.start _, rfl, by simp, by simp, fun n sl e => by simp at e, by simp, fun p hp => by simp at hp⟩, World.ownsRow_nil _ _ _ _, World.ownsMap_made _ _ _ _, ⟨_, rfl⟩, fun y hy => by have e : Maps.has (DataW.map ([] : List (Lit × DataW Unit))) (.int .u64 y) = false := rfl; rw [e] at hy; cases hy⟩⟩
set_option maxRecDepth 100000 in
set_option maxHeartbeats 4000000 in
theorem apart_any (b off len cap : Nat) (zs : List Int) (w : World) (hm : len ≤ 60) (hl : len ≤ zs.length) (hwz : ∀ n ∈ zs, (Lit.int .u8 n).wf = true) (hbw : b < w.heap.size) (hcell : ∀ j, j < zs.length → w.cell? ⟨b, off + j, none⟩ = some (.int .u8 (zs.getD j 0))) :
    Calls Try.prog 7 #[.slice (some ⟨b, off, none⟩) len cap] w fun e w' => e = .returned (.bool true) ∧ Below w.heap.size w w' := by
  have hmm := @run_makeMap Try.prog
  have hd60 : decide ((60 : Int) < (len : Int)) = false := by simp; omega
  go_enter Try.func7, Try.ntmps7
  go_wp2_with fail
  refine (awake3 _).mono ?_
  rintro e w1 ⟨rfl, B1⟩
  go_wp2_with fail
  refine (new_any _).mono ?_
  rintro e w2 ⟨rfl, hw2⟩
  have A2 : Arn w.heap.size w1.heap.size w2 ⟨[], [], []⟩ := by rw [hw2]; exact Arn.made w1 B1.size
  have B2 : Below w.heap.size w w2 := by rw [hw2]; exact B1.alloc B1.size _
  clear hw2 B1
  generalize w1.heap.size = ab at *
  go_wp2_with fail
  refine (owner_any A2 8 (by simp)).mono ?_
  rintro e w3 ⟨rfl, A3, G3⟩
  have B3 := B2.trans (G3.below B2.size)
  rw [show max (8 : Int) 0 = 8 from by decide] at A3
  clear A2 B2 G3
  have I0 := AI.start A3
  have hB := B3.size
  have B4 : Below w.heap.size w (w3.alloc (.map #[] 0)) := B3.alloc hB _
  clear A3 B3
  go_wp2_with fail
  generalize w3.heap.size = B at *
  go_loopw [5, 26] (fun v i wr => ∃ k : Nat, k ≤ len ∧ i = .int .i64 k ∧ AI w.heap.size ab B k wr v ∧ Below w.heap.size w wr) (fun _ i _ => len - (intOf i).toNat)
  case atStart => exact ⟨0, by omega, rfl, I0, B4⟩
  case round =>
    obtain ⟨k, hk, rfl, ⟨⟨s, L, D, A, f, hown, hmap, hD, hseen⟩⟩, hnx⟩ := hrel
    clear I0 B4 hmm
    have hrl := refL_len L
    have HLn : Hid ((refL L).length = L.length) := hrl
    have hle := f.le
    by_cases hlt : k < len
    · have hck := (hnx.cell (p := ⟨b, off + k, none⟩) hbw).trans (hcell k (by omega))
      have hz := range_u8 hwz k
      rw [← List.getD_eq_getElem?_getD] at hz
      generalize zs.getD k 0 = z at hck hz
      clear hcell hwz
      obtain ⟨ti, hti, hz0, hz1, hz2⟩ := info_parts Try.info51
      obtain ⟨ao, lcap, hv, hlc1, hlc2⟩ := row_shape hown
      have hv2 := hv
      rw [hrl] at hv2
      unfold maxLen at hlc2
      obtain ⟨zn, rfl⟩ := Int.eq_ofNat_of_zero_le hz.1
      by_cases hc0 : zn % 3 = 0 ∧ 0 < L.length
      · obtain ⟨hc3, hpos⟩ := hc0
        have hb3 : ((zn : Int) % 3 == 0) = true := by rw [beq_iff_eq]; omega
        have hgl : decide ((0 : Int) < (L.length : Int)) = true := by simp; omega
        obtain ⟨g, lcap, cur, hv, hlc1, hlc2, _, hg⟩ := row_at hown (by omega)
        have hidx : zn / 3 % L.length < L.length := Nat.mod_lt _ hpos
        obtain ⟨p, hp⟩ : ∃ p, L[zn / 3 % L.length]? = some p := ⟨_, List.getElem?_eq_getElem hidx⟩
        rw [hv] at hown
        have e0 : wr.cell? ⟨g, zn / 3 % L.length, none⟩ = some (.int .u64 (refN p.u p.n)) := (hown.cellAt (zn / 3 % L.length) (by rw [hrl]; omega)).trans (by simp [refL, hp])
        rw [hrl] at hv hlc1
        rw [hv]
        have hin : 0 ≤ (zn : Int) / 3 % (L.length : Int) ∧ (zn : Int) / 3 % (L.length : Int) < (L.length : Int) := ⟨Int.emod_nonneg _ (by omega), Int.emod_lt_of_pos _ (by omega)⟩
        have HC : Hid (((zn / 3 % L.length : Nat) : Int) = (zn : Int) / 3 % (L.length : Int)) := by show ((zn / 3 % L.length : Nat) : Int) = (zn : Int) / 3 % (L.length : Int); simp
        obtain ⟨bo, ko, hbo⟩ := f.live.at_ p (List.mem_of_getElem? hp)
        have hus := f.us _ _ hbo
        have hnl := lt_of_get hbo
        have hsl := f.sl
        simp only at hus
        have HP : Hid (L[zn / 3 % L.length]? = some p) := hp
        have HB : Hid (s.slots[p.n]? = some ⟨p.u, some (bo, ⟨ko, p.ow, p.mo, p.fu⟩)⟩) := hbo
        have HO : Hid (p.ow = 0) := (f.ok p (List.mem_of_getElem? hp)).1
        have HA : Hid (s.accs[0]? = some ((L.length : Int), (8 : Int))) := by show s.accs[0]? = _; rw [f.accs]; rfl
        have hun := f.un
        clear hp hbo
        go_wp2_with fail
        refine (drop_some A (refN p.u p.n) p.n p.u bo 0 ⟨ko, p.ow, p.mo, p.fu⟩ L.length 8 rfl (by omega) (by omega) HB.out HO.out.symm HA.out (by omega) (by omega) (by omega)).mono ?_
        rintro e w5 ⟨rfl, A5, G5⟩
        have hown5 : w5.ownsRow w.heap.size 51 1 (.slice (some ⟨g, 0, none⟩) L.length lcap) (refL L).length ((refL L).map (Value.int .u64)) := by have h := G5.row hown rfl; rw [hrl] at h; rw [hrl]; exact h
        have hmap5 := G5.map hmap
        have hnx5 := hnx.trans (G5.below hnx.size)
        have f5 := f.drop _ p HP.out
        have hpast := (f.live.drop _ p HP.out (s.accs.set 0 ((L.length : Int) - 1, 8))).2
        clear A G5 hown hmap hnx f e0
        go_wp2_with fail
        refine (del26 hown5 (i := zn / 3 % L.length) (by omega) _ _ HC.out (by rw [HC.out])).mono ?_
        rintro e w6 ⟨v6, rfl, hown6, hgr, _⟩
        have G6 : Fr (only 51) w.heap.size w5 w6 := (Fr.refl _ _ _).grown hgr (mine_row hown5 rfl)
        have A6 := A5.fr G6 (by intro t ht; simp [isA] at ht; simp [only]; omega)
        have hmap6 := G6.map hmap5
        have hnx6 := hnx5.trans (G6.below hnx5.size)
        have hre : (refL L).eraseIdx (zn / 3 % L.length) = refL (L.eraseIdx (zn / 3 % L.length)) := refL_erase L _
        rw [hre] at hown6
        clear A5 G6 hown5 hmap5 hnx5 hgr
        go_wp2
        go_roundw
        case rel => exact ⟨k + 1, by omega, by go_num, ⟨⟨_, _, D, A6, f5, hown6, hmap6.mono (Nat.le_succ _), hD, fun y hy => by obtain ⟨g, h1, h2⟩ := hseen y hy; exact ⟨g, hpast g h1, h2⟩⟩⟩, hnx6⟩
        case measure => simp [intOf]; omega
      · have hguard : ((zn : Int) % 3 == 0) = false ∨ (((zn : Int) % 3 == 0) = true ∧ L.length ≤ 0) := by
          by_cases h3 : zn % 3 = 0
          · exact .inr ⟨by rw [beq_iff_eq]; omega, by omega⟩
          · exact .inl (by rw [beq_eq_false_iff_ne]; omega)
        clear hc0
        by_cases h8 : L.length < 8
        · have hl8 : decide ((L.length : Int) < 8) = true := by simp; omega
          obtain ⟨n, u, l, un, hf, _⟩ := f.live.frees
          have hput := f.put h8 hf wr.heap.size (fun i sl b' o e1 e2 => by have := lt_of_block (A.objs i sl b' o e1 e2).2; omega)
          have HA : Hid (s.accs[0]? = some ((L.length : Int), (8 : Int))) := by show s.accs[0]? = _; rw [f.accs]; rfl
          have hun := f.un
          have hsl := f.sl
          have HF : Hid (Frees s n u l un) := hf
          obtain ⟨p1, p2, p3, p4, p5, p6, p7⟩ := hput
          have hfresh : Maps.has D (.int .u64 (refN (u + 1) n)) = false := by
            cases hh : Maps.has D (.int .u64 (refN (u + 1) n)) with
            | false => rfl
            | true =>
              obtain ⟨g, h1, h2⟩ := hseen _ hh
              obtain ⟨q1, q2⟩ := h1
              have := lt_of_get q2.1
              obtain ⟨e1, e2⟩ := refN_inj h2 (by omega) (by omega)
              exact absurd (Prod.ext e2.symm e1.symm) ((p6 g ⟨q1, q2⟩).1)
          have HH : Hid (Maps.has D (.int .u64 (refN (u + 1) n)) = false) := hfresh
          have hR : 0 ≤ refN (u + 1) n ∧ refN (u + 1) n ≤ 18446744073709551615 := by unfold refN; omega
          have HR : Hid (((u : Int) + 1) * 4294967296 + n = refN (u + 1) n) := by show ((u : Int) + 1) * 4294967296 + n = refN (u + 1) n; unfold refN; push_cast; rfl
          generalize hrr : refN (u + 1) n = R at hR HR HH
          have HRR : Hid (refN (u + 1) n = R) := hrr
          rw [hrl] at hv
          clear hf hrr hfresh
          rcases hguard with hg3 | ⟨hg3, hg0⟩
          all_goals
            rw [hv]
            go_wp2_with fail
            refine (put_is A 0 0 k 0 hnx.size 0 rfl HA.out (by omega) (by omega) (by omega) HF.out (by omega) (by omega) (by omega) R HR.out).mono ?_
            rintro e w5 ⟨rfl, A5, G5, hs5⟩
            have hown5 : w5.ownsRow w.heap.size 51 1 (.slice ao L.length lcap) L.length ((refL L).map (Value.int .u64)) := by have h := G5.row hown rfl; rw [hrl, hv] at h; exact h
            have hmap5 := G5.map hmap
            have hnx5 := hnx.trans (G5.below hnx.size)
            go_wp2_with fail
            refine (add_new R hmap5 (by unfold maxLen; omega) (by omega) (by omega) HH.out).mono ?_
            rintro e w6 ⟨rfl, hmap6, hgr6⟩
            have A6 := arn_map A5 hmap5 hgr6
            have hown6 := row_map hown5 hmap5 hgr6
            have hnx6 : Below w.heap.size w w6 := (hnx5.alloc hnx5.size _).grown hgr6 (by have := hnx5.size; simp; omega) (fun j hj => by cases hj; omega)
            have hS6 := hnx6.size
            clear G5 A5 hown5 hmap5 hnx5 hgr6
            go_wp2_with (at_builtin; refine wpList_append_own _ rfl (.tmp 75) (.tmp 77) 28 rfl w.heap.size 51 ti _ 1 8 Try.underlying28 hti hz0 hz1 hz2 rfl (by decide) _ L.length _ rfl (hown6.alloc _) ⟨w6.heap.size, 0, none⟩ 1 1 [.int .u64 R] rfl rfl one_news (by intro u hu; simp at hu; subst hu; rfl) (by unfold maxLen; omega) (by omega) (by simp; omega) ?_)
            intro v7 w7 hown7 hgr7 _
            have G7 : Fr (only 51) w.heap.size w6 w7 := ((Fr.refl _ _ _).alloc _).grown hgr7 (mine_row (hown6.alloc _) rfl)
            have A7 := A6.fr G7 (by intro t ht; simp [isA] at ht; simp [only]; omega)
            have hmap7 := G7.map hmap6
            have hnx7 := hnx6.trans (G7.below hnx6.size)
            clear G7 A6 hown6 hmap6 hnx6 hgr7 hS6
            go_wp2_with fail
            refine (get_is A7 R (by omega) (by omega) (some ⟨wr.heap.size, 0, none⟩) (by rw [look_at HRR.out (by omega) p3]; rfl)).mono ?_
            rintro e w8 ⟨rfl, qd, hw8⟩
            have A8 := A7.drewN qd
            rw [← hw8] at A8
            have hown8 : w8.ownsRow w.heap.size 51 1 v7 (refL (L ++ [⟨n, u + 1, 0, k, (k : Int) + 1⟩])).length ((refL (L ++ [⟨n, u + 1, 0, k, (k : Int) + 1⟩])).map (Value.int .u64)) := by
              rw [hw8]
              have e3 : refL (L ++ [⟨n, u + 1, 0, k, (k : Int) + 1⟩]) = refL L ++ [R] := by simp [refL, HRR.out]
              have h7 : w7.ownsRow w.heap.size 51 1 v7 (refL L ++ [R]).length ((refL L ++ [R]).map (Value.int .u64)) := by simpa [hrl] using hown7
              rw [e3]
              exact h7
            have hmap8 : w8.ownsMap Try.prog 51 unitElem B (k + 1) (D.put (.int .u64 R) (.agg [])) := by rw [hw8]; exact hmap7
            have hnx8 : Below w.heap.size w w8 := by rw [hw8]; exact ⟨hnx7.os, hnx7.tape, hnx7.output, hnx7.size, hnx7.block⟩
            clear hw8 A7 hown7 hmap7 hnx7
            obtain ⟨x1, x3, x4, x5, x6, xf⟩ := box_cells (A8.objs n _ _ _ p3 rfl).2
            obtain ⟨A9, G9⟩ := Arn.mark (j := 5) (v := .int .i64 ((k : Int) + 1)) (o' := ⟨0, 0, k, (k : Int) + 1⟩) A8 p1 p3 rfl
            have hown9 := G9.row hown8 rfl
            have hmap9 := G9.map hmap8
            have hnx9 := hnx8.trans (G9.below hnx8.size)
            clear A8 hown8 hmap8 hnx8 G9
            go_wp2
            go_roundw
            case rel =>
              refine ⟨k + 1, by omega, by go_num, ⟨⟨_, _, _, A9, p2, hown9, hmap9, hD.put _ _, fun y hy => ?_⟩⟩, hnx9⟩
              by_cases hyR : y = R
              · exact ⟨(n, u + 1), p7, by rw [hyR, ← HRR.out]⟩
              · rw [Maps.has_put_other (by simpa using hyR)] at hy
                obtain ⟨g, g1, g2⟩ := hseen y hy
                exact ⟨g, (p6 g g1).2, g2⟩
            case measure => simp [intOf]; omega
        · have hl8 : decide ((L.length : Int) < 8) = false := by simp; omega
          have HA : Hid (s.accs[0]? = some ((8 : Int), (8 : Int))) := by
            show s.accs[0]? = _
            rw [f.accs, show L.length = 8 from by omega]; rfl
          have f9 := f.more
          rw [hrl] at hv
          rcases hguard with hg3 | ⟨hg3, hg0⟩
          · rw [hv]
            go_wp2_with fail
            refine (put_full A 0 0 k 0 hnx.size 0 rfl HA.out).mono ?_
            rintro e w5 ⟨rfl, A5, G5⟩
            have hown5 : w5.ownsRow w.heap.size 51 1 (.slice ao L.length lcap) (refL L).length ((refL L).map (Value.int .u64)) := by have h := G5.row hown rfl; rw [hv] at h; exact h
            have hmap5 := G5.map hmap
            have hnx5 := hnx.trans (G5.below hnx.size)
            clear G5 A hown hmap hnx f
            go_wp2
            go_roundw
            case rel => exact ⟨k + 1, by omega, by go_num, ⟨⟨_, _, _, A5, f9, hown5, hmap5.mono (Nat.le_succ _), hD, hseen⟩⟩, hnx5⟩
            case measure => simp [intOf]; omega
          · omega
    · clear hcell hwz hmap hseen hD
      by_cases hL0 : L.length = 0
      · obtain ⟨ao, lcap, hv, hlc1, hlc2⟩ := row_shape hown
        rw [hrl, hL0] at hv
        rw [hv]
        go_wp2_with fail
        refine wp_loop_rounds 1 ?_
        rw [rounds_succ]
        go_wp2
        go_ret
        exact ⟨rfl, hnx⟩
      · obtain ⟨g, lcap, cur, hv, hlc1, hlc2, _, hg⟩ := row_at hown (by omega)
        rw [hv] at hown
        rw [hrl] at hv
        rw [hv]
        unfold maxLen at hlc2
        go_wp2_with fail
        obtain ⟨W0, hW0⟩ : ∃ W0, W0 = wr := ⟨_, rfl⟩
        subst hW0
        go_loopw [92] (fun i w2 => ∃ j : Nat, j ≤ L.length ∧ i = .int .i64 j ∧ ∃ q, w2 = W0.drewN q) (fun i _ => L.length - (intOf i).toNat)
        case atStart => exact ⟨0, by omega, rfl, 0, rfl⟩
        case round =>
          obtain ⟨j, hj, rfl, q, hw2⟩ := hrel
          have hA := A.drewN q
          have hO : (W0.drewN q).ownsRow w.heap.size 51 1 (.slice (some ⟨g, 0, none⟩) (refL L).length lcap) (refL L).length ((refL L).map (Value.int .u64)) := hown
          rw [← hw2] at hA hO
          have HW : Hid (_ = W0.drewN q) := hw2
          clear hw2
          by_cases hjl : j < L.length
          · obtain ⟨p, hp⟩ : ∃ p, L[j]? = some p := ⟨_, List.getElem?_eq_getElem hjl⟩
            have e0 := (hO.cellAt j (by rw [hrl]; omega)).trans (show ((refL L).map (Value.int .u64))[j]? = some (.int .u64 (refN p.u p.n)) by simp [refL, hp])
            obtain ⟨bo, ko, hbo⟩ := f.live.at_ p (List.mem_of_getElem? hp)
            obtain ⟨o1, o2, o3, o4⟩ := f.ok p (List.mem_of_getElem? hp)
            have hus := f.us _ _ hbo
            have hnl := lt_of_get hbo
            have hsl := f.sl
            simp only at hus
            have HB : Hid (s.slots[p.n]? = some ⟨p.u, some (bo, ⟨ko, p.ow, p.mo, p.fu⟩)⟩) := hbo
            have hR : 0 ≤ refN p.u p.n ∧ refN p.u p.n ≤ 18446744073709551615 := by unfold refN; omega
            obtain ⟨R, hRR⟩ : ∃ R, refN p.u p.n = R := ⟨_, rfl⟩
            have HR : Hid (refN p.u p.n = R) := hRR
            rw [hRR] at e0 hR
            obtain ⟨m, hmo⟩ : ∃ m, p.mo = m := ⟨_, rfl⟩
            have HF : Hid (p.fu = m + 1) := by show p.fu = m + 1; rw [← hmo]; exact o2
            have HM : Hid (p.mo = m) := hmo
            rw [hmo] at o3 o4
            clear hp hbo hRR hmo o2
            go_wp2_with fail
            refine (get_is hA R (by omega) (by omega) (some ⟨bo, 0, none⟩) (by rw [look_at HR.out (by omega) HB.out]; rfl)).mono ?_
            rintro e w3 ⟨rfl, q2, hw3⟩
            have hA3 := hA.drewN q2
            rw [← hw3] at hA3
            obtain ⟨x1, x3, x4, x5, x6, xf⟩ := box_cells (hA3.objs p.n _ _ _ HB.out rfl).2
            simp only [HM.out, HF.out] at x4 x5
            have HW3 : Hid (∃ q3, w3 = W0.drewN q3) := by show ∃ q3, w3 = W0.drewN q3; rw [hw3, HW.out]; exact ⟨q + q2, by rw [World.drewN_drewN]⟩
            clear hw3 hA hA3 x1 x3 x6 xf
            have hb1 : ((m + 1) != (m + 1)) = false := by simp
            go_wp2_with fail
            go_quiet (fail)
            go_wp2
            go_roundw
            case rel => exact ⟨j + 1, by omega, by go_num, by obtain ⟨q3, h3⟩ := HW3.out; rw [h3]; exact ⟨q3 + nq, by rw [World.drewN_drewN]⟩⟩
            case measure => simp [intOf]; omega
          · have HB : Below w.heap.size w (W0.drewN q) := ⟨hnx.os, hnx.tape, hnx.output, hnx.size, hnx.block⟩
            rw [← HW.out] at HB
            clear hA hO
            go_wp2
            go_ret
            exact ⟨rfl, HB⟩
theorem apart_none (a : Option Addr) (cap : Nat) (w : World) :
    Calls Try.prog 7 #[.slice a 0 cap] w fun e w' => e = .returned (.bool true) ∧ Below w.heap.size w w' := by
  have hmm := @run_makeMap Try.prog
  go_enter Try.func7, Try.ntmps7
  go_wp2_with fail
  refine (awake3 _).mono ?_
  rintro e w1 ⟨rfl, B1⟩
  go_wp2_with fail
  refine (new_any _).mono ?_
  rintro e w2 ⟨rfl, hw2⟩
  have A2 : Arn w.heap.size w1.heap.size w2 ⟨[], [], []⟩ := by rw [hw2]; exact Arn.made w1 B1.size
  have B2 : Below w.heap.size w w2 := by rw [hw2]; exact B1.alloc B1.size _
  clear hw2 B1
  generalize w1.heap.size = ab at *
  go_wp2_with fail
  refine (owner_any A2 8 (by simp)).mono ?_
  rintro e w3 ⟨rfl, A3, G3⟩
  have B3 := B2.trans (G3.below B2.size)
  have B4 : Below w.heap.size w (w3.alloc (.map #[] 0)) := B3.alloc B3.size _
  clear A2 B2 G3 A3 B3
  go_wp2_with fail
  refine wp_loop_rounds 1 ?_
  rw [rounds_succ]
  go_wp2_with fail
  refine wp_loop_rounds 1 ?_
  rw [rounds_succ]
  go_wp2
  go_ret
  exact ⟨rfl, B4⟩
end Go.Proofs.Ytbbmcggalffecaa

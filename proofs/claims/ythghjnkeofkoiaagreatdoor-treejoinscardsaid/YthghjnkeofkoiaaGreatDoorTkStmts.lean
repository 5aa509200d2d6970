/-
  The maker's stmts: some statements, one behind the other, as long as the maker has some left.
  Conditions: as each theorem says.
-/
import Derived.Test.YthghjnkeofkoiaaGreatDoorTkFin
namespace Go.Proofs.YthghjnkeofkoiaaGreatDoor
open Go.RowKit TM
set_option linter.unusedVariables false
/-- Behind a call of stmt. -/
structure Ua (wr W : World) (mb : Nat) (Y : List XX) (L : Int) (e : TS) (x y z : Value) : Prop where
  mkr : MkAt W mb Y L
  gr : wr.grownBy W (some mb)
  inn : SIn (Fresh wr.heap.size W.heap.size) W e x y z
theorem sixS_cells {P : Nat → Prop} {w : World} {e : TS} {x y z : Value} (h : SIn P w e x y z) : ∀ u ∈ sixS e x y z, u.oneCell' = true := by
  cases e with
  | mk kind name exprs body els pos =>
    obtain ⟨_, ⟨pa, pc, rfl, _⟩, ⟨na, nc, rfl, _⟩, ⟨ba, bc, rfl, _⟩⟩ := h
    intro u hu
    simp [sixS] at hu
    rcases hu with rfl | rfl | rfl | rfl | rfl | rfl <;> rfl
/-- A statement put behind the row. -/
theorem Ua.app {w wr W W2 : World} {mb bs : Nat} {Y : List XX} {L : Int} {e : TS} {x y z vp v : Value} {j : Nat} {cs : List Value} {l : List TS} {o : Obj} (h : Ua wr W mb Y L e x y z) (hr : wr.ownsRow bs 30 6 vp j cs) (hmb : mb < bs) (hbs : bs ≤ wr.heap.size)
    (hes : SsC (fun k => bs ≤ k ∧ k < wr.heap.size ∧ vp.ownBlock ≠ some k) wr l cs) (hw : w.grownBy wr (some mb)) (hwb : w.heap.size ≤ bs)
    (hg : (W.alloc o).grownBy W2 vp.ownBlock) (ho : v.ownBlock = vp.ownBlock ∨ v.ownBlock = some (W.alloc o).heap.size) :
    MkAt W2 mb Y L ∧ w.grownBy W2 (some mb) ∧ SsC (fun k => bs ≤ k ∧ k < W2.heap.size ∧ v.ownBlock ≠ some k) W2 (l ++ [e]) (cs ++ sixS e x y z) := by
  have hlt : ∀ k, vp.ownBlock = some k → bs ≤ k ∧ k < wr.heap.size := fun k hk => hr.lt k hk
  have hs1 : wr.heap.size ≤ W.heap.size := h.gr.size
  have hs2 : W.heap.size + 1 ≤ W2.heap.size := by have := hg.size; simpa using this
  have hk2 : ∀ k, k < W.heap.size → vp.ownBlock ≠ some k → W2.heap[k]? = W.heap[k]? := fun k hk hn => by
    rw [hg.block k (by simp; omega) (fun e1 => hn e1.symm), Below.heap_alloc _ _ _ hk]
  have hvo : ∀ k, v.ownBlock = some k → vp.ownBlock = some k ∨ W.heap.size ≤ k := fun k hk => by
    rcases ho with h1 | h1
    · exact .inl (h1.symm.trans hk)
    · rw [h1] at hk; cases hk; exact .inr (by simp)
  refine ⟨h.mkr.kept fun k hk => hk2 k (Nat.lt_of_le_of_lt hk h.mkr.lt) (fun e1 => by have := (hlt k e1).1; omega), ⟨?_, ?_, ?_, ?_, fun k hk hn => ?_⟩, ?_⟩
  · exact hg.os.trans (h.gr.os.trans hw.os)
  · exact hg.tape.trans (h.gr.tape.trans hw.tape)
  · exact hg.output.trans (h.gr.output.trans hw.output)
  · have := hw.size; omega
  · have hwz := hw.size
    rw [hk2 k (by omega) (fun e1 => by have := (hlt k e1).1; omega), h.gr.block k (by omega) hn, hw.block k hk hn]
  · refine SsC.snoc ?_ (SsC.kept (fun k hk => ?_) hes)
    · refine SIn.kept (P := Fresh wr.heap.size W.heap.size) (fun k hk => ?_) e h.inn
      have h1 : wr.heap.size ≤ k := hk.1
      have h2 : k < W.heap.size := hk.2
      refine ⟨⟨by omega, by omega, fun e1 => ?_⟩, hk2 k h2 (fun e1 => by have := (hlt k e1).2; omega)⟩
      rcases hvo k e1 with h5 | h5
      · have := (hlt k h5).2; omega
      · omega
    · have h1 := hk.1
      have h2 := hk.2.1
      have h3 := hk.2.2
      have hkm : some k ≠ some mb := fun e1 => by have h9 : k = mb := Option.some.inj e1; omega
      refine ⟨⟨h1, by omega, fun e1 => ?_⟩, (hk2 k (by omega) h3).trans (h.gr.block k h2 hkm)⟩
      rcases hvo k e1 with h5 | h5
      · exact h3 h5
      · omega
theorem rangeS_snoc (SS : Nat → TS) (j : Nat) : (List.range (j + 1)).map SS = (List.range j).map SS ++ [SS j] := by rw [List.range_succ]; simp
theorem sl_of_row {w : World} {bs n : Nat} {v : Value} {cs : List Value} {l : List TS} {P : Nat → Prop} (hr : w.ownsRow bs 30 6 v n cs) (hl : l.length = n) (hes : SsC (fun k => bs ≤ k ∧ k < w.heap.size ∧ v.ownBlock ≠ some k) w l cs) (hP : ∀ k, bs ≤ k → k < w.heap.size → P k) : SlAt P v l.length (fun g o => SsAt P w g o l) := by
  obtain ⟨ao, cap, rfl, h1, h2⟩ := row_shape hr
  refine ⟨ao, cap, by rw [hl], by rw [hl]; exact h1, h2, fun hn => ?_⟩
  obtain ⟨g, cap2, cur2, hv2, _, _, hbg, hblk⟩ := row_at hr (by omega)
  cases hv2
  exact ⟨g, 0, rfl, hP g hbg (lt_of_block hblk), SsC.at (cs := cs) (SsC.kept (fun k hk => ⟨hP k hk.1 hk.2.1, rfl⟩) hes) (row_cells hr)⟩
set_option maxRecDepth 100000 in
set_option maxHeartbeats 4000000 in
theorem stmts_walk {D : Int} {n m : Nat} (hn : n ≤ 2) (hmn : m ≤ n) (XS : Nat → List XX) (LF : Nat → Int) (SS : Nat → TS) (hpos : ∀ j, j < m → 0 < LF j) (hend : m = n ∨ LF m ≤ 0) {w : World} {mb : Nat} (hm : MkAt w mb (XS 0) (LF 0))
    (hstep : ∀ j, j < m → ∀ W, MkAt W mb (XS j) (LF j) → Calls Tryz.prog 31 #[.pointer (some ⟨mb, 0, none⟩), .int .i64 D] W fun en w' => ∃ a b c, en = .returned (stV (SS j) a b c) ∧ MkAt w' mb (XS (j + 1)) (LF (j + 1)) ∧ W.grownBy w' (some mb) ∧ SIn (Fresh W.heap.size w'.heap.size) w' (SS j) a b c) :
    Calls Tryz.prog 52 #[.pointer (some ⟨mb, 0, none⟩), .int .i64 D, .int .i64 (n : Int)] w fun en w' => ∃ v, en = .returned v ∧ MkAt w' mb (XS m) (LF m) ∧ w.grownBy w' (some mb) ∧ SlAt (Fresh w.heap.size w'.heap.size) v ((List.range m).map SS).length (fun g o => SsAt (Fresh w.heap.size w'.heap.size) w' g o ((List.range m).map SS)) := by
  have hmw : mb < w.heap.size := hm.lt
  have HM := Lib.hid hm
  have HSTEP := Lib.hid hstep
  have HPOS := Lib.hid hpos
  have HEND := Lib.hid hend
  clear hm hstep hpos hend
  go_enter Tryz.func52, Tryz.ntmps52
  go_wp2_with fail
  go_loopw [9, 7] (fun i vp wr => ∃ (j : Nat) (cs : List Value), i = .int .i64 (j : Int) ∧ j ≤ m ∧ Hid (wr.ownsRow w.heap.size 30 6 vp j cs) ∧ Hid (SsC (fun k => w.heap.size ≤ k ∧ k < wr.heap.size ∧ vp.ownBlock ≠ some k) wr ((List.range j).map SS) cs) ∧ Hid (MkAt wr mb (XS j) (LF j)) ∧ Hid (w.grownBy wr (some mb)))
    (fun i _ _ => n - (intOf i).toNat)
  case atStart => exact ⟨0, [], rfl, Nat.zero_le _, World.ownsRow_nil _ _ _ _, rfl, HM, grown_refl _ _⟩
  case round =>
    obtain ⟨j, cs, rfl, hjm, HROW, HES, HMJ, HG⟩ := hrel
    have hbw : w.heap.size ≤ wr.heap.size := HG.out.size
    obtain ⟨ad, cap, hmb, _⟩ := HMJ.out
    have c1 : wr.cell? ⟨mb, 1, none⟩ = some (.int .i64 (LF j)) := by simp [World.cell?, hmb]
    have hmbl : mb < wr.heap.size := lt_of_block hmb
    clear hmb
    by_cases hlt : j < m
    · have hlf := HPOS.out j hlt
      have hd : decide (LF j ≤ 0) = false := by simp; omega
      have hjn : decide ((j : Int) < (n : Int)) = true := by simp; omega
      go_wp2_with fail
      refine (HSTEP.out j hlt _ HMJ.out).mono ?_
      rintro en W ⟨x, y, z, rfl, h1, h2, h3⟩
      have HU : Hid (Ua wr W mb (XS (j + 1)) (LF (j + 1)) (SS j) x y z) := ⟨h1, h2, h3⟩
      obtain ⟨kd, nm2, xs2, bd2, el2, ps2, hEj⟩ : ∃ kd nm xs bd el ps, SS j = .mk kd nm xs bd el ps := by cases h : SS j; exact ⟨_, _, _, _, _, _, rfl⟩
      have HEJ := Lib.hid hEj
      have h3b := h3
      rw [hEj] at h3b
      obtain ⟨_, ⟨pa2, pc2, rfl, _⟩, ⟨na2, nc2, rfl, _⟩, ⟨ba2, bc2, rfl, _⟩⟩ := h3b
      have hrow2 : W.ownsRow w.heap.size 30 6 u7 j cs := by
        refine ⟨HROW.out.1, ?_⟩
        rcases HROW.out.2 with h0 | ⟨k, cap3, cu, hv3, hk, hh, r⟩
        · exact .inl h0
        · exact .inr ⟨k, cap3, cu, hv3, hk, (h2.block k (lt_of_block hh) (by simp; omega)).trans hh, r⟩
      have HROW2 := Lib.hid hrow2
      have hsW : w.heap.size ≤ W.heap.size := Nat.le_trans hbw h2.size
      rw [hEj]
      unfold stV
      clear h1 h2 h3 hrow2 hEj
      obtain ⟨i0, hi, hz0, hz1, hz2⟩ := info_parts infoStmt
      go_wp2_with (at_builtin; refine wpList_append_own2 rfl (.tmp 16) (.tmp 20) 24 rfl w.heap.size 30 i0 _ 6 104 Tryz.underlying24 hi hz0 hz1 hz2 rfl (by decide) _ j cs rfl (HROW2.out.alloc _) ⟨W.heap.size, 0, none⟩ 1 1 [.int .i64 (kd : Int), .string nm2, .slice pa2 xs2.length pc2, .slice na2 bd2.length nc2, .slice ba2 el2.length bc2, .int .i64 ps2] rfl rfl (fun q u hq => by match q, hq with | 0, hq => simp at hq; subst hq; simp [Addr.add] | 1, hq => simp at hq; subst hq; simp [Addr.add] | 2, hq => simp at hq; subst hq; simp [Addr.add] | 3, hq => simp at hq; subst hq; simp [Addr.add] | 4, hq => simp at hq; subst hq; simp [Addr.add] | 5, hq => simp at hq; subst hq; simp [Addr.add] | q + 6, hq => simp at hq) (by intro u hu; simp at hu; rcases hu with rfl | rfl | rfl | rfl | rfl | rfl <;> rfl) (by decide) (by unfold maxLen; omega) (by omega) (by simp; omega) ?_)
      intro v7 w7 hown7 hgr7 ho7
      have hall := HU.out.app HROW.out hmw hbw HES.out HG.out (Nat.le_refl _) hgr7 (by simpa using ho7)
      obtain ⟨a1, a2, a3⟩ := hall
      have HA1 := Lib.hid a1
      have HA2 := Lib.hid a2
      have HA3 : Hid (SsC (fun k => w.heap.size ≤ k ∧ k < w7.heap.size ∧ v7.ownBlock ≠ some k) w7 ((List.range (j + 1)).map SS) (cs ++ sixS (SS j) (.slice pa2 xs2.length pc2) (.slice na2 bd2.length nc2) (.slice ba2 el2.length bc2))) := by show SsC _ _ _ _; rw [rangeS_snoc]; exact a3
      have HR7 : Hid (w7.ownsRow w.heap.size 30 6 v7 (j + 1) (cs ++ sixS (SS j) (.slice pa2 xs2.length pc2) (.slice na2 bd2.length nc2) (.slice ba2 el2.length bc2))) := by show World.ownsRow _ _ _ _ _ _ _; rw [HEJ.out]; exact hown7
      clear hown7 hgr7 ho7 a1 a2 a3 HROW HES HMJ HG HU HROW2
      go_wp2_with fail
      go_roundw
      case rel => exact ⟨j + 1, _, by go_num, by omega, HR7, HA3, HA1, HA2⟩
      case measure => simp [intOf]; omega
    · have hje : j = m := by omega
      subst hje
      have HSL : Hid (SlAt (Fresh w.heap.size wr.heap.size) _ ((List.range j).map SS).length (fun g o => SsAt (Fresh w.heap.size wr.heap.size) wr g o ((List.range j).map SS))) := sl_of_row HROW.out (by simp) HES.out fun k h1 h2 => ⟨h1, h2⟩
      by_cases hjn : j = n
      · subst hjn
        go_wp2_with fail
        go_ret
        exact ⟨u7, rfl, HMJ.out, HG.out, by simpa using HSL.out⟩
      · have hjn2 : decide ((j : Int) < (n : Int)) = true := by simp; omega
        have hlf : LF j ≤ 0 := by rcases HEND.out with h | h <;> omega
        have hd : decide (LF j ≤ 0) = true := by simp; omega
        go_wp2_with fail
        all_goals first
          | (exfalso; omega)
          | (go_ret; exact ⟨u7, rfl, HMJ.out, HG.out, by simpa using HSL.out⟩)
end Go.Proofs.YthghjnkeofkoiaaGreatDoor

/-
  The law ValidMany.
  Conditions: the listed variables as they are laid.
-/
import Derived.Test.YtpboencfnjmmbaaGreatDoorVdRow
import Derived.Test.YtpboencfnjmmbaaGreatDoorExAw11
import Derived.Deep.Cut
namespace Go.Proofs.YtpboencfnjmmbaaGreatDoor
open Go.RowKit
set_option linter.unusedVariables false
set_option linter.unusedSimpArgs false
theorem infoIn : (Tryz.prog.info? 51).map (fun i => (i.zero, i.size, i.bytes)) = some (some (.agg #[.int .u8 0, .int .i64 0, .int .i64 0, .int .i64 0]), 4, 32) := by kernel_rfl
/-- A row of instructions, the first i of which return. -/
def RetC (K i : Nat) (cs : Array Value) : Prop := cs.size = K * 4 ∧ ∀ j, j < K → cs[j * 4]? = some (.int .u8 (if j < i then 18 else 0)) ∧ cs[j * 4 + 1]? = some (.int .i64 0) ∧ cs[j * 4 + 2]? = some (.int .i64 0) ∧ cs[j * 4 + 3]? = some (.int .i64 0)
theorem RetC.start (K : Nat) : RetC K 0 (madeCells (#[.int .u8 0, .int .i64 0, .int .i64 0, .int .i64 0] : Array Value) (K * 4)) := by
  refine ⟨size_madeCells _ _, fun j hj => ?_⟩
  refine ⟨?_, ?_, ?_, ?_⟩
  · simp [madeCells, show j * 4 < K * 4 from by omega, show j * 4 % 4 = 0 from by omega]
  · simp [madeCells, show j * 4 + 1 < K * 4 from by omega, show (j * 4 + 1) % 4 = 1 from by omega]
  · simp [madeCells, show j * 4 + 2 < K * 4 from by omega, show (j * 4 + 2) % 4 = 2 from by omega]
  · simp [madeCells, show j * 4 + 3 < K * 4 from by omega, show (j * 4 + 3) % 4 = 3 from by omega]
theorem RetC.step {K i : Nat} {cs : Array Value} (h : RetC K i cs) (hi : i < K) : RetC K (i + 1) (cs.setIfInBounds (i * 4) (.int .u8 18)) := by
  refine ⟨by simp [h.1], fun j hj => ?_⟩
  obtain ⟨a0, a1, a2, a3⟩ := h.2 j hj
  refine ⟨?_, ?_, ?_, ?_⟩
  · by_cases e : j = i
    · subst e
      rw [Array.getElem?_setIfInBounds_self_of_lt (by rw [h.1]; omega), if_pos (by omega)]
    · rw [Array.getElem?_setIfInBounds_ne (by omega), a0]
      by_cases e2 : j < i
      · rw [if_pos e2, if_pos (by omega)]
      · rw [if_neg e2, if_neg (by omega)]
  · rw [Array.getElem?_setIfInBounds_ne (by omega), a1]
  · rw [Array.getElem?_setIfInBounds_ne (by omega), a2]
  · rw [Array.getElem?_setIfInBounds_ne (by omega), a3]
def retV : VI := ⟨18, 0, 0, 0⟩
theorem RetC.at' {K : Nat} {cs : Array Value} (h : RetC K K cs) {w : World} {g : Nat} {e : TypeId} {fz : Nat × Nat} (hg : w.heap[g]? = some (.cells cs e fz)) {n : Nat} (hn : n ≤ K) : IsAt w (List.replicate n retV) g 0 := fun j x hj => by
  have hjl : j < n := by have := (List.getElem?_eq_some_iff.1 hj).1; simpa using this
  have hx : x = retV := by
    rw [List.getElem?_replicate, if_pos hjl] at hj
    exact (Option.some.inj hj).symm
  subst hx
  obtain ⟨a0, a1, a2, a3⟩ := h.2 j (by omega)
  rw [if_pos (by omega)] at a0
  simp only [World.cell?, hg, Nat.zero_add]
  exact ⟨a0, a1, a2, a3⟩
def qMany (r : Nat) (g m n : Nat) : QF := ⟨⟨0, [], (r : Int), 0, List.replicate n retV⟩, none, 0, none, 0, some ⟨g, 0, none⟩, m⟩
theorem qMany_cells (r g m n : Nat) : (qMany r g m n).cells = [.int .i64 0, .slice none 0 0, .int .i64 (r : Int), .slice none 0 0, .slice (some ⟨g, 0, none⟩) n m] := by simp [QF.cells, qMany]
theorem qMany_ok {w : World} {g r m n : Nat} {cs : Array Value} {fz : Nat × Nat} (hg : w.heap[g]? = some (.cells cs 51 fz)) (h : RetC m m cs) (hn : n ≤ m) (hm : m ≤ maxLen) : QOk w (qMany r g m n) :=
  ⟨⟨zsl_nil _, ⟨_, _, rfl⟩, ⟨_, _, rfl, by simp [qMany, hn], hm, fun _ => ⟨_, 0, rfl, lt_of_block hg, h.at' hg hn⟩⟩, by rintro l cap h; cases h; rfl⟩, fun h => absurd h (by simp [qMany]), fun _ g o s h => by cases h; exact ⟨_, _, hg⟩⟩
theorem qMany_fok {r g m n : Nat} (hr : r ≤ 255) : (qMany r g m n).f.ok ∧ (qMany r g m n).f.p + (qMany r g m n).f.h.length ≤ 9223372036854775807 :=
  ⟨⟨by unfold Z64 qMany; simp, by unfold Z64 qMany; simp; omega, by simp [qMany], by simp [qMany], by simp [qMany], by
    intro x hx
    obtain ⟨_, rfl⟩ := List.mem_replicate.1 (show x ∈ List.replicate n retV from hx)
    exact ⟨by decide, by unfold Z64 retV; simp, by unfold Z64 retV; simp, by unfold Z64 retV; simp⟩⟩, by simp [qMany]⟩
set_option maxRecDepth 100000 in
set_option maxHeartbeats 4000000 in
theorem validMany_any {funcs regs many : Nat} (hf : funcs ≤ 255) (hr : regs ≤ 255) (hm : many ≤ 65535) (w : World) (hw : Go.Ex.Held gs0 w) :
    Calls Tryz.prog 5 #[.int .u8 (funcs : Int), .int .u8 (regs : Int), .int .u16 (many : Int)] w fun e w' => e = .returned (.bool true) ∧ Below w.heap.size w w' := by
  have HW := Lib.hid hw
  clear hw
  go_enter Tryz.func5, Tryz.ntmps5
  go_wp2_with fail
  refine (awakeX11 _ HW.out).mono ?_
  rintro e w1 ⟨rfl, hb1⟩
  have HB1 := Lib.hid hb1
  clear hb1 HW
  obtain ⟨K, hK⟩ : ∃ K, K = 1990 + many % 20 := ⟨_, rfl⟩
  have hKi : 1990 + (many : Int) % 20 = (K : Int) := by omega
  have hK9 : K ≤ 2009 ∧ 1990 ≤ K := by omega
  obtain ⟨i0, hi0, hz0, hz1, hz2⟩ := info_parts infoIn
  have hmk := run_make (P := Tryz.prog) w1 45 51 i0 _ Tryz.underlying45 hi0 hz0 .i64 .i64 (K : Int) (K : Int) (by omega) (Int.le_refl _) (by rw [hz2]; omega) (by omega)
  rw [hz1, Int.toNat_natCast, ← hKi] at hmk
  have HKI := Lib.hid hKi
  clear hi0 hz0 hz1 hz2 hKi hK
  go_wp2_with fail
  obtain ⟨R0, hR0⟩ : ∃ R0, R0 = Obj.cells (madeCells (#[.int .u8 0, .int .i64 0, .int .i64 0, .int .i64 0] : Array Value) (K * 4)) 51 := ⟨_, rfl⟩
  obtain ⟨W2, hW2⟩ : ∃ W2, W2 = (w1.alloc R0).alloc (.cells #[.int .i64 0, .slice none 0 0, .int .i64 (regs : Int), .slice none 0 0, .slice (some ⟨w1.heap.size, 0, none⟩) K K] 47) := ⟨_, rfl⟩
  have HB2 : Hid (Below w1.heap.size w1 W2) := by rw [hW2]; exact bl2 _ _ _
  have HRW : Hid (∃ cs, W2.heap[w1.heap.size]? = some (.cells cs 51 (0, 0)) ∧ RetC K 0 cs) := ⟨_, by rw [hW2, Below.heap_alloc _ _ _ (by simp), hR0]; exact heap_alloc_new _ _, RetC.start K⟩
  have HFB : Hid (W2.heap[w1.heap.size + 1]? = some (.cells #[.int .i64 0, .slice none 0 0, .int .i64 (regs : Int), .slice none 0 0, .slice (some ⟨w1.heap.size, 0, none⟩) K K] 47 (0, 0))) := by
    rw [hW2, show w1.heap.size + 1 = (w1.alloc R0).heap.size from by simp]; exact heap_alloc_new _ _
  have hz2 : w1.heap.size + 1 < W2.heap.size := lt_of_block HFB.out
  rw [hR0] at hW2
  first | rw [← hW2] | skip
  clear hW2 hmk hR0
  go_loopw [32] (fun i wr => ∃ m : Nat, i = .int .i64 (m : Int) ∧ m ≤ K ∧ Hid (Below w1.heap.size w1 wr) ∧ Hid (wr.heap[w1.heap.size + 1]? = some (.cells #[.int .i64 0, .slice none 0 0, .int .i64 (regs : Int), .slice none 0 0, .slice (some ⟨w1.heap.size, 0, none⟩) K K] 47 (0, 0))) ∧ Hid (∃ cs, wr.heap[w1.heap.size]? = some (.cells cs 51 (0, 0)) ∧ RetC K m cs))
    (fun i _ => K - (Go.RowKit.intOf i).toNat)
  case atStart => exact ⟨0, rfl, Nat.zero_le _, HB2.out, HFB.out, HRW.out⟩
  case round =>
    obtain ⟨m, rfl, hm2, HBm, HFm, HRm⟩ := hrel
    obtain ⟨W3, hW3⟩ : ∃ W3, W3 = wr := ⟨_, rfl⟩
    subst hW3
    have f4 : W3.cell? ⟨w1.heap.size + 1, 4, none⟩ = some (.slice (some ⟨w1.heap.size, 0, none⟩) K K) := by simp [World.cell?, HFm.out]
    by_cases hlt : m < K
    · obtain ⟨cs, h1, h2⟩ := HRm.out
      obtain ⟨a0, _, _, _⟩ := h2.2 m hlt
      have c0 : (W3.cell? ⟨w1.heap.size, m * 4, none⟩).isSome = true := by simp only [World.cell?, h1, a0]; rfl
      have c1 : ∃ u, W3.cell? ⟨w1.heap.size, m * 4, none⟩ = some u := Option.isSome_iff_exists.1 c0
      have fz : W3.frozen? ⟨w1.heap.size, m * 4, none⟩ = false := frozen_of_row _ _ _ _ _ h1
      have hidx : 0 ≤ (m : Int) ∧ (m : Int) < (K : Int) := ⟨by omega, by omega⟩
      have HS : Hid (Below w1.heap.size w1 (W3.setCell ⟨w1.heap.size, m * 4, none⟩ (.int .u8 18))) := HBm.out.setCell (by simp) _
      have HC : Hid ((W3.setCell ⟨w1.heap.size, m * 4, none⟩ (.int .u8 18)).heap[w1.heap.size]? = some (.cells (cs.setIfInBounds (m * 4) (.int .u8 18)) 51 (0, 0))) := heap_setCell_same _ _ _ _ _ _ h1
      have HN := Lib.hid (h2.step hlt)
      have HFN : Hid ((W3.setCell ⟨w1.heap.size, m * 4, none⟩ (.int .u8 18)).heap[w1.heap.size + 1]? = _) := Lib.hid ((Below.heap_setCell _ _ _ _ (by simp)).trans HFm.out)
      obtain ⟨u, hu⟩ := c1
      clear h1 h2 a0 c0
      go_wp2_with fail
      go_roundw
      case rel => exact ⟨m + 1, by go_num, by omega, HS.out, HFN.out, _, HC.out, HN.out⟩
      case measure => simp [Go.RowKit.intOf]; omega
    · obtain rfl : m = K := by omega
      obtain ⟨cs, h1, h2⟩ := HRm.out
      have HRR : Hid (W3.heap[w1.heap.size]? = some (.cells cs 51 (0, 0)) ∧ RetC m m cs) := ⟨h1, h2⟩
      have hl1 := lt_of_block h1
      have hl2 := lt_of_block HFm.out
      have hfb : ∀ o, (W3.alloc o).heap[w1.heap.size + 1]? = _ := fun o => (Below.heap_alloc _ _ _ hl2).trans HFm.out
      have b0 : ∀ o, (W3.alloc o).cell? ⟨w1.heap.size + 1, 0, none⟩ = some (.int .i64 0) := fun o => by simp only [World.cell?, hfb o]; rfl
      have b1 : ∀ o, (W3.alloc o).cell? ⟨w1.heap.size + 1, 1, none⟩ = some (.slice none 0 0) := fun o => by simp only [World.cell?, hfb o]; rfl
      have b2 : ∀ o, (W3.alloc o).cell? ⟨w1.heap.size + 1, 2, none⟩ = some (.int .i64 (regs : Int)) := fun o => by simp only [World.cell?, hfb o]; rfl
      have b3 : ∀ o, (W3.alloc o).cell? ⟨w1.heap.size + 1, 3, none⟩ = some (.slice none 0 0) := fun o => by simp only [World.cell?, hfb o]; rfl
      have b4 : ∀ o, (W3.alloc o).cell? ⟨w1.heap.size + 1, 4, none⟩ = some (.slice (some ⟨w1.heap.size, 0, none⟩) m m) := fun o => by simp only [World.cell?, hfb o]; rfl
      obtain ⟨N, hN⟩ : ∃ N, N = 97 + funcs % 6 := ⟨_, rfl⟩
      have hNi : 97 + (funcs : Int) % 6 = (N : Int) := by omega
      have hN9 : N ≤ 102 ∧ 97 ≤ N := by omega
      clear h1 h2 hfb hN
      go_upto_region 12 with fail
      obtain ⟨CS, hCS⟩ : ∃ CS, CS = Obj.cells #[.int .i64 0, .slice none 0 0, .int .i64 1, .slice none 0 0, .slice (some ⟨w1.heap.size, 0, none⟩) 1 m] 47 := ⟨_, rfl⟩
      obtain ⟨CF, hCF⟩ : ∃ CF, CF = Obj.cells #[.int .i64 0, .slice none 0 0, .int .i64 (regs : Int), .slice none 0 0, .slice (some ⟨w1.heap.size, 0, none⟩) m m] 47 := ⟨_, rfl⟩
      obtain ⟨CM, hCM⟩ : ∃ CM, CM = Obj.cells #[.slice (some ⟨W3.heap.size + 1, 0, none⟩) 1 1] 31 := ⟨_, rfl⟩
      obtain ⟨W4, hW4⟩ : ∃ W4, W4 = ((W3.alloc CS).alloc CF).alloc CM := ⟨_, rfl⟩
      have HB4 : Hid (Below w1.heap.size w1 W4) := by rw [hW4]; exact ((HBm.out.alloc HBm.out.size _).alloc (by have := HBm.out.size; simp; omega) _).alloc (by have := HBm.out.size; simp; omega) _
      have hb34 : Below W3.heap.size W3 W4 := by rw [hW4]; exact bl3 _ _ _ _
      obtain ⟨e0, e1⟩ := heap3_0 (Below.refl _ (((W3.alloc CS).alloc CF).alloc CM))
      have e2 := heap3 W3 CS CF CM
      rw [← hW4] at e0 e1 e2
      have hz4 : W4.heap.size = W3.heap.size + 3 := by rw [hW4]; simp
      have hrw : W4.heap[w1.heap.size]? = some (.cells cs 51 (0, 0)) := (hb34.block _ hl1).trans HRR.out.1
      have hm9 : m ≤ maxLen := by unfold maxLen; omega
      have HQF : Hid (QOk W4 (qMany regs w1.heap.size m m)) := qMany_ok hrw HRR.out.2 (Nat.le_refl _) hm9
      have HQS : Hid (QOk W4 (qMany 1 w1.heap.size m 1)) := qMany_ok hrw HRR.out.2 (by omega) hm9
      have HSB : Hid (W4.heap[W3.heap.size]? = some (.cells #[.int .i64 0, .slice none 0 0, .int .i64 1, .slice none 0 0, .slice (some ⟨w1.heap.size, 0, none⟩) 1 m] 47 (0, 0))) := by refine Lib.hid ?_; rw [e0, hCS]
      have HMB : Hid (W4.heap[W3.heap.size + 1 + 1]? = some (.cells #[.slice (some ⟨W3.heap.size + 1, 0, none⟩) 1 1] 31 (0, 0))) := by refine Lib.hid ?_; rw [e2, hCM]
      have HOW : Hid (W4.ownsRow (W3.heap.size + 1) 47 5 (.slice (some ⟨W3.heap.size + 1, 0, none⟩) 1 1) [qMany regs w1.heap.size m m].length (qcells [qMany regs w1.heap.size m m])) := by
        rw [hCF] at e1
        exact ⟨by rw [qcells_len], .inr ⟨_, 1, _, rfl, Nat.le_refl _, e1, Nat.le_refl _, by decide, rfl, by rw [qcells, List.flatMap_cons, qMany_cells]; rfl⟩⟩
      subst hCS hCF hCM
      first | rw [← hW4] | skip
      have HZ4 := Lib.hid hz4
      clear hW4 hb34 e0 e1 e2 hrw hm9 hz4 b0 b1 b2 b3 b4
      go_wp2_with fail
      go_loopw [52] (fun i wr => ∃ (j : Nat) (v : Value), i = .int .i64 (j : Int) ∧ j ≤ N ∧ Hid (Below w1.heap.size w1 wr) ∧ Hid (QOk wr (qMany regs w1.heap.size m m) ∧ QOk wr (qMany 1 w1.heap.size m 1)) ∧ Hid (wr.heap[W3.heap.size]? = some (.cells #[.int .i64 0, .slice none 0 0, .int .i64 1, .slice none 0 0, .slice (some ⟨w1.heap.size, 0, none⟩) 1 m] 47 (0, 0))) ∧ Hid (wr.heap[W3.heap.size + 1 + 1]? = some (.cells #[v] 31 (0, 0))) ∧ Hid (wr.ownsRow (W3.heap.size + 1) 47 5 v (qMany regs w1.heap.size m m :: List.replicate j (qMany 1 w1.heap.size m 1)).length (qcells (qMany regs w1.heap.size m m :: List.replicate j (qMany 1 w1.heap.size m 1)))))
        (fun i _ => N - (Go.RowKit.intOf i).toNat)
      case atStart => exact ⟨0, _, rfl, Nat.zero_le _, HB4.out, ⟨HQF.out, HQS.out⟩, HSB.out, HMB.out, HOW.out⟩
      case round =>
        obtain ⟨j, v, rfl, hj, HBj, HQj, HSj, HMj, HOj⟩ := hrel
        obtain ⟨W5, hW5⟩ : ∃ W5, W5 = wr := ⟨_, rfl⟩
        subst hW5
        have hls := lt_of_block HSj.out
        have hlm := lt_of_block HMj.out
        by_cases hlt : j < N
        · have s0 : W5.cell? ⟨W3.heap.size, 0, none⟩ = some (.int .i64 0) := by simp [World.cell?, HSj.out]
          have s1 : W5.cell? ⟨W3.heap.size, 1, none⟩ = some (.slice none 0 0) := by simp [World.cell?, HSj.out]
          have s2 : W5.cell? ⟨W3.heap.size, 2, none⟩ = some (.int .i64 1) := by simp [World.cell?, HSj.out]
          have s3 : W5.cell? ⟨W3.heap.size, 3, none⟩ = some (.slice none 0 0) := by simp [World.cell?, HSj.out]
          have s4 : W5.cell? ⟨W3.heap.size, 4, none⟩ = some (.slice (some ⟨w1.heap.size, 0, none⟩) 1 m) := by simp [World.cell?, HSj.out]
          have m0 : W5.cell? ⟨W3.heap.size + 1 + 1, 0, none⟩ = some v := by simp [World.cell?, HMj.out]
          go_wp2_with (at_builtin; refine wpList_app_fn rfl (.tmp 55) (.tmp 57) rfl (W3.heap.size + 1) v _ rfl (World.ownsRow.alloc HOj.out _) (qMany 1 w1.heap.size m 1) rfl (heap_alloc_new _ _) (by simp; omega) (by simp; omega) ?_)
          intro v2 w6 h1 h2 h3
          replace h1 : w6.ownsRow (W3.heap.size + 1) 47 5 v2 (qMany regs w1.heap.size m m :: List.replicate (j + 1) (qMany 1 w1.heap.size m 1)).length (qcells (qMany regs w1.heap.size m m :: List.replicate (j + 1) (qMany 1 w1.heap.size m 1))) := by rw [List.replicate_succ']; simpa using h1
          have hoa := World.ownsRow.alloc HOj.out (Obj.cells (qMany 1 w1.heap.size m 1).cells.toArray 47)
          have hma : (W5.alloc (Obj.cells (qMany 1 w1.heap.size m 1).cells.toArray 47)).heap[W3.heap.size + 1 + 1]? = _ := (Below.heap_alloc _ _ _ hlm).trans HMj.out
          have hm6 : w6.heap[W3.heap.size + 1 + 1]? = _ := (h2.block _ (by simp; omega) (fun e => own_ne' hoa hma (by decide) e.symm)).trans hma
          have hs6 : w6.heap[W3.heap.size]? = _ := (h2.block _ (by simp; omega) (fun e => by have := (World.ownsRow.lt hoa _ e.symm).1; omega)).trans ((Below.heap_alloc _ _ _ hls).trans HSj.out)
          have hq1 := (HQj.out.1.below (bl0 _ (Obj.cells (qMany 1 w1.heap.size m 1).cells.toArray 47))).grown hoa h2
          have hq2 := (HQj.out.2.below (bl0 _ (Obj.cells (qMany 1 w1.heap.size m 1).cells.toArray 47))).grown hoa h2
          have hw13 : w1.heap.size ≤ W3.heap.size := HBm.out.size
          have hB6 : Below w1.heap.size w1 w6 := (HBj.out.alloc HBj.out.size _).grown h2 (by have := HBj.out.size; simp; omega) (fun k e => by have := (World.ownsRow.lt hoa _ e).1; omega)
          obtain ⟨x2, l2, c2, rfl⟩ : ∃ x2 l2 c2, v2 = .slice x2 l2 c2 := by
            rcases h1.2 with ⟨e, _⟩ | ⟨g2, cap2, cur2, e, _⟩
            · exact ⟨_, _, _, e⟩
            · exact ⟨_, _, _, e⟩
          have HB7 : Hid (Below w1.heap.size w1 (w6.setCell ⟨W3.heap.size + 1 + 1, 0, none⟩ (.slice x2 l2 c2))) := hB6.setCell (by simp; omega) _
          have HQ7 : Hid (QOk (w6.setCell ⟨W3.heap.size + 1 + 1, 0, none⟩ (.slice x2 l2 c2)) (qMany regs w1.heap.size m m) ∧ QOk (w6.setCell ⟨W3.heap.size + 1 + 1, 0, none⟩ (.slice x2 l2 c2)) (qMany 1 w1.heap.size m 1)) := ⟨hq1.set hm6 (by decide) (by decide) _, hq2.set hm6 (by decide) (by decide) _⟩
          have HS7 : Hid ((w6.setCell ⟨W3.heap.size + 1 + 1, 0, none⟩ (.slice x2 l2 c2)).heap[W3.heap.size]? = _) := Lib.hid ((Below.heap_setCell _ _ _ _ (by simp; omega)).trans hs6)
          have HM7 : Hid ((w6.setCell ⟨W3.heap.size + 1 + 1, 0, none⟩ (.slice x2 l2 c2)).heap[W3.heap.size + 1 + 1]? = some (.cells #[.slice x2 l2 c2] 31 (0, 0))) := Lib.hid (heap_setCell_same _ _ _ _ _ _ hm6)
          have HO7 := Lib.hid (own_set (i := 0) h1 hm6 (by decide) (.slice x2 l2 c2))
          have hc6 : w6.cell? ⟨W3.heap.size + 1 + 1, 0, none⟩ = some v := by simp [World.cell?, hm6]
          have hz6 : w6.frozen? ⟨W3.heap.size + 1 + 1, 0, none⟩ = false := frozen_of_row _ _ _ _ _ hm6
          clear h1 h2 h3 hoa hma hm6 hs6 hq1 hq2 hB6 s0 s1 s2 s3 s4 m0
          go_wp2_with fail
          go_roundw
          case rel => exact ⟨j + 1, _, by go_num, by omega, HB7.out, HQ7.out, HS7.out, HM7.out, HO7.out⟩
          case measure => simp [Go.RowKit.intOf]; omega
        · obtain rfl : j = N := by omega
          obtain ⟨qs, hqs⟩ : ∃ qs, qs = qMany regs w1.heap.size m m :: List.replicate j (qMany 1 w1.heap.size m 1) := ⟨_, rfl⟩
          have hfs : FSl W5 v (qs.map (·.f)) := row_fsl (by rw [hqs]; exact HOj.out) (fun q hq => by
            rw [hqs] at hq
            rcases List.mem_cons.1 hq with rfl | hq
            · exact HQj.out.1
            · obtain ⟨_, rfl⟩ := List.mem_replicate.1 hq
              exact HQj.out.2)
          have HOK : Hid (∀ (f : VF), f ∈ qs.map (·.f) → f.ok ∧ f.p + (f.h.length : Int) ≤ 9223372036854775807) := fun f hf => by
            obtain ⟨q, hq, rfl⟩ := List.mem_map.1 hf
            rw [hqs] at hq
            rcases List.mem_cons.1 hq with rfl | hq
            · exact qMany_fok hr
            · obtain ⟨_, rfl⟩ := List.mem_replicate.1 hq
              exact qMany_fok (r := 1) (by decide)
          obtain ⟨fs, hfq⟩ : ∃ fs, fs = qs.map (·.f) := ⟨_, rfl⟩
          rw [← hfq] at hfs HOK
          have HFS := Lib.hid hfs
          have m0 : W5.cell? ⟨W3.heap.size + 1 + 1, 0, none⟩ = some v := by simp [World.cell?, HMj.out]
          clear hqs hfq hfs
          go_wp2_with fail
          refine (check_any HFS.out (fun f hf => (HOK.out f hf).1)).mono ?_
          rintro e w6 ⟨rfl, hb6⟩
          have hmb := (hb6.block _ hlm).trans HMj.out
          have m6 : w6.cell? ⟨W3.heap.size + 1 + 1, 0, none⟩ = some v := by simp [World.cell?, hmb]
          have HB6 : Hid (Below w1.heap.size w1 w6) := HBj.out.trans (hb6.mono HBj.out.size)
          have HF6 : Hid (FSl w6 v fs) := HFS.out.up hb6
          obtain ⟨r, hr9⟩ : ∃ r, r = checkP fs := ⟨_, rfl⟩
          rw [← hr9]
          have HR9 := Lib.hid hr9
          unfold tup
          clear hmb hb6 hr9
          go_wp2_with fail
          refine (lawCheck_any HF6.out (fun f hf => (HOK.out f hf).1) (fun f hf => (HOK.out f hf).2)).mono ?_
          rintro e w7 ⟨rfl, hb7⟩
          have HBE : Hid (Below w.heap.size w w7) := HB1.out.trans ((HB6.out.trans (hb7.mono HB6.out.size)).mono HB1.out.size)
          rw [← HR9.out]
          unfold tup
          clear hb7 m6
          go_wp2
          go_ret
          exact ⟨rfl, HBE.out⟩
end Go.Proofs.YtpboencfnjmmbaaGreatDoor

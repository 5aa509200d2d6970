/-
  strconv.AppendInt at base 10, of numbers from nought on: a number's digits behind a row of bytes; nothing else that was there is written.
  Conditions: as each theorem says (the library's table of powers as it is laid).
-/
import Derived.Test.YtpgbfkdknggceaaGreatDoorTrPart
import Derived.Test.YtpgbfkdknggceaaGreatDoorTrShelf
import Derived.Lib.Walk
import Derived.Lib.ItoaMem
import Derived.BigCall
import Derived.BigGuard
namespace Go.Proofs.YtpgbfkdknggceaaGreatDoor
open Go.Shelf Go.RowKit Go.Sort Go.Lib TM
set_option linter.unusedVariables false
theorem digits20 (u : Nat) (h : u < 18446744073709551616) : (Lib.decDigits u).length ≤ 20 := by
  rw [Lib.decDigits_length]
  by_cases h0 : u = 0
  · subst h0; rw [Lib.nDigits]; decide
  · have := Lib.numDigits_eq u (by omega) h
    split at this <;> omega
theorem digits1 (u : Nat) : 0 < (Lib.decDigits u).length := by
  rw [Lib.decDigits_length, Lib.nDigits]
  split <;> omega
set_option maxHeartbeats 6400000 in
set_option maxRecDepth 100000 in
theorem appU_any {B : Nat} {w : World} {v : Value} {l : Bs} (hR : Bt B w v l) (hB : B ≤ w.heap.size) (u : Nat) (hu64 : u < 18446744073709551616) (hl : l.length ≤ 1000000000)
    (htab : Lib.TabIs Tryz.prog w "internal/strconv.uint64pow10" .u64 Lib.pow10Tab) :
    Calls Tryz.prog 82 #[v, .int .u64 u, .int .i64 10] w fun e w' => ∃ v', e = .returned v' ∧ Bt B w' v' (l ++ Lib.decDigits u) ∧ Gr w w' v v' := by
  have HR : Hid (Bt B w v l) := hR
  have hd20 := digits20 u hu64
  have hd1 := digits1 u
  clear hR
  by_cases hi : u < 100
  · go_enter Tryz.func82, Tryz.ntmps82
    go_wp2_with (first
      | (go_at_call 83; refine (Tryz.internal_strconv_small u hi _).mono ?_; rintro e w' ⟨rfl, rfl⟩)
      | (at_builtin; refine wpList_app_str rfl (.tmp 13) (.tmp 16) rfl rfl HR.out hB ⟨(Lib.decDigits u).toArray⟩ rfl (by simp [ByteArray.size]; omega) ?_))
    intro v1 w1 h1 k1
    have H1 : Hid (Bt B w1 v1 (l ++ Lib.decDigits u)) := h1
    have K1 : Hid (Gr _ w1 v v1) := k1
    clear h1 k1
    go_wp2
    go_ret
    exact ⟨v1, rfl, H1.out, K1.out⟩
  · have hu1 : 1 ≤ u := by omega
    have hnd20 : Lib.nDigits u ≤ 20 := by have := Lib.numDigits_eq u hu1 hu64; split at this <;> omega
    have hal : Tryz.prog.arrayLen 131 = 24 := by simp [Program.arrayLen, Tryz.underlying131]
    have hsl1 : ∀ W, (Instr.sliceAt 131 (.pointer (some ⟨w.heap.size, 0, none⟩)) none (some (.int .i64 (Lib.nDigits u : Int))) none).run Tryz.prog W = .ok (.slice (some ⟨w.heap.size, 0, none⟩) (Lib.nDigits u) 24) W := fun W => by
      rw [run_sliceAt_array_h W 131 ⟨w.heap.size, 0, none⟩ (by simp [Program.arrayLen, Program.elem, Tryz.underlying131]) .i64 (Lib.nDigits u : Int) (by omega) (by rw [hal]; omega)]
      go_simp
    have hH0 := Lib.holds_zero0 w 131 (Lib.nDigits u) (by omega)
    have hfmt := Tryz.internal_strconv_formatBase10 w.heap.size 0 24 u (Array.replicate (Lib.nDigits u) 0) (w.alloc (.cells Lib.zeros24 131)) hH0 (by rw [Array.size_replicate]; exact Lib.lt_pow_nDigits u) hu64 (by rw [Array.size_replicate]; omega)
    rw [Array.size_replicate] at hfmt
    have HH0 := Lib.hid hH0
    clear hH0 hal
    go_enter Tryz.func82, Tryz.ntmps82
    go_wp2_with (first
      | (go_at_call 84; refine (Tryz.internal_strconv_numDigits u hu1 hu64 _ (Lib.tabIs_alloc htab _)).mono ?_; rintro e w' ⟨rfl, rfl⟩))
    refine hfmt.mono ?_
    rintro e w' ⟨rfl, k, v', dk, rfl, hF⟩
    have hcells : ∀ j u', (Lib.byteCells (Lib.decDigits u))[j]? = some u' → ((putRow (fun (b : UInt8) => Value.int .u8 (b.toNat : Int)) (w.alloc (.cells Lib.zeros24 131)) w.heap.size 0 dk).drewN k).cell? ((⟨w.heap.size, 0, none⟩ : Addr).add j) = some u' := by
      intro j u' hj
      have hjl : j < (Lib.decDigits u).length := by
        have h5 := (List.getElem?_eq_some_iff.1 hj).1
        rwa [Lib.byteCells_length] at h5
      have e5 : (Lib.byteCells (Lib.decDigits u))[j]? = some (Value.int .u8 ((Lib.decDigits u)[j].toNat : Int)) := by simp [Lib.byteCells, hjl]
      rw [e5] at hj
      cases hj
      rw [Lib.row_is_numeral hF j hjl, Lib.add_plain, World.cell?_drewN]
      exact cell?_putRow (fun (b : UInt8) => Value.int .u8 (b.toNat : Int)) _ w.heap.size 0 _ dk HH0.out (by rw [hF.size, Array.size_replicate]) j (by rw [hF.size]; rw [Lib.decDigits_length] at hjl; exact hjl)
    obtain ⟨os, eo⟩ := Lib.fin_at w (.cells Lib.zeros24 131) dk k 0
    have HBW : Hid (Below w.heap.size w ((putRow (fun (b : UInt8) => Value.int .u8 (b.toNat : Int)) (w.alloc (.cells Lib.zeros24 131)) w.heap.size 0 dk).drewN k)) := by
      show Below _ _ _
      rw [eo]
      exact Lib.below_grow w.heap.size w (Nat.le_refl _) k os
    generalize (putRow (fun (b : UInt8) => Value.int .u8 (b.toNat : Int)) (w.alloc (.cells Lib.zeros24 131)) w.heap.size 0 dk).drewN k = W2 at hcells HBW ⊢
    have HR2 : Hid (Bt B W2 v l) := HR.out.below HBW.out
    have hB2 : B ≤ W2.heap.size := Nat.le_trans hB HBW.out.size
    have HC : Hid (∀ j u', (Lib.byteCells (Lib.decDigits u))[j]? = some u' → W2.cell? ((⟨w.heap.size, 0, none⟩ : Addr).add j) = some u') := hcells
    clear eo HH0 hfmt hcells
    obtain ⟨i0, hi0, hz0, hz1, hz2⟩ := info_parts infoU8
    go_wp2_with (at_builtin; refine wpList_append_own2 rfl (.tmp 24) (.tmp 26) 38 rfl B 5 i0 (.int .u8 0) 1 1 Tryz.underlying38 hi0 hz0 hz1 hz2 rfl (by decide) _ l.length _ rfl HR2.out ⟨w.heap.size, 0, none⟩ (Lib.nDigits u) 24 (Lib.byteCells (Lib.decDigits u)) rfl (by rw [Lib.byteCells_length, Lib.decDigits_length, Nat.mul_one]) HC.out (by intro u' hu'; simp only [Lib.byteCells, List.mem_map] at hu'; obtain ⟨b, _, rfl⟩ := hu'; rfl) (by rw [← Lib.decDigits_length]; exact hd1) (by unfold maxLen; omega) (by omega) hB2 ?_)
    intro v1 w1 h1 k1 o1
    have H1 : Hid (Bt B w1 v1 (l ++ Lib.decDigits u)) := by
      show w1.ownsRow _ _ _ _ _ _
      rw [List.length_append, Lib.decDigits_length, show Lib.byteCells (l ++ Lib.decDigits u) = Lib.byteCells l ++ Lib.byteCells (Lib.decDigits u) from by simp [Lib.byteCells]]
      exact h1
    have K1 : Hid (Gr w w1 v v1) := Gr.pre ⟨k1, fun k hk => by
      rcases o1 with o1 | o1
      · exact .inl (o1.symm.trans hk)
      · rw [o1] at hk; cases hk; exact .inr (Nat.le_refl _)⟩ HBW.out (fun k hk => (HR.out.lt k hk).2)
    clear h1 k1 o1
    go_wp2
    go_ret
    exact ⟨v1, rfl, H1.out, K1.out⟩
set_option maxHeartbeats 1000000 in
set_option maxRecDepth 100000 in
theorem appI_any {B : Nat} {w : World} {v : Value} {l : Bs} (hR : Bt B w v l) (hB : B ≤ w.heap.size) (n : Int) (h0 : 0 ≤ n) (h1 : n ≤ 9223372036854775807) (hl : l.length ≤ 1000000000)
    (htab : Lib.TabIs Tryz.prog w "internal/strconv.uint64pow10" .u64 Lib.pow10Tab) :
    Calls Tryz.prog 37 #[v, .int .i64 n, .int .i64 10] w fun e w' => ∃ v', e = .returned v' ∧ Bt B w' v' (l ++ Lib.itoa n) ∧ Gr w w' v v' := by
  obtain ⟨u, rfl⟩ : ∃ u : Nat, n = (u : Int) := ⟨n.toNat, by omega⟩
  have hit : Lib.itoa (u : Int) = Lib.decDigits u := by unfold Lib.itoa; rw [if_neg (by omega)]; simp
  rw [hit]
  have hc := appU_any hR hB u (by omega) hl htab
  have HC : Hid (Calls Tryz.prog 82 #[v, .int .u64 u, .int .i64 10] w fun e w' => ∃ v', e = .returned v' ∧ Bt B w' v' (l ++ Lib.decDigits u) ∧ Gr w w' v v') := hc
  clear hc hR htab hit
  have hin : Calls Tryz.prog 58 #[v, .int .i64 (u : Int), .int .i64 10] w fun e w' => ∃ v', e = .returned v' ∧ Bt B w' v' (l ++ Lib.decDigits u) ∧ Gr w w' v v' := by
    go_enter Tryz.func58, Tryz.ntmps58
    go_wp2_with (go_at_call 82; refine HC.out.mono ?_; rintro e w1 ⟨v1, rfl, h2, k2⟩; refine Hid.out ?_)
    refine Lib.hid ?_
    have H2 := Lib.hid h2
    have K2 := Lib.hid k2
    clear h2 k2
    go_wp2
    go_ret
    exact ⟨v1, rfl, H2.out, K2.out⟩
  have HI := Lib.hid hin
  clear hin HC
  go_enter Tryz.func37, Tryz.ntmps37
  go_wp2_with (go_at_call 58; refine HI.out.mono ?_; rintro e w1 ⟨v1, rfl, h2, k2⟩; refine Hid.out ?_)
  refine Lib.hid ?_
  have H2 := Lib.hid h2
  have K2 := Lib.hid k2
  clear h2 k2
  go_wp2
  go_ret
  exact ⟨v1, rfl, H2.out, K2.out⟩
end Go.Proofs.YtpgbfkdknggceaaGreatDoor

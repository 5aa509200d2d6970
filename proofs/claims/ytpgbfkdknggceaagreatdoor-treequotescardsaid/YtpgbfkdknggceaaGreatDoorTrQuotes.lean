/-
  The laws' quote; TreeQuotes: any text of bytes that a text may have, in quotes.
  Conditions: as each theorem says (the library's variables and the table of signs as they are laid).
-/
import Derived.Test.YtpgbfkdknggceaaGreatDoorTrAwake
import Derived.Test.YtpgbfkdknggceaaGreatDoorOpenO
namespace Go.Proofs.YtpgbfkdknggceaaGreatDoor
open Go.ChangeShapes Go.WideShapes Go.ChangeAt Go.RowKit TM
set_option linter.unusedVariables false
theorem bytes_at {s : ByteArray} {k : Nat} (h : k < s.size) : s.data.toList.getD k 0 = s[k]'h := by
  rw [List.getD_eq_getElem?_getD, byte_at s k h]; rfl
theorem appL (a b : ByteArray) : (a ++ b).data.toList = a.data.toList ++ b.data.toList := by simp
theorem appS (a b : ByteArray) : (a ++ b).size = a.size + b.size := by rw [← len_eq, ← len_eq, ← len_eq, appL, List.length_append]
theorem mkL (s : ByteArray) : (⟨s.data.toList.toArray⟩ : ByteArray) = s := rfl
set_option maxRecDepth 100000 in
set_option maxHeartbeats 2000000 in
/-- The laws' quote. -/
theorem lquote_any (s : ByteArray) (hs : s.size ≤ 1000000) (w : World) :
    Calls Tryz.prog 15 #[.string s] w fun e w' => e = .returned (.string ⟨(quoteT s.data.toList).toArray⟩) ∧ Below w.heap.size w w' := by
  have hcv := Lib.run_convert_string_bytes (P := Tryz.prog) w 9 38 5 s (u := .string) Tryz.underlying9 Tryz.underlying38 Tryz.underlying5
  have HCC : Hid (∀ j (hj : j < s.size), (Lib.bytesWorld w 5 s).cell? ⟨w.heap.size, j, none⟩ = some (.int .u8 ((s[j]'hj).toNat : Int))) := fun j hj => by rw [Lib.bytesWorld_cell w 5 s j hj, bytes_at hj]
  have HBW : Hid (Below w.heap.size w (Lib.bytesWorld w 5 s)) := Lib.bytesWorld_below w 5 s
  have hgl : w.heap.size < (Lib.bytesWorld w 5 s).heap.size := by rw [Lib.bytesWorld_size]; omega
  generalize Lib.bytesWorld w 5 s = W at hcv HCC HBW hgl
  generalize grownCap w s.size 0 5 = cap at hcv
  go_enter Tryz.func15, Tryz.ntmps15
  go_wp2_with fail
  go_loopw [9, 3] (fun i vo wr => ∃ (k : Nat) (y : ByteArray), k ≤ s.size ∧ i = .int .i64 k ∧ vo = .string y ∧ y.size ≤ 2 * k ∧ Hid (y.data.toList = (s.data.toList.take k).flatMap quo) ∧ Hid (Below W.heap.size W wr))
    (fun i _ _ => s.size - (intOf i).toNat)
  case atStart => exact ⟨0, ⟨#[]⟩, Nat.zero_le _, rfl, rfl, Nat.le_refl _, rfl, Below.refl _ _⟩
  case round =>
    obtain ⟨k, y, hk, rfl, rfl, hys, HY, HB⟩ := hrel
    by_cases hlt : k < s.size
    · have hb := byte_at s k hlt
      have HS : Hid ((s.data.toList.take (k + 1)).flatMap quo = (s.data.toList.take k).flatMap quo ++ quo (s[k]'hlt)) := quoF_snoc hb
      have q0 := (HB.out.cell (p := ⟨w.heap.size, k, none⟩) hgl).trans (HCC.out k hlt)
      have hidx : 0 ≤ (k : Int) ∧ (k : Int) < (s.size : Int) := ⟨by omega, by omega⟩
      have hgw : w.heap.size < wr.heap.size := Nat.lt_of_lt_of_le hgl HB.out.size
      have hct := run_byte_text (s[k]'hlt) wr
      have HBA : Hid (∀ o, Below W.heap.size W (wr.alloc o)) := fun o => HB.out.alloc HB.out.size o
      clear hb
      by_cases h10 : (s[k]'hlt).toNat = 10
      · have e1 : (((s[k]'hlt).toNat : Int) == 10) = true := by rw [h10]; rfl
        have HQ : Hid (quo (s[k]'hlt) = [92, 110]) := by show _ = _; simp [quo, h10]
        clear h10 hct
        go_wp2_with fail
        exact ⟨⟨k + 1, y ++ ⟨#[92, 110]⟩, by omega, by go_num, rfl, by rw [appS]; show y.size + 2 ≤ 2 * (k + 1); omega, by show _ = _; rw [appL, HS.out, HY.out, HQ.out], HB⟩, by simp [intOf]; omega⟩
      · have e1 : (((s[k]'hlt).toNat : Int) == 10) = false := by rw [beq_eq_false_iff_ne]; omega
        by_cases h34 : (s[k]'hlt).toNat = 34
        · have e2 : (((s[k]'hlt).toNat : Int) == 34) = true := by rw [h34]; rfl
          have HQ : Hid (quo (s[k]'hlt) = [92, s[k]'hlt]) := by show _ = _; simp [quo, h34]
          clear h10 h34
          go_wp2_with fail
          exact ⟨⟨k + 1, y ++ (⟨#[92]⟩ ++ ⟨#[s[k]'hlt]⟩), by omega, by go_num, rfl, by rw [appS, appS]; show y.size + (1 + 1) ≤ 2 * (k + 1); omega, by show _ = _; rw [appL, appL, HS.out, HY.out, HQ.out]; rfl, HBA.out _⟩, by simp [intOf]; omega⟩
        · have e2 : (((s[k]'hlt).toNat : Int) == 34) = false := by rw [beq_eq_false_iff_ne]; omega
          by_cases h92 : (s[k]'hlt).toNat = 92
          · have e3 : (((s[k]'hlt).toNat : Int) == 92) = true := by rw [h92]; rfl
            have HQ : Hid (quo (s[k]'hlt) = [92, s[k]'hlt]) := by show _ = _; simp [quo, h92]
            clear h10 h34 h92
            go_wp2_with fail
            exact ⟨⟨k + 1, y ++ (⟨#[92]⟩ ++ ⟨#[s[k]'hlt]⟩), by omega, by go_num, rfl, by rw [appS, appS]; show y.size + (1 + 1) ≤ 2 * (k + 1); omega, by show _ = _; rw [appL, appL, HS.out, HY.out, HQ.out]; rfl, HBA.out _⟩, by simp [intOf]; omega⟩
          · have e3 : (((s[k]'hlt).toNat : Int) == 92) = false := by rw [beq_eq_false_iff_ne]; omega
            have HQ : Hid (quo (s[k]'hlt) = [s[k]'hlt]) := by show _ = _; simp [quo, h10, h34, h92]
            clear h10 h34 h92
            go_wp2_with fail
            exact ⟨⟨k + 1, y ++ ⟨#[s[k]'hlt]⟩, by omega, by go_num, rfl, by rw [appS]; show y.size + 1 ≤ 2 * (k + 1); omega, by show _ = _; rw [appL, HS.out, HY.out, HQ.out], HBA.out _⟩, by simp [intOf]; omega⟩
    · obtain rfl : k = s.size := by omega
      have HF : Hid ((⟨#[34]⟩ ++ y ++ ⟨#[34]⟩ : ByteArray) = ⟨(quoteT s.data.toList).toArray⟩) := by
        show _ = _
        rw [← mkL (⟨#[34]⟩ ++ y ++ ⟨#[34]⟩), appL, appL, HY.out, List.take_of_length_le (by rw [len_eq]; exact Nat.le_refl _)]
        rfl
      have HBZ : Hid (Below w.heap.size w wr) := HBW.out.trans (HB.out.mono HBW.out.size)
      go_wp2
      go_ret
      exact ⟨by rw [← HF.out]; rfl, HBZ.out⟩
set_option maxRecDepth 100000 in
set_option maxHeartbeats 2000000 in
theorem quotes_any {v : Value} {l : List Int} {w : World} (hv : BRow w v l) (hL : Lw w) : Calls Tryz.prog 4 #[v] w fun e w' => e = .returned (.bool true) ∧ Below w.heap.size w w' := by
  obtain ⟨ra, rcap, rfl, hc1, hc2, hx, hg⟩ := hv
  unfold maxLen at hc2
  have HX : Hid (∀ x ∈ l, 0 ≤ x ∧ x ≤ 255) := hx
  have HG : Hid (l ≠ [] → ∃ g off, ra = some ⟨g, off, none⟩ ∧ g < w.heap.size ∧ ∀ j x, l[j]? = some x → w.cell? ⟨g, off + j, none⟩ = some (.int .u8 x)) := hg
  have HL : Hid (Lw w) := hL
  clear hL hx hg
  go_enter Tryz.func4, Tryz.ntmps4
  go_wp2_with fail
  refine (awake6 _ HL.out).mono ?_
  rintro e w1 ⟨rfl, b1⟩
  have HB1 : Hid (Below w.heap.size w w1) := b1
  clear b1 HL
  by_cases hlong : 200 < l.length
  · have e1 : decide ((200 : Int) < (l.length : Int)) = true := by simp; omega
    go_wp2
    go_ret
    exact ⟨rfl, HB1.out⟩
  have e1 : decide ((200 : Int) < (l.length : Int)) = false := by simp; omega
  go_wp2_with fail
  go_loopw [13, 3] (fun i vx wr => ∃ (k : Nat) (x : ByteArray), k ≤ l.length ∧ i = .int .i64 k ∧ vx = .string x ∧ x.size ≤ k ∧ Hid (Below w1.heap.size w1 wr))
    (fun i _ _ => l.length - (intOf i).toNat)
  case atStart => exact ⟨0, ⟨#[]⟩, Nat.zero_le _, rfl, rfl, Nat.le_refl _, Below.refl _ _⟩
  case round =>
    obtain ⟨k, x, hk, rfl, rfl, hxs, HB⟩ := hrel
    by_cases hlt : k < l.length
    · obtain ⟨xx, hxx⟩ : ∃ x, l[k]? = some x := ⟨_, List.getElem?_eq_getElem hlt⟩
      have hxr := HX.out xx (List.mem_of_getElem? hxx)
      obtain ⟨t, rfl⟩ : ∃ t : Nat, xx = (t : Int) := ⟨xx.toNat, by omega⟩
      obtain ⟨g, off, hga, hgl, hgc⟩ := HG.out (by rintro e; rw [e] at hlt; simp at hlt)
      subst hga
      have q0 := (HB.out.cell (p := ⟨g, off + k, none⟩) (Nat.lt_of_lt_of_le hgl HB1.out.size)).trans ((HB1.out.cell (p := ⟨g, off + k, none⟩) hgl).trans (hgc k _ hxx))
      have hidx : 0 ≤ (k : Int) ∧ (k : Int) < (l.length : Int) := ⟨by omega, by omega⟩
      have hq96 : t % 96 < 96 := Nat.mod_lt _ (by decide)
      have htm : ((t : Int)).tmod 96 = ((t % 96 : Nat) : Int) := by rw [Int.tmod_eq_emod_of_nonneg (by omega)]; omega
      have hmm : (t : Int) % 96 = ((t % 96 : Nat) : Int) := by omega
      have HBA : Hid (∀ o, Below w1.heap.size w1 (wr.alloc o)) := fun o => HB.out.alloc HB.out.size o
      generalize t % 96 = q at *
      have hC : ((UInt8.ofNat (31 + q)).toNat : Int) = 31 + (q : Int) := by
        have : (UInt8.ofNat (31 + q)).toNat = 31 + q := by simp; omega
        rw [this]; omega
      have hct := run_byte_text (UInt8.ofNat (31 + q)) wr
      rw [hC] at hct
      generalize UInt8.ofNat (31 + q) = C at hct
      clear hxx hgc hC
      by_cases h0 : q = 0
      · subst h0
        have hct2 : (convert 38 9 (.slice (some ⟨wr.heap.size, 0, none⟩) 1 1)).run Tryz.prog (wr.alloc (.cells #[.int .u8 10] 5)) = .ok (.string ⟨#[10]⟩) (wr.alloc (.cells #[.int .u8 10] 5)) := run_byte_text 10 wr
        clear hct
        go_wp2_with fail
        exact ⟨⟨k + 1, x ++ ⟨#[10]⟩, by omega, by go_num, rfl, by rw [appS]; show x.size + 1 ≤ k + 1; omega, HBA.out _⟩, by simp [intOf]; omega⟩
      · have n1 : (31 + (q : Int) == 31) = false := by rw [beq_eq_false_iff_ne]; omega
        go_wp2_with fail
        exact ⟨⟨k + 1, x ++ ⟨#[C]⟩, by omega, by go_num, rfl, by rw [appS]; show x.size + 1 ≤ k + 1; omega, HBA.out _⟩, by simp [intOf]; omega⟩
    · obtain rfl : k = l.length := by omega
      have HBZ : Hid (Below w.heap.size w wr) := HB1.out.trans (HB.out.mono HB1.out.size)
      go_wp2_with fail
      refine (quote_any x (by omega) _).mono ?_
      rintro e w2 ⟨rfl, b2⟩
      have HB2 : Hid (Below w.heap.size w w2) := HBZ.out.trans (b2.mono HBZ.out.size)
      clear b2
      go_wp2_with fail
      refine (lquote_any x (by omega) _).mono ?_
      rintro e w3 ⟨rfl, b3⟩
      have HB3 : Hid (Below w.heap.size w w3) := HB2.out.trans (b3.mono HB2.out.size)
      clear b3
      generalize quoteT x.data.toList = T
      go_wp2
      go_ret
      exact ⟨rfl, HB3.out⟩
end Go.Proofs.YtpgbfkdknggceaaGreatDoor

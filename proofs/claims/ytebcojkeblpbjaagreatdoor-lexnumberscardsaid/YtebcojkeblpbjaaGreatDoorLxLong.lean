/-
  LexLong: more than 8192 bytes are ErrSize, as many aren't.
  Conditions: as each theorem says (the library's ErrRange as it is laid).
-/
import Derived.Test.YtebcojkeblpbjaaGreatDoorLx6
import Derived.Test.YtebcojkeblpbjaaGreatDoorLxShelf2
namespace Go.Proofs.YtebcojkeblpbjaaGreatDoor
open Go.ChangeShapes Go.WideShapes Go.ChangeAt Go.RowKit LM
set_option linter.unusedVariables false
theorem rep_one (c : UInt8) : ∀ n, Lib.repeatL [c] n = List.replicate n c
  | 0 => rfl
  | n + 1 => by rw [Lib.repeatL, rep_one c n]; rfl
theorem gap_blanks : ∀ n, gap false (List.replicate n 32) = n
  | 0 => rfl
  | n + 1 => by rw [List.replicate_succ, gap_blank _ (.inl rfl), gap_blanks n]
theorem lex_blanks (n : Nat) : lexR 0 (List.replicate n 32) = .toks [⟨0, [], 0, n⟩] := by
  rw [lexR_end (by rw [gap_blanks]; simp), gap_blanks, Nat.zero_add]
set_option maxRecDepth 100000 in
set_option maxHeartbeats 1000000 in
theorem long_any (n : Nat) (hn : n ≤ 255) (w : World) (hL : Lv w) : Calls Tryz.prog 6 #[.int .u8 (n : Int)] w fun e w' => e = .returned (.bool true) ∧ Below w.heap.size w w' := by
  have HL : Hid (Lv w) := hL
  have HRP : Hid (∀ w, Calls Tryz.prog 13 #[.string ⟨#[32]⟩, .int .i64 (8189 + (n : Int) % 7)] w fun e w' => e = .returned (.string ⟨(List.replicate (8189 + n % 7) (32 : UInt8)).toArray⟩) ∧ Below w.heap.size w w') := fun w => by
    have := Tryz.strings_Repeat ⟨#[32]⟩ (8189 + n % 7) w (by omega) (by show 1 * _ ≤ _; omega)
    rw [show (⟨#[32]⟩ : ByteArray).data.toList = [32] from rfl, rep_one, show ((8189 + n % 7 : Nat) : Int) = 8189 + (n : Int) % 7 from by omega] at this
    exact this
  have hmod : n % 7 < 7 := Nat.mod_lt _ (by decide)
  have hsz : (⟨(List.replicate (8189 + n % 7) (32 : UInt8)).toArray⟩ : ByteArray).size = 8189 + n % 7 := by
    show (List.replicate (8189 + n % 7) (32 : UInt8)).toArray.size = _
    simp
  have hdl : (⟨(List.replicate (8189 + n % 7) (32 : UInt8)).toArray⟩ : ByteArray).data.toList = List.replicate (8189 + n % 7) 32 := rfl
  have HLX : Hid (lexR 0 (List.replicate (8189 + n % 7) 32) = .toks [⟨0, [], 0, 8189 + n % 7⟩]) := lex_blanks _
  have htm : ((n : Int)).tmod 7 = (n : Int) % 7 := by rw [Int.tmod_eq_emod_of_nonneg (by omega)]
  have hwr : IntKind.i64.wrap ((n : Int) % 7) = (n : Int) % 7 := by simp [IntKind.wrap, IntKind.bits, IntKind.signed]; omega
  generalize hbs : (⟨(List.replicate (8189 + n % 7) (32 : UInt8)).toArray⟩ : ByteArray) = bs at *
  rw [← hdl] at HLX
  clear hL hdl hbs
  go_enter Tryz.func6, Tryz.ntmps6
  go_wp2_with fail
  refine (awake5 _ HL.out).mono ?_
  rintro e w1 ⟨rfl, b1⟩
  have HB1 : Hid (Below w.heap.size w w1) := b1
  have HL1 : Hid (Lv w1) := HL.out.below b1
  clear b1 HL
  go_wp2_with fail
  refine (HRP.out _).mono ?_
  rintro e w2 ⟨rfl, b2⟩
  have HB2 : Hid (Below w.heap.size w w2) := HB1.out.trans (b2.mono HB1.out.size)
  have HL2 : Hid (Lv w2) := HL1.out.below b2
  clear b2 HL1 HB1
  go_wp2_with fail
  by_cases h4 : 4 ≤ n % 7
  · refine (split_long bs (by omega) _).mono ?_
    rintro e w2 ⟨rfl, rfl⟩
    have e1 : decide ((8192 : Int) < (bs.size : Int)) = true := by simp; omega
    go_wp2
    go_ret
    exact ⟨rfl, HB2.out⟩
  · refine (split_sp bs (by omega) _ HL2.out).mono ?_
    rintro e w3 h
    rw [HLX.out] at h
    generalize hl : ([⟨0, [], 0, 8189 + n % 7⟩] : List Tok) = l at h
    cases h with
    | toks _ g cap hl0 hc hm hg ht hb =>
      have hlen : l.length = 1 := by rw [← hl]; rfl
      have q0 := (ht.2 0 ⟨0, [], 0, 8189 + n % 7⟩ (by rw [← hl]; rfl)).2.2.2
      have hgl := ht.1
      have HB3 : Hid (Below w.heap.size w w3) := HB2.out.trans (hb.mono HB2.out.size)
      have e1 : decide ((8192 : Int) < (bs.size : Int)) = false := by simp; omega
      have e2 : (((8189 + n % 7 : Nat) : Int) == (bs.size : Int)) = true := by rw [hsz]; simp
      unfold maxLen at hm
      rw [hlen] at hc ⊢
      clear ht hb hl hlen hl0
      simp only [Nat.reduceMul, Nat.reduceAdd, ← hsz] at q0
      go_wp2
      go_ret
      exact ⟨rfl, HB3.out⟩
end Go.Proofs.YtebcojkeblpbjaaGreatDoor

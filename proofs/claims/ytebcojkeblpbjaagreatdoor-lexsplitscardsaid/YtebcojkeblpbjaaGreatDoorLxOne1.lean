/-
  The laws' among of layer 5; slices.Equal over two rows that hold the same tokens; the signs as a row of words.
  Conditions: as each theorem says.
-/
import Derived.Test.YtebcojkeblpbjaaGreatDoorLxJoins
namespace Go.Proofs.YtebcojkeblpbjaaGreatDoor
open Go.ChangeShapes Go.WideShapes Go.ChangeAt Go.RowKit LM
set_option linter.unusedVariables false
theorem has_dig : ∀ c : UInt8, ([48, 49, 50, 51, 52, 53, 54, 55, 56, 57] : List UInt8).contains c = isDig c := by
  have h : ∀ n : Fin 256, ([48, 49, 50, 51, 52, 53, 54, 55, 56, 57] : List UInt8).contains (UInt8.ofNat n.val) = isDig (UInt8.ofNat n.val) := by decide +kernel
  intro c
  have := h ⟨c.toNat, c.toNat_lt⟩
  rw [UInt8.ofNat_toNat] at this
  exact this
def wordSigns : List UInt8 := [97, 98, 99, 100, 101, 102, 103, 104, 105, 106, 107, 108, 109, 110, 111, 112, 113, 114, 115, 116, 117, 118, 119, 120, 121, 122, 65, 66, 67, 68, 69, 70, 71, 72, 73, 74, 75, 76, 77, 78, 79, 80, 81, 82, 83, 84, 85, 86, 87, 88, 89, 90, 95, 48, 49, 50, 51, 52, 53, 54, 55, 56, 57]
theorem has_wrd : ∀ c : UInt8, wordSigns.contains c = isWrd c := by
  have h : ∀ n : Fin 256, wordSigns.contains (UInt8.ofNat n.val) = isWrd (UInt8.ofNat n.val) := by decide +kernel
  intro c
  have := h ⟨c.toNat, c.toNat_lt⟩
  rw [UInt8.ofNat_toNat] at this
  exact this
theorem ix_call (T : Array UInt8) {p : UInt8 → Bool} (hp : ∀ c, T.toList.contains c = p c) (c : UInt8) (w : World) : Calls Tryz.prog 18 #[.string ⟨T⟩, .int .u8 (c.toNat : Int)] w fun e w' => ∃ x : Int, e = .returned (.int .i64 x) ∧ (decide (x < 0) = !p c) ∧ -1 ≤ x ∧ w' = w := by
  refine (Tryz.strings_IndexByte ⟨T⟩ (c.toNat : Int) w).mono ?_
  rintro e w' ⟨rfl, rfl⟩
  rw [show ((c.toNat : Int).toNat.toUInt8) = c from by rw [Int.toNat_natCast]; exact UInt8.ofNat_toNat, show (⟨T⟩ : ByteArray).data.toList = T.toList from rfl]
  refine ⟨_, rfl, ?_, ?_, rfl⟩
  · have := indexByte_neg T.toList c
    rw [hp] at this
    cases hc : p c with
    | true => rw [hc] at this; simp; rw [← Int.not_lt, this]; simp
    | false => rw [hc] at this; simp; rw [this]
  · have hge : ∀ l : List UInt8, -1 ≤ Lib.indexByte l c := by
      intro l
      induction l with
      | nil => simp [Lib.indexByte]
      | cons b l ih =>
        unfold Lib.indexByte
        split
        · omega
        · split <;> omega
    exact hge _
set_option maxRecDepth 100000 in
set_option maxHeartbeats 1000000 in
theorem among_any (T : Array UInt8) {p : UInt8 → Bool} (hp : ∀ c, T.toList.contains c = p c) (s : ByteArray) (hs : s.size ≤ 100000) (w : World) :
    Calls Tryz.prog 41 #[.string s, .string ⟨T⟩] w fun e w' => e = .returned (.int .i64 (runOf p s.data.toList : Nat)) ∧ w' = w := by
  have HI : Hid (∀ (c : UInt8) (w : World), Calls Tryz.prog 18 #[.string ⟨T⟩, .int .u8 (c.toNat : Int)] w fun e w' => ∃ x : Int, e = .returned (.int .i64 x) ∧ (decide (x < 0) = !p c) ∧ -1 ≤ x ∧ w' = w) := ix_call T hp
  clear hp
  go_enter Tryz.func41, Tryz.ntmps41
  go_wp2_with fail
  go_loopw [8] (fun i wr => ∃ k : Nat, k ≤ s.size ∧ i = .int .i64 k ∧ Hid (runOf p s.data.toList = k + runOf p (s.data.toList.drop k)) ∧ wr = w)
    (fun i _ => s.size - (intOf i).toNat)
  case atStart => exact ⟨0, Nat.zero_le _, rfl, by show _ = _; simp, rfl⟩
  case round =>
    obtain ⟨k, hk, rfl, HR, rfl⟩ := hrel
    by_cases hlt : k < s.size
    · have hb := byte_at s k hlt
      have HS := runOf_at (p := p) hb
      have hidx : 0 ≤ (k : Int) ∧ (k : Int) < (s.size : Int) := ⟨by omega, by omega⟩
      cases hp : p (s[k]'hlt) with
      | true =>
        rw [hp] at HS
        have HS2 : Hid (runOf p (s.data.toList.drop k) = runOf p (s.data.toList.drop (k + 1)) + 1) := HS
        have HC := HI.out (s[k]'hlt) wr
        rw [hp] at HC
        have HC2 : Hid (Calls Tryz.prog 18 #[.string ⟨T⟩, .int .u8 ((s[k]'hlt).toNat : Int)] wr fun e w' => ∃ x : Int, e = .returned (.int .i64 x) ∧ (decide (x < 0) = !true) ∧ -1 ≤ x ∧ w' = wr) := HC
        clear hb HS hp HC
        go_wp2_with fail
        refine HC2.out.mono ?_
        rintro e w ⟨x, rfl, hx, hx1, rfl⟩
        simp only [Bool.not_true] at hx
        go_wp2_with fail
        go_roundw
        case rel => exact ⟨k + 1, by omega, by go_num, by show _ = _; rw [HR.out, HS2.out]; omega, trivial⟩
        case measure => simp [intOf]; omega
      | false =>
        rw [hp] at HS
        have HS2 : Hid (runOf p (s.data.toList.drop k) = 0) := HS
        have HC := HI.out (s[k]'hlt) wr
        rw [hp] at HC
        have HC2 : Hid (Calls Tryz.prog 18 #[.string ⟨T⟩, .int .u8 ((s[k]'hlt).toNat : Int)] wr fun e w' => ∃ x : Int, e = .returned (.int .i64 x) ∧ (decide (x < 0) = !false) ∧ -1 ≤ x ∧ w' = wr) := HC
        clear hb HS hp HC
        go_wp2_with fail
        refine HC2.out.mono ?_
        rintro e w ⟨x, rfl, hx, hx1, rfl⟩
        simp only [Bool.not_false] at hx
        go_wp2
        go_ret
        exact ⟨by rw [HR.out, HS2.out]; rfl, rfl⟩
    · obtain rfl : k = s.size := by omega
      go_wp2
      go_ret
      refine ⟨?_, rfl⟩
      rw [HR.out, List.drop_eq_nil_of_le (by rw [len_eq]; exact Nat.le_refl _)]
      rfl
set_option maxRecDepth 100000 in
set_option maxHeartbeats 1000000 in
theorem equal_toks {w : World} {g1 g2 c1 c2 : Nat} {l : List Tok} (h1 : TokAt w g1 l) (h2 : TokAt w g2 l) (k1 : l.length ≤ c1) (k2 : l.length ≤ c2) (m1 : c1 ≤ maxLen) (m2 : c2 ≤ maxLen) (hl : l.length ≤ 10000) :
    Calls Tryz.prog 12 #[.slice (some ⟨g1, 0, none⟩) l.length c1, .slice (some ⟨g2, 0, none⟩) l.length c2] w fun e w' => e = .returned (.bool true) ∧ Below w.heap.size w w' := by
  have H1 : Hid (TokAt w g1 l) := h1
  have H2 : Hid (TokAt w g2 l) := h2
  unfold maxLen at m1 m2
  clear h1 h2
  go_enter Tryz.func12, Tryz.ntmps12
  go_wp2_with fail
  go_loopw [13] (fun i wr => ∃ k : Nat, k ≤ l.length ∧ i = .int .i64 k ∧ Hid (Below w.heap.size w wr))
    (fun i _ => l.length - (intOf i).toNat)
  case atStart => exact ⟨0, Nat.zero_le _, rfl, Below.refl _ _⟩
  case round =>
    obtain ⟨k, hk, rfl, HB⟩ := hrel
    by_cases hlt : k < l.length
    · obtain ⟨t, ht⟩ : ∃ t, l[k]? = some t := ⟨_, List.getElem?_eq_getElem hlt⟩
      obtain ⟨T1, T2⟩ := H1.out.below HB.out
      obtain ⟨U1, U2⟩ := H2.out.below HB.out
      obtain ⟨x0, x1, x2, x3⟩ := T2 k t ht
      obtain ⟨y0, y1, y2, y3⟩ := U2 k t ht
      have hneq := fun w => tok_neq (t.kind : Int) t.num (t.pos : Int) ⟨t.text.toArray⟩ w
      have hidx : 0 ≤ (k : Int) ∧ (k : Int) < (l.length : Int) := ⟨by omega, by omega⟩
      clear ht T2 U2
      go_wp2_with fail
      go_region
      go_wp2_with fail
      go_roundw
      case rel => exact ⟨k + 1, by omega, by go_num, HB.out.drew⟩
      case measure => simp [intOf]; omega
    · obtain rfl : k = l.length := by omega
      go_wp2
      go_ret
      exact ⟨rfl, HB.out⟩
set_option maxRecDepth 100000 in
theorem equal_none (w : World) : Calls Tryz.prog 12 #[.slice none 0 0, .slice none 0 0] w fun e w' => e = .returned (.bool true) ∧ Below w.heap.size w w' := by
  go_enter Tryz.func12, Tryz.ntmps12
  go_wp2
  refine wp_loop_rounds 1 ?_
  rw [rounds_succ]
  go_wp2
  go_ret
  exact ⟨rfl, Below.refl _ _⟩
/-- The law's words of signs. -/
def sgnWords : List (List UInt8) := [[61, 61], [33, 61], [40], [41], [123], [125], [91], [93], [59], [44], [58], [46], [61], [60], [43], [45], [42], [33]]
theorem sgn_hit : ∀ (l : List (List UInt8)) (S : List UInt8) (x : List UInt8), l.find? (fun w => Lib.hasPrefix S w) = some x → Lib.hasPrefix S x = true := fun l S x h => by simpa using List.find?_some h
theorem singles_find (c : UInt8) (t : List UInt8) : ∀ (l : List UInt8), (l.map fun x => [x]).find? (fun w => Lib.hasPrefix (c :: t) w) = if l.contains c then some [c] else none
  | [] => rfl
  | x :: l => by
    simp only [List.map_cons, List.find?_cons, List.contains_cons]
    by_cases hx : x = c
    · subst hx; simp [Lib.hasPrefix, List.isPrefixOf]
    · have h1 : Lib.hasPrefix (c :: t) [x] = false := by simp [Lib.hasPrefix, List.isPrefixOf, hx]
      rw [h1]
      simp only [singles_find c t l]
      have : (c == x) = false := by simpa using Ne.symm hx
      rw [this]; rfl
theorem sgn_find (c : UInt8) (t : List UInt8) : signV (c :: t) = match sgnWords.find? (fun w => Lib.hasPrefix (c :: t) w) with | some x => ansV 4 x 0 x.length 0 | none => ansV 0 [] 0 0 1 := by
  have e : sgnWords = [61, 61] :: [33, 61] :: ([40, 41, 123, 125, 91, 93, 59, 44, 58, 46, 61, 60, 43, 45, 42, 33] : List UInt8).map fun x => [x] := rfl
  rw [e, List.find?_cons, List.find?_cons, singles_find, signs_eq, prefix2, prefix2]
  unfold signV
  cases t with
  | nil =>
    simp only [sgn]
    by_cases h : signs1.contains c.toNat = true
    · rw [if_pos h, if_pos h]; rfl
    · rw [if_neg h, if_neg h]
  | cons d u =>
    by_cases h1 : c.toNat = 61 ∧ d.toNat = 61
    · have hc : c = 61 := UInt8.toNat_inj.1 h1.1
      have hd : d = 61 := UInt8.toNat_inj.1 h1.2
      subst hc hd
      rfl
    · by_cases h2 : c.toNat = 33 ∧ d.toNat = 61
      · have hc : c = 33 := UInt8.toNat_inj.1 h2.1
        have hd : d = 61 := UInt8.toNat_inj.1 h2.2
        subst hc hd
        rfl
      · have b1 : ((61 : UInt8) == c && (61 : UInt8) == d) = false := by rw [u8_beq, u8_beq]; simp; intro h3; omega
        have b2 : ((33 : UInt8) == c && (61 : UInt8) == d) = false := by rw [u8_beq, u8_beq]; simp; intro h3; omega
        simp only [b1, b2]
        have hs : sgn (c :: d :: u) = if signs1.contains c.toNat then 1 else 0 := sgn_one (t := d :: u) (fun d' u' he => by cases he; omega)
        rw [hs]
        by_cases h : signs1.contains c.toNat = true
        · rw [if_pos h, if_pos h]; rfl
        · rw [if_neg h, if_neg h]
end Go.Proofs.YtebcojkeblpbjaaGreatDoor

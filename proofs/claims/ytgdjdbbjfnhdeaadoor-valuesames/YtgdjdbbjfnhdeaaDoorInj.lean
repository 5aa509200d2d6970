/-
  Plain mathematics: the quoted text that strconv.Quote gives (Lib.quoteZ) tells which text it was, whatever the tables; so do the digits that strconv.FormatInt gives (Lib.itoa).
  Conditions: none.
-/
import Derived.Lib.QuoteLoop
import Derived.Lib.ItoaNum
import Derived.Laws.BytesArg
namespace Go.Proofs.YtgdjdbbjfnhdeaaDoor
open Go.Lib
set_option linter.unusedVariables false
/-- A hexadecimal digit's number. -/
def unhex (x : Int) : Int := if x < 58 then x - 48 else x - 87
theorem unhex_hexDigit (x : Nat) (h : x < 16) : unhex (hexDigit x) = x := by
  unfold unhex hexDigit
  split <;> split <;> omega
/-- How long the word at a quoted text's head is. -/
def clen (l : List Int) : Nat :=
  if l.getD 0 0 = 92 then (if l.getD 1 0 = 120 then 4 else if l.getD 1 0 = 117 then 6 else if l.getD 1 0 = 85 then 10 else 2)
  else if l.getD 0 0 < 128 then 1 else if l.getD 0 0 < 224 then 2 else if l.getD 0 0 < 240 then 3 else 4
/-- Which number that word tells. -/
def val (l : List Int) : Int :=
  if l.getD 0 0 = 92 then
    (if l.getD 1 0 = 120 then unhex (l.getD 2 0) * 16 + unhex (l.getD 3 0)
     else if l.getD 1 0 = 117 then ((unhex (l.getD 2 0) * 16 + unhex (l.getD 3 0)) * 16 + unhex (l.getD 4 0)) * 16 + unhex (l.getD 5 0)
     else if l.getD 1 0 = 85 then ((((((unhex (l.getD 2 0) * 16 + unhex (l.getD 3 0)) * 16 + unhex (l.getD 4 0)) * 16 + unhex (l.getD 5 0)) * 16 + unhex (l.getD 6 0)) * 16 + unhex (l.getD 7 0)) * 16 + unhex (l.getD 8 0)) * 16 + unhex (l.getD 9 0)
     else if l.getD 1 0 = 97 then 7 else if l.getD 1 0 = 98 then 8 else if l.getD 1 0 = 102 then 12 else if l.getD 1 0 = 110 then 10
     else if l.getD 1 0 = 114 then 13 else if l.getD 1 0 = 116 then 9 else if l.getD 1 0 = 118 then 11 else l.getD 1 0)
  else if l.getD 0 0 < 128 then l.getD 0 0
  else if l.getD 0 0 < 224 then (l.getD 0 0 - 192) * 64 + (l.getD 1 0 - 128)
  else if l.getD 0 0 < 240 then ((l.getD 0 0 - 224) * 64 + (l.getD 1 0 - 128)) * 64 + (l.getD 2 0 - 128)
  else (((l.getD 0 0 - 240) * 64 + (l.getD 1 0 - 128)) * 64 + (l.getD 2 0 - 128)) * 64 + (l.getD 3 0 - 128)
/-- What is said of a word in front of X that tells r. -/
def Word (c X : List Int) (r : Int) : Prop :=
  clen (c ++ X) = c.length ∧ val (c ++ X) = r ∧ (c ++ X).getD 0 0 ≠ 34 ∧ 0 < c.length
theorem enc_word (r : Int) (X : List Int) (hr : 0 ≤ r) (hv : r < 55296 ∨ (57343 < r ∧ r ≤ 1114111)) (h34 : r ≠ 34) (h92 : r ≠ 92) : Word (encodeRuneZ r) X r ∧ (encodeRuneZ r ++ X).getD 0 0 ≠ 92 := by
  unfold encodeRuneZ
  split
  · refine ⟨⟨?_, ?_, ?_, by simp⟩, by simpa using h92⟩
    · simp [clen, h92]; omega
    · simp [val, h92]; omega
    · simpa using h34
  · split
    · refine ⟨⟨?_, ?_, ?_, by simp⟩, ?_⟩
      · simp [clen]
        rw [if_neg (by omega), if_neg (by omega), if_pos (by omega)]
      · simp [val]
        rw [if_neg (by omega), if_neg (by omega), if_pos (by omega)]
        omega
      · simp; omega
      · simp; omega
    · split
      · refine ⟨⟨?_, ?_, ?_, by simp⟩, ?_⟩
        · simp [clen]
          rw [if_neg (by omega), if_neg (by omega), if_neg (by omega), if_pos (by omega)]
        · simp [val]
          rw [if_neg (by omega), if_neg (by omega), if_neg (by omega), if_pos (by omega)]
          omega
        · simp; omega
        · simp; omega
      · rw [if_pos (by omega)]
        refine ⟨⟨?_, ?_, ?_, by simp⟩, ?_⟩
        · simp [clen]
          rw [if_neg (by omega), if_neg (by omega), if_neg (by omega), if_neg (by omega)]
        · simp [val]
          rw [if_neg (by omega), if_neg (by omega), if_neg (by omega), if_neg (by omega)]
          omega
        · simp; omega
        · simp; omega
theorem hex2_word (b : Nat) (hb : b < 256) (X : List Int) : Word [92, 120, hexDigit (b / 16), hexDigit (b % 16)] X b := by
  refine ⟨by simp [clen], ?_, by simp, by simp⟩
  unfold val
  simp only [List.cons_append, List.nil_append, List.getD_cons_zero, List.getD_cons_succ]
  rw [if_pos trivial, if_pos trivial, unhex_hexDigit _ (by omega), unhex_hexDigit _ (by omega)]
  omega
/-- .. and where it is a backslash and an x, the number is one byte's. -/
def Ok (X : List Int) (r : Nat) (c : List Int) : Prop := Word c X r ∧ ((c ++ X).getD 0 0 = 92 → (c ++ X).getD 1 0 = 120 → r < 128)
theorem ite_ok {P : List Int → Prop} {c : Prop} [Decidable c] {a b : List Int} (h1 : c → P a) (h2 : ¬ c → P b) : P (if c then a else b) := by
  by_cases h : c
  · rw [if_pos h]; exact h1 h
  · rw [if_neg h]; exact h2 h
theorem two_word (X : List Int) (r : Nat) (h : r = 34 ∨ r = 92) : Ok X r [92, (r : Int)] := by
  rcases h with rfl | rfl
  · exact ⟨⟨by simp [clen], by simp [val], by simp, by simp⟩, by simp⟩
  · exact ⟨⟨by simp [clen], by simp [val], by simp, by simp⟩, by simp⟩
theorem esc_word (T : PrintTabs) (r : Nat) (X : List Int) (hv : r < 55296 ∨ (57343 < r ∧ r ≤ 1114111)) : Ok X r (escRune T r) := by
  have hvr : validRune (r : Int) = true := by
    unfold validRune
    exact decide_eq_true (by omega)
  unfold escRune
  refine ite_ok (fun h => two_word X r (by omega)) (fun h => ?_)
  have h34 : (r : Int) ≠ 34 := fun e => h (.inl e)
  have h92 : (r : Int) ≠ 92 := fun e => h (.inr e)
  refine ite_ok (fun _ => ?_) (fun _ => ?_)
  · have := enc_word r X (by omega) (by omega) h34 h92
    exact ⟨this.1, fun h => absurd h this.2⟩
  refine ite_ok (fun e => ?_) (fun _ => ?_)
  · exact ⟨⟨by simp [clen], by simp [val, e], by simp, by simp⟩, by simp⟩
  refine ite_ok (fun e => ?_) (fun _ => ?_)
  · exact ⟨⟨by simp [clen], by simp [val, e], by simp, by simp⟩, by simp⟩
  refine ite_ok (fun e => ?_) (fun _ => ?_)
  · exact ⟨⟨by simp [clen], by simp [val, e], by simp, by simp⟩, by simp⟩
  refine ite_ok (fun e => ?_) (fun _ => ?_)
  · exact ⟨⟨by simp [clen], by simp [val, e], by simp, by simp⟩, by simp⟩
  refine ite_ok (fun e => ?_) (fun _ => ?_)
  · exact ⟨⟨by simp [clen], by simp [val, e], by simp, by simp⟩, by simp⟩
  refine ite_ok (fun e => ?_) (fun _ => ?_)
  · exact ⟨⟨by simp [clen], by simp [val, e], by simp, by simp⟩, by simp⟩
  refine ite_ok (fun e => ?_) (fun _ => ?_)
  · exact ⟨⟨by simp [clen], by simp [val, e], by simp, by simp⟩, by simp⟩
  refine ite_ok (fun e => ?_) (fun e => ?_)
  · rw [Int.toNat_natCast]
    exact ⟨hex2_word r (by omega) X, fun _ _ => by omega⟩
  refine ite_ok (fun e => by simp [hvr] at e) (fun _ => ?_)
  rw [Int.toNat_natCast]
  refine ite_ok (fun e => ?_) (fun e => ?_)
  · refine ⟨⟨by simp [clen, hexDigits], ?_, by simp, by simp⟩, by simp⟩
    unfold val
    simp only [hexDigits, List.cons_append, List.nil_append, List.getD_cons_zero, List.getD_cons_succ]
    rw [if_pos trivial, if_neg (by decide), if_pos trivial, unhex_hexDigit _ (by omega), unhex_hexDigit _ (by omega), unhex_hexDigit _ (by omega), unhex_hexDigit _ (by omega)]
    omega
  · refine ⟨⟨by simp [clen, hexDigits], ?_, by simp, by simp⟩, by simp⟩
    unfold val
    simp only [hexDigits, List.cons_append, List.nil_append, List.getD_cons_zero, List.getD_cons_succ]
    rw [if_pos trivial, if_neg (by decide), if_neg (by decide), if_pos trivial, unhex_hexDigit _ (by omega), unhex_hexDigit _ (by omega), unhex_hexDigit _ (by omega), unhex_hexDigit _ (by omega), unhex_hexDigit _ (by omega), unhex_hexDigit _ (by omega), unhex_hexDigit _ (by omega), unhex_hexDigit _ (by omega)]
    omega
/-- A rune that was decoded, not a byte that is none: which bytes it was. -/
theorem good_bytes (n b0 b1 b2 b3 r w : Nat) (h0 : b0 < 256) (h1 : b1 < 256) (h2 : b2 < 256) (h3 : b3 < 256) (h : decodeN n b0 b1 b2 b3 = (r, w)) (hg : ¬ (w = 1 ∧ r = 65533)) :
    (r < 128 ∧ w = 1 ∧ b0 = r) ∨ (128 ≤ r ∧ r < 2048 ∧ w = 2 ∧ b0 = 192 + r / 64 ∧ b1 = 128 + r % 64) ∨
    (2048 ≤ r ∧ r < 65536 ∧ w = 3 ∧ b0 = 224 + r / 4096 ∧ b1 = 128 + r / 64 % 64 ∧ b2 = 128 + r % 64) ∨
    (65536 ≤ r ∧ w = 4 ∧ b0 = 240 + r / 262144 ∧ b1 = 128 + r / 4096 % 64 ∧ b2 = 128 + r / 64 % 64 ∧ b3 = 128 + r % 64) := by
  by_cases c0 : b0 < 128
  · rw [decodeN, if_pos c0, Prod.mk.injEq] at h
    left; omega
  by_cases c1 : b0 / 32 = 6 ∧ (1 < n ∧ b1 / 64 = 2)
  · rw [decodeN, if_neg c0, if_pos c1] at h
    obtain ⟨d1, _, d2⟩ := c1
    split at h
    · rename_i e
      rw [Prod.mk.injEq] at h
      clear h2 h3
      right; left; omega
    · rw [Prod.mk.injEq] at h
      exact absurd ⟨h.2.symm, h.1.symm⟩ hg
  by_cases c2 : b0 / 16 = 14 ∧ (1 < n ∧ b1 / 64 = 2) ∧ (2 < n ∧ b2 / 64 = 2)
  · rw [decodeN, if_neg c0, if_neg c1, if_pos c2] at h
    obtain ⟨d1, ⟨_, d2⟩, _, d3⟩ := c2
    clear c1
    split at h
    · rename_i e
      obtain ⟨e1, _⟩ := e
      rw [Prod.mk.injEq] at h
      obtain ⟨h, hw⟩ := h
      right; right; left
      exact ⟨by omega, by omega, by omega, by omega, by omega, by omega⟩
    · rw [Prod.mk.injEq] at h
      exact absurd ⟨h.2.symm, h.1.symm⟩ hg
  by_cases c3 : b0 / 8 = 30 ∧ (1 < n ∧ b1 / 64 = 2) ∧ (2 < n ∧ b2 / 64 = 2) ∧ (3 < n ∧ b3 / 64 = 2)
  · rw [decodeN, if_neg c0, if_neg c1, if_neg c2, if_pos c3] at h
    obtain ⟨d1, ⟨_, d2⟩, ⟨_, d3⟩, _, d4⟩ := c3
    clear c1 c2
    split at h
    · rename_i e
      obtain ⟨e1, _⟩ := e
      rw [Prod.mk.injEq] at h
      obtain ⟨h, hw⟩ := h
      right; right; right
      exact ⟨by omega, by omega, by omega, by omega, by omega, by omega⟩
    · rw [Prod.mk.injEq] at h
      exact absurd ⟨h.2.symm, h.1.symm⟩ hg
  · rw [decodeN, if_neg c0, if_neg c1, if_neg c2, if_neg c3, Prod.mk.injEq] at h
    exact absurd ⟨h.2.symm, h.1.symm⟩ hg
theorem bad_byte (n b0 b1 b2 b3 : Nat) (h : decodeN n b0 b1 b2 b3 = (65533, 1)) : 128 ≤ b0 := by
  unfold decodeN at h
  split at h
  · simp only [Prod.mk.injEq] at h; omega
  · omega
/-- A byte that is no rune's, told by its number. -/
def isB (l : List Int) : Prop := l.getD 0 0 = 92 ∧ l.getD 1 0 = 120 ∧ 128 ≤ val l
theorem step_ok (T : PrintTabs) (s : ByteArray) (X : List Int) :
    (clen (quoteStep T s ++ X) = (quoteStep T s).length ∧ (quoteStep T s ++ X).getD 0 0 ≠ 34 ∧ 0 < (quoteStep T s).length) ∧
    ((((Utf8.decode s 0).2 = 1 ∧ (Utf8.decode s 0).1 = 65533) ∧ val (quoteStep T s ++ X) = ((s.get! 0).toNat : Int) ∧ isB (quoteStep T s ++ X)) ∨
     (¬ ((Utf8.decode s 0).2 = 1 ∧ (Utf8.decode s 0).1 = 65533) ∧ val (quoteStep T s ++ X) = ((Utf8.decode s 0).1 : Int) ∧ ¬ isB (quoteStep T s ++ X))) := by
  by_cases hb : (Utf8.decode s 0).2 = 1 ∧ (Utf8.decode s 0).1 = 65533
  · have hlt : (s.get! 0).toNat < 256 := UInt8.toNat_lt _
    have e : quoteStep T s = [92, 120, hexDigit ((s.get! 0).toNat / 16), hexDigit ((s.get! 0).toNat % 16)] := by
      unfold quoteStep
      rw [if_pos hb]
    have hB : 128 ≤ (s.get! 0).toNat := by
      refine bad_byte (s.size - 0) (s.get! 0).toNat (s.get! (0 + 1)).toNat (s.get! (0 + 2)).toNat (s.get! (0 + 3)).toNat ?_
      rw [← decode_at]
      exact Prod.ext hb.2 hb.1
    obtain ⟨w1, w2, w3, w4⟩ := hex2_word (s.get! 0).toNat hlt X
    rw [e]
    refine ⟨⟨w1, w3, w4⟩, .inl ⟨hb, w2, ?_⟩⟩
    refine ⟨by simp, by simp, ?_⟩
    rw [w2]; omega
  · have e := quoteStep_good T s hb
    have hv := decodeN_valid (s.size - 0) (s.get! 0).toNat (s.get! (0 + 1)).toNat (s.get! (0 + 2)).toNat (s.get! (0 + 3)).toNat (UInt8.toNat_lt _)
    rw [← decode_at] at hv
    obtain ⟨⟨w1, w2, w3, w4⟩, w5⟩ := esc_word T (Utf8.decode s 0).1 X hv
    rw [e]
    refine ⟨⟨w1, w3, w4⟩, .inr ⟨hb, w2, ?_⟩⟩
    rintro ⟨a, b, c⟩
    have := w5 a b
    rw [w2] at c
    omega
theorem good_same (s s' : ByteArray) (h : ¬ ((Utf8.decode s 0).2 = 1 ∧ (Utf8.decode s 0).1 = 65533)) (h' : ¬ ((Utf8.decode s' 0).2 = 1 ∧ (Utf8.decode s' 0).1 = 65533)) (hr : (Utf8.decode s 0).1 = (Utf8.decode s' 0).1) :
    (Utf8.decode s 0).2 = (Utf8.decode s' 0).2 ∧ ∀ i, i < (Utf8.decode s 0).2 → s.get! i = s'.get! i := by
  have g := good_bytes (s.size - 0) (s.get! 0).toNat (s.get! (0 + 1)).toNat (s.get! (0 + 2)).toNat (s.get! (0 + 3)).toNat (Utf8.decode s 0).1 (Utf8.decode s 0).2 (UInt8.toNat_lt _) (UInt8.toNat_lt _) (UInt8.toNat_lt _) (UInt8.toNat_lt _) (by rw [← decode_at]) h
  have g' := good_bytes (s'.size - 0) (s'.get! 0).toNat (s'.get! (0 + 1)).toNat (s'.get! (0 + 2)).toNat (s'.get! (0 + 3)).toNat (Utf8.decode s' 0).1 (Utf8.decode s' 0).2 (UInt8.toNat_lt _) (UInt8.toNat_lt _) (UInt8.toNat_lt _) (UInt8.toNat_lt _) (by rw [← decode_at]) h'
  rw [hr] at g
  generalize (Utf8.decode s' 0).1 = r at g g'
  generalize (Utf8.decode s 0).2 = w at g ⊢
  generalize (Utf8.decode s' 0).2 = w' at g' ⊢
  clear h h' hr
  have key : ∀ i, (s.get! i).toNat = (s'.get! i).toNat → s.get! i = s'.get! i := fun i h => UInt8.toNat_inj.1 h
  rcases g with ⟨a, rfl, b⟩ | ⟨a, a', rfl, b, c⟩ | ⟨a, a', rfl, b, c, d⟩ | ⟨a, rfl, b, c, d, e⟩
  · rcases g' with ⟨_, rfl, b'⟩ | ⟨_, _, rfl, b', c'⟩ | ⟨_, _, rfl, b', c', d'⟩ | ⟨_, rfl, b', c', d', e'⟩
    · exact ⟨rfl, fun i hi => by obtain rfl : i = 0 := by omega
                                 exact key 0 (b.trans b'.symm)⟩
    · omega
    · omega
    · omega
  · rcases g' with ⟨_, rfl, b'⟩ | ⟨_, _, rfl, b', c'⟩ | ⟨_, _, rfl, b', c', d'⟩ | ⟨_, rfl, b', c', d', e'⟩
    · omega
    · refine ⟨rfl, fun i hi => ?_⟩
      match i, hi with
      | 0, _ => exact key 0 (b.trans b'.symm)
      | 1, _ => exact key 1 (c.trans c'.symm)
    · omega
    · omega
  · rcases g' with ⟨_, rfl, b'⟩ | ⟨_, _, rfl, b', c'⟩ | ⟨_, _, rfl, b', c', d'⟩ | ⟨_, rfl, b', c', d', e'⟩
    · omega
    · omega
    · refine ⟨rfl, fun i hi => ?_⟩
      match i, hi with
      | 0, _ => exact key 0 (b.trans b'.symm)
      | 1, _ => exact key 1 (c.trans c'.symm)
      | 2, _ => exact key 2 (d.trans d'.symm)
    · omega
  · rcases g' with ⟨_, rfl, b'⟩ | ⟨_, _, rfl, b', c'⟩ | ⟨_, _, rfl, b', c', d'⟩ | ⟨_, rfl, b', c', d', e'⟩
    · omega
    · omega
    · omega
    · refine ⟨rfl, fun i hi => ?_⟩
      match i, hi with
      | 0, _ => exact key 0 (b.trans b'.symm)
      | 1, _ => exact key 1 (c.trans c'.symm)
      | 2, _ => exact key 2 (d.trans d'.symm)
      | 3, _ => exact key 3 (e.trans e'.symm)
theorem bytes_join (s s' : ByteArray) (w : Nat) (hw : w ≤ s.size) (hw' : w ≤ s'.size) (hb : ∀ i, i < w → s.get! i = s'.get! i) (he : s.extract w s.size = s'.extract w s'.size) : s = s' := by
  have hs : s.size = s'.size := by
    have := congrArg ByteArray.size he
    simp [ByteArray.size_extract] at this
    omega
  obtain ⟨d⟩ := s
  obtain ⟨d'⟩ := s'
  have hs' : d.size = d'.size := hs
  congr 1
  refine Array.ext hs' fun i h1 h2 => ?_
  by_cases hi : i < w
  · have := hb i hi
    have a1 : (⟨d⟩ : ByteArray).get! i = d[i] := getElem!_pos d i h1
    have a2 : (⟨d'⟩ : ByteArray).get! i = d'[i] := getElem!_pos d' i h2
    rw [a1, a2] at this
    exact this
  · have e1 : (d.extract w d.size) = (d'.extract w d'.size) := by
      have := congrArg ByteArray.data he
      simpa [ByteArray.data_extract, ByteArray.size] using this
    have e2 := congrArg (fun a : Array UInt8 => a[i - w]?) e1
    simp only [Array.getElem?_extract] at e2
    rw [if_pos (by omega), if_pos (by omega), show w + (i - w) = i by omega, Array.getElem?_eq_getElem h1, Array.getElem?_eq_getElem h2] at e2
    exact Option.some.inj e2
theorem from_inj (T : PrintTabs) (m : Nat) : ∀ (s s' : ByteArray) (f f' : Nat), s.size ≤ m → s.size ≤ f → s'.size ≤ f' → quoteFrom T f s ++ [34] = quoteFrom T f' s' ++ [34] → s = s' := by
  induction m with
  | zero =>
    intro s s' f f' hm hf hf' h
    by_cases h0' : 0 < s'.size
    · rw [quoteFrom_step T f' s' h0' hf', quoteFrom_end T f s (by omega), List.append_assoc] at h
      have k := (step_ok T s' (quoteFrom T (f' - 1) (s'.extract (Utf8.decode s' 0).2 s'.size) ++ [34])).1.2.1
      rw [← h] at k
      simp at k
    · exact bytes_join s s' 0 (Nat.zero_le _) (Nat.zero_le _) (fun i hi => by omega) (by rw [show s.size = 0 by omega, show s'.size = 0 by omega]; simp)
  | succ m ih =>
    intro s s' f f' hm hf hf' h
    by_cases h0 : 0 < s.size
    · by_cases h0' : 0 < s'.size
      · rw [quoteFrom_step T f s h0 hf, quoteFrom_step T f' s' h0' hf', List.append_assoc, List.append_assoc] at h
        have k := step_ok T s (quoteFrom T (f - 1) (s.extract (Utf8.decode s 0).2 s.size) ++ [34])
        have k' := step_ok T s' (quoteFrom T (f' - 1) (s'.extract (Utf8.decode s' 0).2 s'.size) ++ [34])
        have p1 := width_pos s 0
        have p2 := width_le s h0
        have p1' := width_pos s' 0
        have p2' := width_le s' h0'
        have hl : (quoteStep T s).length = (quoteStep T s').length := by
          rw [← k.1.1, ← k'.1.1, h]
        obtain ⟨hc, hX⟩ := List.append_inj h hl
        have k2 := k.2
        have k2' := k'.2
        rw [h] at k2
        have hsame : (Utf8.decode s 0).2 = (Utf8.decode s' 0).2 ∧ ∀ i, i < (Utf8.decode s 0).2 → s.get! i = s'.get! i := by
          rcases k2 with ⟨b, v, B⟩ | ⟨b, v, B⟩
          · rcases k2' with ⟨b', v', B'⟩ | ⟨b', v', B'⟩
            · refine ⟨by rw [b.1, b'.1], fun i hi => ?_⟩
              rw [b.1] at hi
              obtain rfl : i = 0 := by omega
              exact UInt8.toNat_inj.1 (by have := v.symm.trans v'; omega)
            · exact absurd B B'
          · rcases k2' with ⟨b', v', B'⟩ | ⟨b', v', B'⟩
            · exact absurd B' B
            · exact good_same s s' b b' (by have := v.symm.trans v'; omega)
        have hrec : s.extract (Utf8.decode s 0).2 s.size = s'.extract (Utf8.decode s' 0).2 s'.size :=
          ih _ _ _ _ (by rw [size_rest]; omega) (by rw [size_rest]; omega) (by rw [size_rest]; omega) hX
        rw [← hsame.1] at hrec
        exact bytes_join s s' _ p2 (by rw [hsame.1]; exact p2') hsame.2 hrec
      · rw [quoteFrom_step T f s h0 hf, quoteFrom_end T f' s' h0', List.append_assoc] at h
        have k := (step_ok T s (quoteFrom T (f - 1) (s.extract (Utf8.decode s 0).2 s.size) ++ [34])).1.2.1
        rw [h] at k
        simp at k
    · by_cases h0' : 0 < s'.size
      · rw [quoteFrom_step T f' s' h0' hf', quoteFrom_end T f s h0, List.append_assoc] at h
        have k := (step_ok T s' (quoteFrom T (f' - 1) (s'.extract (Utf8.decode s' 0).2 s'.size) ++ [34])).1.2.1
        rw [← h] at k
        simp at k
      · exact bytes_join s s' 0 (Nat.zero_le _) (Nat.zero_le _) (fun i hi => by omega) (by rw [show s.size = 0 by omega, show s'.size = 0 by omega]; simp)
theorem quoteZ_inj (T : PrintTabs) (s s' : ByteArray) (h : quoteZ T s = quoteZ T s') : s = s' := by
  unfold quoteZ at h
  exact from_inj T s.size s s' s.size s'.size (Nat.le_refl _) (Nat.le_refl _) (Nat.le_refl _) (List.cons.inj h).2
/-- Bytes as numbers. -/
def Bytes (l : List Int) : Prop := ∀ x ∈ l, 0 ≤ x ∧ x < 256
theorem hex_byte (x : Nat) (h : x < 16) : 0 ≤ hexDigit x ∧ hexDigit x < 256 := by unfold hexDigit; split <;> omega
theorem bytes_ite {c : Prop} [Decidable c] {a b : List Int} (h1 : c → Bytes a) (h2 : ¬ c → Bytes b) : Bytes (if c then a else b) := by
  by_cases h : c
  · rw [if_pos h]; exact h1 h
  · rw [if_neg h]; exact h2 h
theorem bytes_cons {x : Int} {l : List Int} (h : 0 ≤ x ∧ x < 256) (hl : Bytes l) : Bytes (x :: l) := by
  intro y hy
  rcases List.mem_cons.1 hy with rfl | hy
  · exact h
  · exact hl y hy
theorem bytes_nil : Bytes [] := fun x hx => by cases hx
theorem bytes_append {l m : List Int} (h : Bytes l) (h' : Bytes m) : Bytes (l ++ m) := fun x hx => (List.mem_append.1 hx).elim (h x) (h' x)
theorem bytes_hex (r : Nat) : ∀ n, Bytes (hexDigits r n)
  | 0 => bytes_nil
  | n + 1 => bytes_cons (hex_byte _ (Nat.mod_lt _ (by decide))) (bytes_hex r n)
theorem bytes_enc (r : Int) : Bytes (encodeRuneZ r) := by
  unfold encodeRuneZ
  refine bytes_ite (fun h => bytes_cons (by omega) bytes_nil) (fun _ => ?_)
  refine bytes_ite (fun h => bytes_cons (by omega) (bytes_cons (by omega) bytes_nil)) (fun _ => ?_)
  refine bytes_ite (fun h => bytes_cons (by omega) (bytes_cons (by omega) (bytes_cons (by omega) bytes_nil))) (fun _ => ?_)
  refine bytes_ite (fun h => bytes_cons (by omega) (bytes_cons (by omega) (bytes_cons (by omega) (bytes_cons (by omega) bytes_nil)))) (fun _ => ?_)
  exact bytes_cons (by omega) (bytes_cons (by omega) (bytes_cons (by omega) bytes_nil))
theorem bytes_esc (T : PrintTabs) (r : Int) (hr : 0 ≤ r) : Bytes (escRune T r) := by
  unfold escRune
  refine bytes_ite (fun h => bytes_cons (by omega) (bytes_cons (by omega) bytes_nil)) (fun _ => ?_)
  refine bytes_ite (fun h => bytes_enc r) (fun _ => ?_)
  refine bytes_ite (fun h => bytes_cons (by omega) (bytes_cons (by omega) bytes_nil)) (fun _ => ?_)
  refine bytes_ite (fun h => bytes_cons (by omega) (bytes_cons (by omega) bytes_nil)) (fun _ => ?_)
  refine bytes_ite (fun h => bytes_cons (by omega) (bytes_cons (by omega) bytes_nil)) (fun _ => ?_)
  refine bytes_ite (fun h => bytes_cons (by omega) (bytes_cons (by omega) bytes_nil)) (fun _ => ?_)
  refine bytes_ite (fun h => bytes_cons (by omega) (bytes_cons (by omega) bytes_nil)) (fun _ => ?_)
  refine bytes_ite (fun h => bytes_cons (by omega) (bytes_cons (by omega) bytes_nil)) (fun _ => ?_)
  refine bytes_ite (fun h => bytes_cons (by omega) (bytes_cons (by omega) bytes_nil)) (fun _ => ?_)
  refine bytes_ite (fun h => bytes_cons (by omega) (bytes_cons (by omega) (bytes_cons (hex_byte _ (by omega)) (bytes_cons (hex_byte _ (by omega)) bytes_nil)))) (fun _ => ?_)
  refine bytes_ite (fun h => bytes_cons (by omega) (bytes_cons (by omega) (bytes_hex _ _))) (fun _ => ?_)
  exact bytes_ite (fun h => bytes_cons (by omega) (bytes_cons (by omega) (bytes_hex _ _))) (fun _ => bytes_cons (by omega) (bytes_cons (by omega) (bytes_hex _ _)))
theorem bytes_step (T : PrintTabs) (s : ByteArray) : Bytes (quoteStep T s) := by
  unfold quoteStep
  have h : (s.get! 0).toNat < 256 := UInt8.toNat_lt _
  exact bytes_ite (fun _ => bytes_cons (by omega) (bytes_cons (by omega) (bytes_cons (hex_byte _ (by omega)) (bytes_cons (hex_byte _ (by omega)) bytes_nil)))) (fun _ => bytes_esc T _ (by omega))
theorem bytes_from (T : PrintTabs) : ∀ (f : Nat) (s : ByteArray), Bytes (quoteFrom T f s)
  | 0, _ => bytes_nil
  | f + 1, s => by
    unfold quoteFrom
    exact bytes_ite (fun _ => bytes_append (bytes_step T s) (bytes_from T f _)) (fun _ => bytes_nil)
theorem bytes_quoteZ (T : PrintTabs) (s : ByteArray) : Bytes (quoteZ T s) := bytes_cons (by omega) (bytes_append (bytes_from T _ s) (bytes_cons (by omega) bytes_nil))
theorem map_inj : ∀ (l m : List Int), Bytes l → Bytes m → (l.map fun n => UInt8.ofNat n.toNat) = (m.map fun n => UInt8.ofNat n.toNat) → l = m
  | [], [], _, _, _ => rfl
  | [], _ :: _, _, _, h => by simp at h
  | _ :: _, [], _, _, h => by simp at h
  | x :: l, y :: m, hl, hm, h => by
    simp only [List.map_cons, List.cons.injEq] at h
    obtain ⟨h1, h2⟩ := h
    have bx := hl x (by simp)
    have yb := hm y (by simp)
    have e : x = y := by
      have := congrArg UInt8.toNat h1
      rw [UInt8.toNat_ofNat', UInt8.toNat_ofNat'] at this
      omega
    rw [e, map_inj l m (fun z hz => hl z (by simp [hz])) (fun z hz => hm z (by simp [hz])) h2]
theorem quote_inj (T : PrintTabs) (s s' : ByteArray) (h : strOfNums (quoteZ T s) = strOfNums (quoteZ T s')) : s = s' := by
  refine quoteZ_inj T s s' (map_inj _ _ (bytes_quoteZ T s) (bytes_quoteZ T s') ?_)
  have := congrArg (fun b : ByteArray => b.data.toList) h
  simpa [strOfNums_data] using this
/-- The number that digits tell. -/
def numVal (l : List UInt8) : Nat := l.foldl (fun a c => a * 10 + (c.toNat - 48)) 0
theorem numVal_digits (u : Nat) : numVal (decDigits u) = u := by
  induction u using Nat.strongRecOn with
  | ind u ih =>
    by_cases h : u < 10
    · rw [decDigits_one h]
      simp [numVal, UInt8.toNat_ofNat']
      omega
    · rw [decDigits, dif_neg h]
      have := ih (u / 10) (by omega)
      unfold numVal at this ⊢
      rw [List.foldl_append, this]
      simp [UInt8.toNat_ofNat']
      omega
theorem digits_ge (u : Nat) : ∀ c ∈ decDigits u, c ≠ 45 := by
  induction u using Nat.strongRecOn with
  | ind u ih =>
    by_cases h : u < 10
    · rw [decDigits_one h]
      intro c hc e
      simp at hc
      rw [hc] at e
      have := congrArg UInt8.toNat e
      simp [UInt8.toNat_ofNat'] at this
      omega
    · rw [decDigits, dif_neg h]
      intro c hc
      rcases List.mem_append.1 hc with hc | hc
      · exact ih (u / 10) (by omega) c hc
      · intro e
        simp at hc
        rw [hc] at e
        have := congrArg UInt8.toNat e
        simp [UInt8.toNat_ofNat'] at this
        omega
theorem itoa_inj (n m : Int) (h : itoa n = itoa m) : n = m := by
  unfold itoa at h
  split at h <;> split at h
  · have := congrArg numVal (List.cons.inj h).2
    rw [numVal_digits, numVal_digits] at this
    omega
  · exact absurd rfl (digits_ge m.toNat 45 (h ▸ by simp))
  · exact absurd rfl (digits_ge n.toNat 45 (h.symm ▸ by simp))
  · have := congrArg numVal h
    rw [numVal_digits, numVal_digits] at this
    omega
theorem str_inj {a b : List UInt8} (h : (⟨a.toArray⟩ : ByteArray) = ⟨b.toArray⟩) : a = b := by
  have := congrArg (fun x : ByteArray => x.data.toList) h
  simpa using this
end Go.Proofs.YtgdjdbbjfnhdeaaDoor

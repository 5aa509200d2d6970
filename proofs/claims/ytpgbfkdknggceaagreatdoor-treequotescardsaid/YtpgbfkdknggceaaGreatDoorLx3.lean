/-
  Package lex: sign, number, first: what each returns.
  Conditions: as each theorem says (texts of at most 100000 bytes; the library's ErrRange as it is laid).
-/
import Derived.Test.YtpgbfkdknggceaaGreatDoorLx2
import Derived.WalkSmall
namespace Go.Proofs.YtpgbfkdknggceaaGreatDoor
open Go.ChangeShapes Go.WideShapes Go.ChangeAt Go.RowKit LM
set_option linter.unusedVariables false
/-- The library's error of range is laid. -/
def Lv (w : World) : Prop := ∃ g, Tryz.prog.globalNamed "strconv.ErrRange" = some g ∧ g < w.heap.size ∧ ∃ tp p, w.var? Tryz.prog "strconv.ErrRange" = some #[.iface tp p]
theorem Lv.below {w w' : World} (h : Lv w) (hb : Below w.heap.size w w') : Lv w' := by
  obtain ⟨g, h1, h2, tp, p, h3⟩ := h
  exact ⟨g, h1, Nat.lt_of_lt_of_le h2 hb.size, tp, p, var?_below hb h1 h2 h3⟩
/-- A token's answer: (token, how many bytes, error). -/
def ansV (k : Nat) (x : List UInt8) (v : Int) (n : Nat) (e : Int) : Value := .tuple #[tokV k x v 0, .int .i64 (n : Int), .int .i64 e]
def oneV : One → Value
  | .ok k x v n => ansV k x v n 0
  | .bad r => ansV 0 [] 0 0 (if r then 6 else 1)
theorem ext_to (s : ByteArray) (n : Nat) : s.extract 0 n = ⟨(s.data.toList.take n).toArray⟩ := by
  cases s with
  | mk d =>
    have h : (ByteArray.mk d).extract 0 n = ByteArray.mk (d.extract 0 n) := by
      apply ByteArray.ext
      simp
    rw [h]
    congr 1
    apply Array.ext'
    simp
theorem indexByte_neg : ∀ (l : List UInt8) (c : UInt8), (Lib.indexByte l c < 0) = (l.contains c = false)
  | [], c => by simp [Lib.indexByte]
  | b :: l, c => by
    have ih := indexByte_neg l c
    have hge : ∀ l : List UInt8, -1 ≤ Lib.indexByte l c := by
      intro l
      induction l with
      | nil => simp [Lib.indexByte]
      | cons b l ih =>
        unfold Lib.indexByte
        split
        · omega
        · split <;> omega
    have h1 := hge l
    unfold Lib.indexByte
    by_cases hb : b = c
    · subst hb; simp
    · have hb' : (b == c) = false := by simpa using hb
      rw [hb']
      simp only [Bool.false_eq_true, if_false]
      have hc : (b :: l).contains c = l.contains c := by
        simp [Ne.symm hb]
      rw [hc, ← ih]
      apply propext
      split
      · rename_i h2
        have : Lib.indexByte l c = -1 := by simpa using h2
        omega
      · rename_i h2
        have : Lib.indexByte l c ≠ -1 := by simpa using h2
        omega
theorem signs_eq (c : UInt8) : ([40, 41, 123, 125, 91, 93, 59, 44, 58, 46, 61, 60, 43, 45, 42, 33] : List UInt8).contains c = signs1.contains c.toNat := by
  have key : ∀ (l : List UInt8), l.contains c = (l.map UInt8.toNat).contains c.toNat := by
    intro l
    induction l with
    | nil => rfl
    | cons b l ih =>
      simp only [List.contains_cons, List.map_cons, ih]
      congr 1
      rw [Bool.eq_iff_iff]
      simp only [beq_iff_eq]
      exact ⟨fun h => by rw [h], fun h => UInt8.toNat_inj.1 h⟩
  rw [key]
  rfl
def signV (S : List UInt8) : Value := match sgn S with | 0 => ansV 0 [] 0 0 1 | n + 1 => ansV 4 (S.take (n + 1)) 0 (n + 1) 0
theorem sgn_two {c d : UInt8} {t : List UInt8} (h : (c.toNat = 61 ∨ c.toNat = 33) ∧ d.toNat = 61) : sgn (c :: d :: t) = 2 := by simp [sgn, h]
theorem sgn_one {c : UInt8} {t : List UInt8} (h : ∀ d u, t = d :: u → ¬ ((c.toNat = 61 ∨ c.toNat = 33) ∧ d.toNat = 61)) : sgn (c :: t) = if signs1.contains c.toNat then 1 else 0 := by
  cases t with
  | nil => rfl
  | cons d u => simp [sgn, h d u rfl]
set_option maxRecDepth 100000 in
set_option maxHeartbeats 1000000 in
theorem sign_any (s : ByteArray) (h0 : 0 < s.size) (hs : s.size ≤ 100000) (w : World) :
    Calls Tryz.prog 81 #[.string s] w fun e w' => e = .returned (signV s.data.toList) ∧ Below w.heap.size w w' := by
  cases hS : s.data.toList with
  | nil => rw [← len_eq, hS] at h0; simp at h0
  | cons c t =>
    obtain ⟨hl0, e0⟩ := toList_head s hS
    have hc : c.toNat < 256 := c.toNat_lt
    have hx2 := ext_to s 2
    have hx1 := ext_to s 1
    rw [hS] at hx1 hx2
    by_cases h2 : ∃ d u, t = d :: u ∧ (c.toNat = 61 ∨ c.toNat = 33) ∧ d.toNat = 61
    · obtain ⟨d, u, rfl, hcd, hd⟩ := h2
      have hsz : 2 ≤ s.size := by rw [← len_eq, hS]; simp
      have HV : Hid (signV (c :: d :: u) = ansV 4 [c, d] 0 2 0) := by show _ = _; unfold signV; rw [sgn_two ⟨hcd, hd⟩]; rfl
      simp only [List.take_succ_cons, List.take_zero] at hx2
      rcases hcd with hc61 | hc33
      · have H1 : Hid (HP s #[61, 61] true) := hp_of (by rw [prefix2, hS]; simp [u8_beq, hc61, hd])
        rw [HV.out]
        clear hS hx1
        go_enter Tryz.func81, Tryz.ntmps81
        go_wp2_with fail
        refine (H1.out _).mono ?_
        rintro e w1 ⟨rfl, rfl⟩
        go_wp2
        refine bodyPost_ret (v := ansV 4 [c, d] 0 2 0) (by simp [results, Tryz.results81, go_sem, ansV, tokV]) rfl ⟨rfl, (Below.refl _ w).alloc (Nat.le_refl _) _⟩
      · have H1 : Hid (HP s #[61, 61] false) := hp_of (by rw [prefix2, hS]; simp [u8_beq, hc33, hd])
        have H2 : Hid (HP s #[33, 61] true) := hp_of (by rw [prefix2, hS]; simp [u8_beq, hc33, hd])
        rw [HV.out]
        clear hS hx1
        go_enter Tryz.func81, Tryz.ntmps81
        go_wp2_with fail
        refine (H1.out _).mono ?_
        rintro e w1 ⟨rfl, rfl⟩
        go_wp2_with fail
        refine (H2.out _).mono ?_
        rintro e w1 ⟨rfl, rfl⟩
        go_wp2
        refine bodyPost_ret (v := ansV 4 [c, d] 0 2 0) (by simp [results, Tryz.results81, go_sem, ansV, tokV]) rfl ⟨rfl, (Below.refl _ w).alloc (Nat.le_refl _) _⟩
    · have hn : ∀ d u, t = d :: u → ¬ ((c.toNat = 61 ∨ c.toNat = 33) ∧ d.toNat = 61) := fun d u e h => h2 ⟨d, u, e, h⟩
      have H1 : Hid (HP s #[61, 61] false) := hp_of (by
        rw [prefix2, hS]
        cases t with
        | nil => rfl
        | cons d u => have := hn d u rfl; simp [u8_beq]; omega)
      have H2 : Hid (HP s #[33, 61] false) := hp_of (by
        rw [prefix2, hS]
        cases t with
        | nil => rfl
        | cons d u => have := hn d u rfl; simp [u8_beq]; omega)
      have hsg := sgn_one (t := t) hn
      have hix := indexByte_neg [40, 41, 123, 125, 91, 93, 59, 44, 58, 46, 61, 60, 43, 45, 42, 33] c
      rw [signs_eq] at hix
      have HI : Hid (∀ w, Calls Tryz.prog 107 #[.string ⟨#[40, 41, 123, 125, 91, 93, 59, 44, 58, 46, 61, 60, 43, 45, 42, 33]⟩, .int .u8 (c.toNat : Int)] w fun e w' => e = .returned (.int .i64 (Lib.indexByte [40, 41, 123, 125, 91, 93, 59, 44, 58, 46, 61, 60, 43, 45, 42, 33] c)) ∧ w' = w) := fun w => by
        have := Tryz.strings_IndexByte ⟨#[40, 41, 123, 125, 91, 93, 59, 44, 58, 46, 61, 60, 43, 45, 42, 33]⟩ (c.toNat : Int) w
        rw [show ((c.toNat : Int).toNat.toUInt8) = c from by rw [Int.toNat_natCast]; exact UInt8.ofNat_toNat] at this
        exact this
      generalize Lib.indexByte [40, 41, 123, 125, 91, 93, 59, 44, 58, 46, 61, 60, 43, 45, 42, 33] c = ix at hix HI
      cases hcn : signs1.contains c.toNat with
      | true =>
        rw [hcn] at hix hsg
        have e1 : ¬ ix < 0 := by rw [hix]; simp
        have HV : Hid (signV (c :: t) = ansV 4 [c] 0 1 0) := by show _ = _; unfold signV; rw [hsg]; rfl
        have hsz : 1 ≤ s.size := h0
        simp only [List.take_succ_cons, List.take_zero] at hx1
        rw [HV.out]
        clear hS hx2 hix
        go_enter Tryz.func81, Tryz.ntmps81
        go_wp2_with fail
        refine (H1.out _).mono ?_
        rintro e w1 ⟨rfl, rfl⟩
        go_wp2_with fail
        refine (H2.out _).mono ?_
        rintro e w1 ⟨rfl, rfl⟩
        go_wp2_with fail
        refine (HI.out _).mono ?_
        rintro e w1 ⟨rfl, rfl⟩
        go_wp2
        refine bodyPost_ret (v := ansV 4 [c] 0 1 0) (by simp [results, Tryz.results81, go_sem, ansV, tokV]) rfl ⟨rfl, (Below.refl _ w).alloc (Nat.le_refl _) _⟩
      | false =>
        rw [hcn] at hix hsg
        have e1 : ix < 0 := by rw [hix]
        have HV : Hid (signV (c :: t) = ansV 0 [] 0 0 1) := by show _ = _; unfold signV; rw [hsg]; rfl
        rw [HV.out]
        clear hS hx2 hx1 hix
        go_enter Tryz.func81, Tryz.ntmps81
        go_wp2_with fail
        refine (H1.out _).mono ?_
        rintro e w1 ⟨rfl, rfl⟩
        go_wp2_with fail
        refine (H2.out _).mono ?_
        rintro e w1 ⟨rfl, rfl⟩
        go_wp2_with fail
        refine (HI.out _).mono ?_
        rintro e w1 ⟨rfl, rfl⟩
        go_wp2
        refine bodyPost_ret (v := ansV 0 [] 0 0 1) (by simp [results, Tryz.results81, go_sem, ansV, tokV]) rfl ⟨rfl, (Below.refl _ w).alloc (Nat.le_refl _) _⟩
theorem runOf_all {p : UInt8 → Bool} : ∀ (l : List UInt8), ∀ c ∈ l.take (runOf p l), p c = true
  | [], c, h => by simp at h
  | b :: l, c, h => by
    by_cases hb : p b = true
    · rw [show runOf p (b :: l) = runOf p l + 1 from by simp [runOf, hb], List.take_succ_cons] at h
      rcases List.mem_cons.1 h with rfl | h
      · exact hb
      · exact runOf_all l c h
    · rw [show runOf p (b :: l) = 0 from by simp [runOf, hb]] at h
      simp at h
theorem dig_range {c : UInt8} (h : isDig c = true) : 48 ≤ c.toNat ∧ c.toNat ≤ 57 := by simpa [isDig] using h
def numFrom (acc : Nat) (l : List UInt8) : Nat := l.foldl (fun x c => 10 * x + (c.toNat - 48)) acc
theorem numFrom_ge : ∀ (l : List UInt8) (acc : Nat), acc ≤ numFrom acc l
  | [], acc => Nat.le_refl _
  | c :: l, acc => by
    have := numFrom_ge l (10 * acc + (c.toNat - 48))
    unfold numFrom at this ⊢
    simp only [List.foldl_cons]
    omega
theorem parseM (l : List UInt8) : ∀ (acc : Nat), (∀ c ∈ l, isDig c = true) → acc ≤ 18446744073709551615 → Lib.parseUintM 18446744073709551615 acc l = if numFrom acc l ≤ 18446744073709551615 then .ok (numFrom acc l) else .range := by
  induction l with
  | nil => intro acc _ h; simp [Lib.parseUintM, numFrom, h]
  | cons c l ih =>
    intro acc hd h
    obtain ⟨h1, h2⟩ := dig_range (hd c (by simp))
    have hge := numFrom_ge l (10 * acc + (c.toNat - 48))
    have e : numFrom acc (c :: l) = numFrom (10 * acc + (c.toNat - 48)) l := rfl
    unfold Lib.parseUintM
    rw [if_pos ⟨h1, h2⟩]
    by_cases h3 : 1844674407370955162 ≤ acc
    · rw [if_pos h3, if_neg (by rw [e]; omega)]
    · rw [if_neg h3]
      by_cases h4 : 18446744073709551615 < acc * 10 + (c.toNat - 48)
      · rw [if_pos h4, if_neg (by rw [e]; omega)]
      · rw [if_neg h4, show acc * 10 + (c.toNat - 48) = 10 * acc + (c.toNat - 48) from by omega, ih _ (fun x hx => hd x (by simp [hx])) (by omega), e]
theorem parse_digits {c : UInt8} {l : List UInt8} (hd : ∀ x ∈ c :: l, isDig x = true) : Lib.parseIntB 64 (c :: l) = if numOf (c :: l) ≤ 9223372036854775807 then .ok (numOf (c :: l) : Int) else .range := by
  obtain ⟨h1, h2⟩ := dig_range (hd c (by simp))
  have hp := parseM (c :: l) 0 hd (by omega)
  have e : numFrom 0 (c :: l) = numOf (c :: l) := rfl
  rw [e] at hp
  unfold Lib.parseIntB
  simp only
  rw [if_neg (show ¬ (c.toNat = 43 ∨ c.toNat = 45) from by omega)]
  unfold Lib.parseUintB
  rw [if_neg (by simp), show (2 ^ 64 - 1 : Nat) = 18446744073709551615 from rfl, hp]
  by_cases h3 : numOf (c :: l) ≤ 18446744073709551615
  · rw [if_pos h3]
    simp only
    by_cases h4 : numOf (c :: l) ≤ 9223372036854775807
    · rw [if_neg (by rintro ⟨_, h⟩; have h' : (9223372036854775808 : Nat) ≤ numOf (c :: l) := h; omega), if_neg (by rintro ⟨h, _⟩; omega), if_pos h4, if_neg (by omega)]
    · rw [if_pos ⟨by omega, show (9223372036854775808 : Nat) ≤ numOf (c :: l) from by omega⟩, if_neg h4]
  · rw [if_neg h3, if_neg (by omega)]
def numV (S : List UInt8) : Value := if 1 < runOf isDig S ∧ S.head?.map UInt8.toNat = some 48 then ansV 0 [] 0 0 6 else if numOf (S.take (runOf isDig S)) ≤ 9223372036854775807 then ansV 2 (S.take (runOf isDig S)) (numOf (S.take (runOf isDig S)) : Int) (runOf isDig S) 0 else ansV 0 [] 0 0 6
/-- ParseInt of digits. -/
theorem parse_ok {l : List UInt8} {v : Nat} (hd : ∀ x ∈ l, isDig x = true) (hl : l ≠ []) (hn : l.length ≤ 100000) (hv : numOf l = v) (hle : v ≤ 9223372036854775807) (w : World) :
    Calls Tryz.prog 104 #[.string ⟨l.toArray⟩, .int .i64 10, .int .i64 64] w fun e w' => e = .returned (.tuple #[.int .i64 (v : Int), .nilIface]) ∧ Below w.heap.size w w' := by
  cases l with
  | nil => exact absurd rfl hl
  | cons c l =>
    refine (Tryz.strconv_ParseInt_10_at64_ok ⟨(c :: l).toArray⟩ (by show (c :: l).toArray.size ≤ _; simp only [List.size_toArray]; omega) (v : Int) (by rw [show (⟨(c :: l).toArray⟩ : ByteArray).data.toList = c :: l from rfl, parse_digits hd, if_pos (by omega), hv]) w).mono ?_
    rintro e w' ⟨he, hw⟩
    refine ⟨he, ?_⟩
    rcases hw with rfl | ⟨t, rfl⟩
    · exact Below.refl _ _
    · exact Lib.bytesWorld_below _ _ _
theorem parse_range {l : List UInt8} (hd : ∀ x ∈ l, isDig x = true) (hl : l ≠ []) (hn : l.length ≤ 100000) (hle : 9223372036854775807 < numOf l) (w : World) (hL : Lv w) :
    Calls Tryz.prog 104 #[.string ⟨l.toArray⟩, .int .i64 10, .int .i64 64] w fun e w' => ∃ v t p, e = .returned (.tuple #[v, .iface t p]) ∧ Below w.heap.size w w' := by
  cases l with
  | nil => exact absurd rfl hl
  | cons c l =>
    obtain ⟨g, _, _, tp, p, hv⟩ := hL
    refine (Tryz.strconv_ParseInt_10_at64_range_var ⟨(c :: l).toArray⟩ (by show (c :: l).toArray.size ≤ _; simp only [List.size_toArray]; omega) (by rw [show (⟨(c :: l).toArray⟩ : ByteArray).data.toList = c :: l from rfl, parse_digits hd, if_neg (by omega)]) tp p w hv).mono ?_
    rintro e w' ⟨N, he, _, _, hb⟩
    exact ⟨_, _, _, he, hb⟩
theorem ne_nil_iface (w : World) (t : TypeId) (p : Value) : (binOp .neq 161 (.iface t p) .nilIface).run Tryz.prog w = .ok (.bool true) w := by kernel_rfl
set_option maxRecDepth 100000 in
set_option maxHeartbeats 1000000 in
theorem lexnum_any (s : ByteArray) {c : UInt8} {t : List UInt8} (hS : s.data.toList = c :: t) (hd : isDig c = true) (hs : s.size ≤ 100000) (w : World) (hL : Lv w) :
    Calls Tryz.prog 78 #[.string s] w fun e w' => e = .returned (numV (c :: t)) ∧ Below w.heap.size w w' := by
  obtain ⟨hl0, e0⟩ := toList_head s hS
  have hc : c.toNat < 256 := c.toNat_lt
  have hrle := runOf_le isDig (c :: t)
  have hr1 : 0 < runOf isDig (c :: t) := by simp [runOf, hd]
  have hall := runOf_all (p := isDig) (c :: t)
  have hsz : (c :: t).length = s.size := by rw [← hS, len_eq]
  have HRUN : Hid (∀ w, Calls Tryz.prog 75 #[.string s, .func (.func 77) #[] #[]] w fun e w' => e = .returned (.int .i64 (runOf isDig (c :: t) : Nat)) ∧ w' = w) := fun w => by
    have := run_any so_digit s hs w
    rw [hS] at this
    exact this
  have HV : Hid (numV (c :: t) = if 1 < runOf isDig (c :: t) ∧ c.toNat = 48 then ansV 0 [] 0 0 6 else if numOf ((c :: t).take (runOf isDig (c :: t))) ≤ 9223372036854775807 then ansV 2 ((c :: t).take (runOf isDig (c :: t))) (numOf ((c :: t).take (runOf isDig (c :: t))) : Int) (runOf isDig (c :: t)) 0 else ansV 0 [] 0 0 6) := by
    show _ = _
    unfold numV
    simp
  generalize hn : runOf isDig (c :: t) = n at *
  have hx := ext_to s n
  rw [hS] at hx
  have hxl : ((c :: t).take n).length = n := by rw [List.length_take]; omega
  have hne : (c :: t).take n ≠ [] := by intro h; rw [h] at hxl; simp at hxl; omega
  rw [hsz] at hrle
  generalize hX : (c :: t).take n = X at *
  have HALL : Hid (∀ x ∈ X, isDig x = true) := hall
  have HNE : Hid (X ≠ []) := hne
  have HL : Hid (Lv w) := hL
  rw [HV.out]
  clear hS hall hne hL HV hn hX hsz
  by_cases hA : 1 < n ∧ c.toNat = 48
  · rw [if_pos hA]
    have e1 : decide ((1 : Int) < (n : Int)) = true := by simp; omega
    have e2 : ((c.toNat : Int) == 48) = true := by rw [hA.2]; rfl
    go_enter Tryz.func78, Tryz.ntmps78
    go_wp2_with fail
    refine (HRUN.out _).mono ?_
    rintro e w1 ⟨rfl, rfl⟩
    go_wp2
    refine bodyPost_ret (v := ansV 0 [] 0 0 6) (by simp [results, Tryz.results78, go_sem, ansV, tokV]) rfl ⟨rfl, (Below.refl _ w).alloc (Nat.le_refl _) _⟩
  · rw [if_neg hA]
    have b1 : Below w.heap.size w (w.alloc (.cells #[.int .i64 0, .string { data := #[] }, .int .i64 0, .int .i64 0] 67)) := (Below.refl _ w).alloc (Nat.le_refl _) _
    have HL1 : Hid (Lv (w.alloc (.cells #[.int .i64 0, .string { data := #[] }, .int .i64 0, .int .i64 0] 67))) := HL.out.below b1
    have hk0 : (w.alloc (.cells #[.int .i64 0, .string { data := #[] }, .int .i64 0, .int .i64 0] 67)).heap[w.heap.size]? = some (.cells #[.int .i64 0, .string { data := #[] }, .int .i64 0, .int .i64 0] 67 (0, 0)) := heap_alloc_new w _
    have HB1 : Hid (Below w.heap.size w (w.alloc (.cells #[.int .i64 0, .string { data := #[] }, .int .i64 0, .int .i64 0] 67))) := b1
    have HK1 : Hid ((w.alloc (.cells #[.int .i64 0, .string { data := #[] }, .int .i64 0, .int .i64 0] 67)).heap[w.heap.size]? = some (.cells #[.int .i64 0, .string { data := #[] }, .int .i64 0, .int .i64 0] 67 (0, 0))) := hk0
    clear b1 hk0
    by_cases hle : numOf X ≤ 9223372036854775807
    · rw [if_pos hle]
      have HP : Hid (∀ w, Calls Tryz.prog 104 #[.string ⟨X.toArray⟩, .int .i64 10, .int .i64 64] w fun e w' => e = .returned (.tuple #[.int .i64 (numOf X : Int), .nilIface]) ∧ Below w.heap.size w w') := fun w => parse_ok HALL.out HNE.out (by omega) rfl hle w
      generalize numOf X = v at HP hle ⊢
      by_cases h1 : 1 < n
      · have e1 : decide ((1 : Int) < (n : Int)) = true := by simp; omega
        have e2 : ((c.toNat : Int) == 48) = false := by rw [beq_eq_false_iff_ne]; omega
        go_enter Tryz.func78, Tryz.ntmps78
        go_wp2_with fail
        refine (HRUN.out _).mono ?_
        rintro e w1 ⟨rfl, hw1⟩
        rw [← hw1] at HL1 HB1 HK1
        clear hw1
        go_wp2_with fail
        refine (HP.out _).mono ?_
        rintro e w2 ⟨rfl, b2⟩
        have HB2 : Hid (Below w.heap.size w w2) := HB1.out.trans (b2.mono HB1.out.size)
        have HK2 : Hid (w2.heap[w.heap.size]? = some (.cells #[.int .i64 0, .string { data := #[] }, .int .i64 0, .int .i64 0] 67 (0, 0))) := (b2.block _ (lt_of_block HK1.out)).trans HK1.out
        obtain ⟨c0, c1, c2, c3, cf⟩ := four HK2.out
        have hbl : w.heap.size < w2.heap.size := lt_of_block HK2.out
        clear b2
        go_wp2
        obtain ⟨d0, d1, d2, d3, _⟩ := four (four_set HK2.out (.int .i64 2) (.string { data := X.toArray }) (.int .i64 (v : Int)) (.int .i64 0))
        refine bodyPost_ret (v := ansV 2 X (v : Int) n 0) (by simp [results, Tryz.results78, go_sem, ansV, tokV, d0, d1, d2, d3]) rfl ⟨rfl, ?_⟩
        exact (((HB2.out.setCell (p := ⟨w.heap.size, 0, none⟩) (Nat.le_refl _) _).setCell (p := ⟨w.heap.size, 1, none⟩) (Nat.le_refl _) _).setCell (p := ⟨w.heap.size, 2, none⟩) (Nat.le_refl _) _).setCell (p := ⟨w.heap.size, 3, none⟩) (Nat.le_refl _) _
      · have e1 : decide ((1 : Int) < (n : Int)) = false := by simp; omega
        go_enter Tryz.func78, Tryz.ntmps78
        go_wp2_with fail
        refine (HRUN.out _).mono ?_
        rintro e w1 ⟨rfl, hw1⟩
        rw [← hw1] at HL1 HB1 HK1
        clear hw1
        go_wp2_with fail
        refine (HP.out _).mono ?_
        rintro e w2 ⟨rfl, b2⟩
        have HB2 : Hid (Below w.heap.size w w2) := HB1.out.trans (b2.mono HB1.out.size)
        have HK2 : Hid (w2.heap[w.heap.size]? = some (.cells #[.int .i64 0, .string { data := #[] }, .int .i64 0, .int .i64 0] 67 (0, 0))) := (b2.block _ (lt_of_block HK1.out)).trans HK1.out
        obtain ⟨c0, c1, c2, c3, cf⟩ := four HK2.out
        have hbl : w.heap.size < w2.heap.size := lt_of_block HK2.out
        clear b2
        go_wp2
        obtain ⟨d0, d1, d2, d3, _⟩ := four (four_set HK2.out (.int .i64 2) (.string { data := X.toArray }) (.int .i64 (v : Int)) (.int .i64 0))
        refine bodyPost_ret (v := ansV 2 X (v : Int) n 0) (by simp [results, Tryz.results78, go_sem, ansV, tokV, d0, d1, d2, d3]) rfl ⟨rfl, ?_⟩
        exact (((HB2.out.setCell (p := ⟨w.heap.size, 0, none⟩) (Nat.le_refl _) _).setCell (p := ⟨w.heap.size, 1, none⟩) (Nat.le_refl _) _).setCell (p := ⟨w.heap.size, 2, none⟩) (Nat.le_refl _) _).setCell (p := ⟨w.heap.size, 3, none⟩) (Nat.le_refl _) _
    · rw [if_neg hle]
      have HP : Hid (∀ w, Lv w → Calls Tryz.prog 104 #[.string ⟨X.toArray⟩, .int .i64 10, .int .i64 64] w fun e w' => ∃ v t p, e = .returned (.tuple #[v, .iface t p]) ∧ Below w.heap.size w w') := fun w hw => parse_range HALL.out HNE.out (by omega) (by omega) w hw
      by_cases h1 : 1 < n
      · have e1 : decide ((1 : Int) < (n : Int)) = true := by simp; omega
        have e2 : ((c.toNat : Int) == 48) = false := by rw [beq_eq_false_iff_ne]; omega
        go_enter Tryz.func78, Tryz.ntmps78
        go_wp2_with fail
        refine (HRUN.out _).mono ?_
        rintro e w1 ⟨rfl, hw1⟩
        rw [← hw1] at HL1 HB1 HK1
        clear hw1
        go_wp2_with fail
        refine (HP.out _ HL1.out).mono ?_
        rintro e w2 ⟨v, tt, pp, rfl, b2⟩
        have HB2 : Hid (Below w.heap.size w w2) := HB1.out.trans (b2.mono HB1.out.size)
        have HK2 : Hid (w2.heap[w.heap.size]? = some (.cells #[.int .i64 0, .string { data := #[] }, .int .i64 0, .int .i64 0] 67 (0, 0))) := (b2.block _ (lt_of_block HK1.out)).trans HK1.out
        obtain ⟨c0, c1, c2, c3, cf⟩ := four HK2.out
        have hbl : w.heap.size < w2.heap.size := lt_of_block HK2.out
        have hnn := ne_nil_iface w2 tt pp
        clear b2
        go_wp2
        obtain ⟨d0, d1, d2, d3, _⟩ := four (four_set HK2.out (.int .i64 0) (.string { data := #[] }) (.int .i64 0) (.int .i64 0))
        refine bodyPost_ret (v := ansV 0 [] 0 0 6) (by simp [results, Tryz.results78, go_sem, ansV, tokV, d0, d1, d2, d3]) rfl ⟨rfl, ?_⟩
        exact (((HB2.out.setCell (p := ⟨w.heap.size, 0, none⟩) (Nat.le_refl _) _).setCell (p := ⟨w.heap.size, 1, none⟩) (Nat.le_refl _) _).setCell (p := ⟨w.heap.size, 2, none⟩) (Nat.le_refl _) _).setCell (p := ⟨w.heap.size, 3, none⟩) (Nat.le_refl _) _
      · have e1 : decide ((1 : Int) < (n : Int)) = false := by simp; omega
        go_enter Tryz.func78, Tryz.ntmps78
        go_wp2_with fail
        refine (HRUN.out _).mono ?_
        rintro e w1 ⟨rfl, hw1⟩
        rw [← hw1] at HL1 HB1 HK1
        clear hw1
        go_wp2_with fail
        refine (HP.out _ HL1.out).mono ?_
        rintro e w2 ⟨v, tt, pp, rfl, b2⟩
        have HB2 : Hid (Below w.heap.size w w2) := HB1.out.trans (b2.mono HB1.out.size)
        have HK2 : Hid (w2.heap[w.heap.size]? = some (.cells #[.int .i64 0, .string { data := #[] }, .int .i64 0, .int .i64 0] 67 (0, 0))) := (b2.block _ (lt_of_block HK1.out)).trans HK1.out
        obtain ⟨c0, c1, c2, c3, cf⟩ := four HK2.out
        have hbl : w.heap.size < w2.heap.size := lt_of_block HK2.out
        have hnn := ne_nil_iface w2 tt pp
        clear b2
        go_wp2
        obtain ⟨d0, d1, d2, d3, _⟩ := four (four_set HK2.out (.int .i64 0) (.string { data := #[] }) (.int .i64 0) (.int .i64 0))
        refine bodyPost_ret (v := ansV 0 [] 0 0 6) (by simp [results, Tryz.results78, go_sem, ansV, tokV, d0, d1, d2, d3]) rfl ⟨rfl, ?_⟩
        exact (((HB2.out.setCell (p := ⟨w.heap.size, 0, none⟩) (Nat.le_refl _) _).setCell (p := ⟨w.heap.size, 1, none⟩) (Nat.le_refl _) _).setCell (p := ⟨w.heap.size, 2, none⟩) (Nat.le_refl _) _).setCell (p := ⟨w.heap.size, 3, none⟩) (Nat.le_refl _) _
end Go.Proofs.YtpgbfkdknggceaaGreatDoor

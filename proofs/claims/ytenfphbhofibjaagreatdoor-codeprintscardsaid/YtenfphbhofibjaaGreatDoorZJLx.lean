/-
 Lx3, Lx4, Lx5, joined.
 Conditions: as each theorem says.
-/
import Derived.Test.YtenfphbhofibjaaGreatDoorZLx2
import Derived.WalkSmall
set_option maxRecDepth 100000
set_option maxHeartbeats 2000000
set_option linter.unusedVariables false
namespace Go.Proofs.YtenfphbhofibjaaGreatDoor
open Go.ChangeShapes Go.WideShapes Go.ChangeAt Go.RowKit LM
def Lv (w : World) : Prop := ∃ g, Tryz.prog.globalNamed "strconv.ErrRange" = some g ∧ g < w.heap.size ∧ ∃ tp p, w.var? Tryz.prog "strconv.ErrRange" = some #[.iface tp p]
theorem Lv.below {w w' : World} (h : Lv w) (hb : Below w.heap.size w w') : Lv w' := by
 obtain ⟨g, h1, h2, tp, p, h3⟩ := h
 exact ⟨g, h1, Nat.lt_of_lt_of_le h2 hb.size, tp, p, var?_below hb h1 h2 h3⟩
def ansV (k : Nat) (x : List UInt8) (v : Int) (n : Nat) (e : Int) : Value := .tuple #[tokV k x v 0, .int .i64 (n : Int), .int .i64 e]
def oneV : One → Value
 | .ok k x v n => ansV k x v n 0
 | .bad r => ansV 0 [] 0 0 (if r then 6 else 1)
theorem ext_to (s : ByteArray) (n : Nat) : s.extract 0 n = ⟨(s.data.toList.take n).toArray⟩ := by
 cases s with
 | mk d =>
  have h : (ByteArray.mk d).extract 0 n = ByteArray.mk (d.extract 0 n) := by
   apply ByteArray.ext
   simp
  rw [h]
  congr 1
  apply Array.ext'
  simp
theorem indexByte_neg : ∀ (l : List UInt8) (c : UInt8), (Lib.indexByte l c < 0) = (l.contains c = false)
 | [], c => by simp [Lib.indexByte]
 | b :: l, c => by
  have ih := indexByte_neg l c
  have hge : ∀ l : List UInt8, -1 ≤ Lib.indexByte l c := by
   intro l
   induction l with
   | nil => simp [Lib.indexByte]
   | cons b l ih =>
    unfold Lib.indexByte
    split
    ·omega
    ·split <;> omega
  have h1 := hge l
  unfold Lib.indexByte
  by_cases hb : b = c
  ·subst hb; simp
  ·have hb' : (b == c) = false := by simpa using hb
   rw [hb']
   simp only [Bool.false_eq_true, if_false]
   have hc : (b :: l).contains c = l.contains c := by
    simp [Ne.symm hb]
   rw [hc, ← ih]
   apply propext
   split
   ·rename_i h2
    have : Lib.indexByte l c = -1 := by simpa using h2
    omega
   ·rename_i h2
    have : Lib.indexByte l c ≠ -1 := by simpa using h2
    omega
theorem signs_eq (c : UInt8) : ([40, 41, 123, 125, 91, 93, 59, 44, 58, 46, 61, 60, 43, 45, 42, 33] : List UInt8).contains c = signs1.contains c.toNat := by
 have key : ∀ (l : List UInt8), l.contains c = (l.map UInt8.toNat).contains c.toNat := by
  intro l
  induction l with
  | nil => rfl
  | cons b l ih =>
   simp only [List.contains_cons, List.map_cons, ih]
   congr 1
   rw [Bool.eq_iff_iff]
   simp only [beq_iff_eq]
   exact ⟨fun h => by rw [h], fun h => UInt8.toNat_inj.1 h⟩
 rw [key]
 rfl
def signV (S : List UInt8) : Value := match sgn S with | 0 => ansV 0 [] 0 0 1 | n + 1 => ansV 4 (S.take (n + 1)) 0 (n + 1) 0
theorem sgn_two {c d : UInt8} {t : List UInt8} (h : (c.toNat = 61 ∨ c.toNat = 33) ∧ d.toNat = 61) : sgn (c :: d :: t) = 2 := by simp [sgn, h]
theorem sgn_one {c : UInt8} {t : List UInt8} (h : ∀ d u, t = d :: u → ¬ ((c.toNat = 61 ∨ c.toNat = 33) ∧ d.toNat = 61)) : sgn (c :: t) = if signs1.contains c.toNat then 1 else 0 := by
 cases t with
 | nil => rfl
 | cons d u => simp [sgn, h d u rfl]
theorem sign_any (s : ByteArray) (h0 : 0 < s.size) (hs : s.size ≤ 100000) (w : World) :
 Calls Tryz.prog 111 #[.string s] w fun e w' => e = .returned (signV s.data.toList) ∧ Below w.heap.size w w' := by
 cases hS : s.data.toList with
 | nil => rw [← len_eq, hS] at h0; simp at h0
 | cons c t =>
  obtain ⟨hl0, e0⟩ := toList_head s hS
  have hc : c.toNat < 256 := c.toNat_lt
  have hx2 := ext_to s 2
  have hx1 := ext_to s 1
  rw [hS] at hx1 hx2
  by_cases h2 : ∃ d u, t = d :: u ∧ (c.toNat = 61 ∨ c.toNat = 33) ∧ d.toNat = 61
  ·obtain ⟨d, u, rfl, hcd, hd⟩ := h2
   have hsz : 2 ≤ s.size := by rw [← len_eq, hS]; simp
   have HV : Hid (signV (c :: d :: u) = ansV 4 [c, d] 0 2 0) := by show _ = _; unfold signV; rw [sgn_two ⟨hcd, hd⟩]; rfl
   simp only [List.take_succ_cons, List.take_zero] at hx2
   rcases hcd with hc61 | hc33
   ·have H1 : Hid (HP s #[61, 61] true) := hp_of (by rw [prefix2, hS]; simp [u8_beq, hc61, hd])
    rw [HV.out]
    clear hS hx1
    go_enter Tryz.func111, Tryz.ntmps111
    go_wp2_with fail
    refine (H1.out _).mono ?_
    rintro e w1 ⟨rfl, rfl⟩
    go_wp2
    refine bodyPost_ret (v := ansV 4 [c, d] 0 2 0) (by simp [results, Tryz.results111, go_sem, ansV, tokV]) rfl ⟨rfl, (Below.refl _ w).alloc (Nat.le_refl _) _⟩
   ·have H1 : Hid (HP s #[61, 61] false) := hp_of (by rw [prefix2, hS]; simp [u8_beq, hc33, hd])
    have H2 : Hid (HP s #[33, 61] true) := hp_of (by rw [prefix2, hS]; simp [u8_beq, hc33, hd])
    rw [HV.out]
    clear hS hx1
    go_enter Tryz.func111, Tryz.ntmps111
    go_wp2_with fail
    refine (H1.out _).mono ?_
    rintro e w1 ⟨rfl, rfl⟩
    go_wp2_with fail
    refine (H2.out _).mono ?_
    rintro e w1 ⟨rfl, rfl⟩
    go_wp2
    refine bodyPost_ret (v := ansV 4 [c, d] 0 2 0) (by simp [results, Tryz.results111, go_sem, ansV, tokV]) rfl ⟨rfl, (Below.refl _ w).alloc (Nat.le_refl _) _⟩
  ·have hn : ∀ d u, t = d :: u → ¬ ((c.toNat = 61 ∨ c.toNat = 33) ∧ d.toNat = 61) := fun d u e h => h2 ⟨d, u, e, h⟩
   have H1 : Hid (HP s #[61, 61] false) := hp_of (by
    rw [prefix2, hS]
    cases t with
    | nil => rfl
    | cons d u => have := hn d u rfl; simp [u8_beq]; omega)
   have H2 : Hid (HP s #[33, 61] false) := hp_of (by
    rw [prefix2, hS]
    cases t with
    | nil => rfl
    | cons d u => have := hn d u rfl; simp [u8_beq]; omega)
   have hsg := sgn_one (t := t) hn
   have hix := indexByte_neg [40, 41, 123, 125, 91, 93, 59, 44, 58, 46, 61, 60, 43, 45, 42, 33] c
   rw [signs_eq] at hix
   have HI : Hid (∀ w, Calls Tryz.prog 136 #[.string ⟨#[40, 41, 123, 125, 91, 93, 59, 44, 58, 46, 61, 60, 43, 45, 42, 33]⟩, .int .u8 (c.toNat : Int)] w fun e w' => e = .returned (.int .i64 (Lib.indexByte [40, 41, 123, 125, 91, 93, 59, 44, 58, 46, 61, 60, 43, 45, 42, 33] c)) ∧ w' = w) := fun w => by
    have := Tryz.strings_IndexByte ⟨#[40, 41, 123, 125, 91, 93, 59, 44, 58, 46, 61, 60, 43, 45, 42, 33]⟩ (c.toNat : Int) w
    rw [show ((c.toNat : Int).toNat.toUInt8) = c from by rw [Int.toNat_natCast]; exact UInt8.ofNat_toNat] at this
    exact this
   generalize Lib.indexByte [40, 41, 123, 125, 91, 93, 59, 44, 58, 46, 61, 60, 43, 45, 42, 33] c = ix at hix HI
   cases hcn : signs1.contains c.toNat with
   | true =>
    rw [hcn] at hix hsg
    have e1 : ¬ ix < 0 := by rw [hix]; simp
    have HV : Hid (signV (c :: t) = ansV 4 [c] 0 1 0) := by show _ = _; unfold signV; rw [hsg]; rfl
    have hsz : 1 ≤ s.size := h0
    simp only [List.take_succ_cons, List.take_zero] at hx1
    rw [HV.out]
    clear hS hx2 hix
    go_enter Tryz.func111, Tryz.ntmps111
    go_wp2_with fail
    refine (H1.out _).mono ?_
    rintro e w1 ⟨rfl, rfl⟩
    go_wp2_with fail
    refine (H2.out _).mono ?_
    rintro e w1 ⟨rfl, rfl⟩
    go_wp2_with fail
    refine (HI.out _).mono ?_
    rintro e w1 ⟨rfl, rfl⟩
    go_wp2
    refine bodyPost_ret (v := ansV 4 [c] 0 1 0) (by simp [results, Tryz.results111, go_sem, ansV, tokV]) rfl ⟨rfl, (Below.refl _ w).alloc (Nat.le_refl _) _⟩
   | false =>
    rw [hcn] at hix hsg
    have e1 : ix < 0 := by rw [hix]
    have HV : Hid (signV (c :: t) = ansV 0 [] 0 0 1) := by show _ = _; unfold signV; rw [hsg]; rfl
    rw [HV.out]
    clear hS hx2 hx1 hix
    go_enter Tryz.func111, Tryz.ntmps111
    go_wp2_with fail
    refine (H1.out _).mono ?_
    rintro e w1 ⟨rfl, rfl⟩
    go_wp2_with fail
    refine (H2.out _).mono ?_
    rintro e w1 ⟨rfl, rfl⟩
    go_wp2_with fail
    refine (HI.out _).mono ?_
    rintro e w1 ⟨rfl, rfl⟩
    go_wp2
    refine bodyPost_ret (v := ansV 0 [] 0 0 1) (by simp [results, Tryz.results111, go_sem, ansV, tokV]) rfl ⟨rfl, (Below.refl _ w).alloc (Nat.le_refl _) _⟩
theorem runOf_all {p : UInt8 → Bool} : ∀ (l : List UInt8), ∀ c ∈ l.take (runOf p l), p c = true
 | [], c, h => by simp at h
 | b :: l, c, h => by
  by_cases hb : p b = true
  ·rw [show runOf p (b :: l) = runOf p l + 1 from by simp [runOf, hb], List.take_succ_cons] at h
   rcases List.mem_cons.1 h with rfl | h
   ·exact hb
   ·exact runOf_all l c h
  ·rw [show runOf p (b :: l) = 0 from by simp [runOf, hb]] at h
   simp at h
theorem dig_range {c : UInt8} (h : isDig c = true) : 48 ≤ c.toNat ∧ c.toNat ≤ 57 := by simpa [isDig] using h
def numFrom (acc : Nat) (l : List UInt8) : Nat := l.foldl (fun x c => 10 * x + (c.toNat - 48)) acc
theorem numFrom_ge : ∀ (l : List UInt8) (acc : Nat), acc ≤ numFrom acc l
 | [], acc => Nat.le_refl _
 | c :: l, acc => by
  have := numFrom_ge l (10 * acc + (c.toNat - 48))
  unfold numFrom at this ⊢
  simp only [List.foldl_cons]
  omega
theorem parseM (l : List UInt8) : ∀ (acc : Nat), (∀ c ∈ l, isDig c = true) → acc ≤ 18446744073709551615 → Lib.parseUintM 18446744073709551615 acc l = if numFrom acc l ≤ 18446744073709551615 then .ok (numFrom acc l) else .range := by
 induction l with
 | nil => intro acc _ h; simp [Lib.parseUintM, numFrom, h]
 | cons c l ih =>
  intro acc hd h
  obtain ⟨h1, h2⟩ := dig_range (hd c (by simp))
  have hge := numFrom_ge l (10 * acc + (c.toNat - 48))
  have e : numFrom acc (c :: l) = numFrom (10 * acc + (c.toNat - 48)) l := rfl
  unfold Lib.parseUintM
  rw [if_pos ⟨h1, h2⟩]
  by_cases h3 : 1844674407370955162 ≤ acc
  ·rw [if_pos h3, if_neg (by rw [e]; omega)]
  ·rw [if_neg h3]
   by_cases h4 : 18446744073709551615 < acc * 10 + (c.toNat - 48)
   ·rw [if_pos h4, if_neg (by rw [e]; omega)]
   ·rw [if_neg h4, show acc * 10 + (c.toNat - 48) = 10 * acc + (c.toNat - 48) from by omega, ih _ (fun x hx => hd x (by simp [hx])) (by omega), e]
theorem parse_digits {c : UInt8} {l : List UInt8} (hd : ∀ x ∈ c :: l, isDig x = true) : Lib.parseIntB 64 (c :: l) = if numOf (c :: l) ≤ 9223372036854775807 then .ok (numOf (c :: l) : Int) else .range := by
 obtain ⟨h1, h2⟩ := dig_range (hd c (by simp))
 have hp := parseM (c :: l) 0 hd (by omega)
 have e : numFrom 0 (c :: l) = numOf (c :: l) := rfl
 rw [e] at hp
 unfold Lib.parseIntB
 simp only
 rw [if_neg (show ¬ (c.toNat = 43 ∨ c.toNat = 45) from by omega)]
 unfold Lib.parseUintB
 rw [if_neg (by simp), show (2 ^ 64 - 1 : Nat) = 18446744073709551615 from rfl, hp]
 by_cases h3 : numOf (c :: l) ≤ 18446744073709551615
 ·rw [if_pos h3]
  simp only
  by_cases h4 : numOf (c :: l) ≤ 9223372036854775807
  ·rw [if_neg (by rintro ⟨_, h⟩; have h' : (9223372036854775808 : Nat) ≤ numOf (c :: l) := h; omega), if_neg (by rintro ⟨h, _⟩; omega), if_pos h4, if_neg (by omega)]
  ·rw [if_pos ⟨by omega, show (9223372036854775808 : Nat) ≤ numOf (c :: l) from by omega⟩, if_neg h4]
 ·rw [if_neg h3, if_neg (by omega)]
def numV (S : List UInt8) : Value := if 1 < runOf isDig S ∧ S.head?.map UInt8.toNat = some 48 then ansV 0 [] 0 0 6 else if numOf (S.take (runOf isDig S)) ≤ 9223372036854775807 then ansV 2 (S.take (runOf isDig S)) (numOf (S.take (runOf isDig S)) : Int) (runOf isDig S) 0 else ansV 0 [] 0 0 6
theorem parse_ok {l : List UInt8} {v : Nat} (hd : ∀ x ∈ l, isDig x = true) (hl : l ≠ []) (hn : l.length ≤ 100000) (hv : numOf l = v) (hle : v ≤ 9223372036854775807) (w : World) :
 Calls Tryz.prog 133 #[.string ⟨l.toArray⟩, .int .i64 10, .int .i64 64] w fun e w' => e = .returned (.tuple #[.int .i64 (v : Int), .nilIface]) ∧ Below w.heap.size w w' := by
 cases l with
 | nil => exact absurd rfl hl
 | cons c l =>
  refine (Tryz.strconv_ParseInt_10_at64_ok ⟨(c :: l).toArray⟩ (by show (c :: l).toArray.size ≤ _; simp only [List.size_toArray]; omega) (v : Int) (by rw [show (⟨(c :: l).toArray⟩ : ByteArray).data.toList = c :: l from rfl, parse_digits hd, if_pos (by omega), hv]) w).mono ?_
  rintro e w' ⟨he, hw⟩
  refine ⟨he, ?_⟩
  rcases hw with rfl | ⟨t, rfl⟩
  ·exact Below.refl _ _
  ·exact Lib.bytesWorld_below _ _ _
theorem parse_range {l : List UInt8} (hd : ∀ x ∈ l, isDig x = true) (hl : l ≠ []) (hn : l.length ≤ 100000) (hle : 9223372036854775807 < numOf l) (w : World) (hL : Lv w) :
 Calls Tryz.prog 133 #[.string ⟨l.toArray⟩, .int .i64 10, .int .i64 64] w fun e w' => ∃ v t p, e = .returned (.tuple #[v, .iface t p]) ∧ Below w.heap.size w w' := by
 cases l with
 | nil => exact absurd rfl hl
 | cons c l =>
  obtain ⟨g, _, _, tp, p, hv⟩ := hL
  refine (Tryz.strconv_ParseInt_10_at64_range_var ⟨(c :: l).toArray⟩ (by show (c :: l).toArray.size ≤ _; simp only [List.size_toArray]; omega) (by rw [show (⟨(c :: l).toArray⟩ : ByteArray).data.toList = c :: l from rfl, parse_digits hd, if_neg (by omega)]) tp p w hv).mono ?_
  rintro e w' ⟨N, he, _, _, hb⟩
  exact ⟨_, _, _, he, hb⟩
theorem ne_nil_iface (w : World) (t : TypeId) (p : Value) : (binOp .neq 195 (.iface t p) .nilIface).run Tryz.prog w = .ok (.bool true) w := by kernel_rfl
theorem lexnum_any (s : ByteArray) {c : UInt8} {t : List UInt8} (hS : s.data.toList = c :: t) (hd : isDig c = true) (hs : s.size ≤ 100000) (w : World) (hL : Lv w) :
 Calls Tryz.prog 108 #[.string s] w fun e w' => e = .returned (numV (c :: t)) ∧ Below w.heap.size w w' := by
 obtain ⟨hl0, e0⟩ := toList_head s hS
 have hc : c.toNat < 256 := c.toNat_lt
 have hrle := runOf_le isDig (c :: t)
 have hr1 : 0 < runOf isDig (c :: t) := by simp [runOf, hd]
 have hall := runOf_all (p := isDig) (c :: t)
 have hsz : (c :: t).length = s.size := by rw [← hS, len_eq]
 have HRUN : Hid (∀ w, Calls Tryz.prog 105 #[.string s, .func (.func 107) #[] #[]] w fun e w' => e = .returned (.int .i64 (runOf isDig (c :: t) : Nat)) ∧ w' = w) := fun w => by
  have := run_any so_digit s hs w
  rw [hS] at this
  exact this
 have HV : Hid (numV (c :: t) = if 1 < runOf isDig (c :: t) ∧ c.toNat = 48 then ansV 0 [] 0 0 6 else if numOf ((c :: t).take (runOf isDig (c :: t))) ≤ 9223372036854775807 then ansV 2 ((c :: t).take (runOf isDig (c :: t))) (numOf ((c :: t).take (runOf isDig (c :: t))) : Int) (runOf isDig (c :: t)) 0 else ansV 0 [] 0 0 6) := by
  show _ = _
  unfold numV
  simp
 generalize hn : runOf isDig (c :: t) = n at *
 have hx := ext_to s n
 rw [hS] at hx
 have hxl : ((c :: t).take n).length = n := by rw [List.length_take]; omega
 have hne : (c :: t).take n ≠ [] := by intro h; rw [h] at hxl; simp at hxl; omega
 rw [hsz] at hrle
 generalize hX : (c :: t).take n = X at *
 have HALL : Hid (∀ x ∈ X, isDig x = true) := hall
 have HNE : Hid (X ≠ []) := hne
 have HL : Hid (Lv w) := hL
 rw [HV.out]
 clear hS hall hne hL HV hn hX hsz
 by_cases hA : 1 < n ∧ c.toNat = 48
 ·rw [if_pos hA]
  have e1 : decide ((1 : Int) < (n : Int)) = true := by simp; omega
  have e2 : ((c.toNat : Int) == 48) = true := by rw [hA.2]; rfl
  go_enter Tryz.func108, Tryz.ntmps108
  go_wp2_with fail
  refine (HRUN.out _).mono ?_
  rintro e w1 ⟨rfl, rfl⟩
  go_wp2
  refine bodyPost_ret (v := ansV 0 [] 0 0 6) (by simp [results, Tryz.results108, go_sem, ansV, tokV]) rfl ⟨rfl, (Below.refl _ w).alloc (Nat.le_refl _) _⟩
 ·rw [if_neg hA]
  have b1 : Below w.heap.size w (w.alloc (.cells #[.int .i64 0, .string { data := #[] }, .int .i64 0, .int .i64 0] 118)) := (Below.refl _ w).alloc (Nat.le_refl _) _
  have HL1 : Hid (Lv (w.alloc (.cells #[.int .i64 0, .string { data := #[] }, .int .i64 0, .int .i64 0] 118))) := HL.out.below b1
  have hk0 : (w.alloc (.cells #[.int .i64 0, .string { data := #[] }, .int .i64 0, .int .i64 0] 118)).heap[w.heap.size]? = some (.cells #[.int .i64 0, .string { data := #[] }, .int .i64 0, .int .i64 0] 118 (0, 0)) := heap_alloc_new w _
  have HB1 : Hid (Below w.heap.size w (w.alloc (.cells #[.int .i64 0, .string { data := #[] }, .int .i64 0, .int .i64 0] 118))) := b1
  have HK1 : Hid ((w.alloc (.cells #[.int .i64 0, .string { data := #[] }, .int .i64 0, .int .i64 0] 118)).heap[w.heap.size]? = some (.cells #[.int .i64 0, .string { data := #[] }, .int .i64 0, .int .i64 0] 118 (0, 0))) := hk0
  clear b1 hk0
  by_cases hle : numOf X ≤ 9223372036854775807
  ·rw [if_pos hle]
   have HP : Hid (∀ w, Calls Tryz.prog 133 #[.string ⟨X.toArray⟩, .int .i64 10, .int .i64 64] w fun e w' => e = .returned (.tuple #[.int .i64 (numOf X : Int), .nilIface]) ∧ Below w.heap.size w w') := fun w => parse_ok HALL.out HNE.out (by omega) rfl hle w
   generalize numOf X = v at HP hle ⊢
   by_cases h1 : 1 < n
   ·have e1 : decide ((1 : Int) < (n : Int)) = true := by simp; omega
    have e2 : ((c.toNat : Int) == 48) = false := by rw [beq_eq_false_iff_ne]; omega
    go_enter Tryz.func108, Tryz.ntmps108
    go_wp2_with fail
    refine (HRUN.out _).mono ?_
    rintro e w1 ⟨rfl, hw1⟩
    rw [← hw1] at HL1 HB1 HK1
    clear hw1
    go_wp2_with fail
    refine (HP.out _).mono ?_
    rintro e w2 ⟨rfl, b2⟩
    have HB2 : Hid (Below w.heap.size w w2) := HB1.out.trans (b2.mono HB1.out.size)
    have HK2 : Hid (w2.heap[w.heap.size]? = some (.cells #[.int .i64 0, .string { data := #[] }, .int .i64 0, .int .i64 0] 118 (0, 0))) := (b2.block _ (lt_of_block HK1.out)).trans HK1.out
    obtain ⟨c0, c1, c2, c3, cf⟩ := four HK2.out
    have hbl : w.heap.size < w2.heap.size := lt_of_block HK2.out
    clear b2
    go_wp2
    obtain ⟨d0, d1, d2, d3, _⟩ := four (four_set HK2.out (.int .i64 2) (.string { data := X.toArray }) (.int .i64 (v : Int)) (.int .i64 0))
    refine bodyPost_ret (v := ansV 2 X (v : Int) n 0) (by simp [results, Tryz.results108, go_sem, ansV, tokV, d0, d1, d2, d3]) rfl ⟨rfl, ?_⟩
    exact (((HB2.out.setCell (p := ⟨w.heap.size, 0, none⟩) (Nat.le_refl _) _).setCell (p := ⟨w.heap.size, 1, none⟩) (Nat.le_refl _) _).setCell (p := ⟨w.heap.size, 2, none⟩) (Nat.le_refl _) _).setCell (p := ⟨w.heap.size, 3, none⟩) (Nat.le_refl _) _
   ·have e1 : decide ((1 : Int) < (n : Int)) = false := by simp; omega
    go_enter Tryz.func108, Tryz.ntmps108
    go_wp2_with fail
    refine (HRUN.out _).mono ?_
    rintro e w1 ⟨rfl, hw1⟩
    rw [← hw1] at HL1 HB1 HK1
    clear hw1
    go_wp2_with fail
    refine (HP.out _).mono ?_
    rintro e w2 ⟨rfl, b2⟩
    have HB2 : Hid (Below w.heap.size w w2) := HB1.out.trans (b2.mono HB1.out.size)
    have HK2 : Hid (w2.heap[w.heap.size]? = some (.cells #[.int .i64 0, .string { data := #[] }, .int .i64 0, .int .i64 0] 118 (0, 0))) := (b2.block _ (lt_of_block HK1.out)).trans HK1.out
    obtain ⟨c0, c1, c2, c3, cf⟩ := four HK2.out
    have hbl : w.heap.size < w2.heap.size := lt_of_block HK2.out
    clear b2
    go_wp2
    obtain ⟨d0, d1, d2, d3, _⟩ := four (four_set HK2.out (.int .i64 2) (.string { data := X.toArray }) (.int .i64 (v : Int)) (.int .i64 0))
    refine bodyPost_ret (v := ansV 2 X (v : Int) n 0) (by simp [results, Tryz.results108, go_sem, ansV, tokV, d0, d1, d2, d3]) rfl ⟨rfl, ?_⟩
    exact (((HB2.out.setCell (p := ⟨w.heap.size, 0, none⟩) (Nat.le_refl _) _).setCell (p := ⟨w.heap.size, 1, none⟩) (Nat.le_refl _) _).setCell (p := ⟨w.heap.size, 2, none⟩) (Nat.le_refl _) _).setCell (p := ⟨w.heap.size, 3, none⟩) (Nat.le_refl _) _
  ·rw [if_neg hle]
   have HP : Hid (∀ w, Lv w → Calls Tryz.prog 133 #[.string ⟨X.toArray⟩, .int .i64 10, .int .i64 64] w fun e w' => ∃ v t p, e = .returned (.tuple #[v, .iface t p]) ∧ Below w.heap.size w w') := fun w hw => parse_range HALL.out HNE.out (by omega) (by omega) w hw
   by_cases h1 : 1 < n
   ·have e1 : decide ((1 : Int) < (n : Int)) = true := by simp; omega
    have e2 : ((c.toNat : Int) == 48) = false := by rw [beq_eq_false_iff_ne]; omega
    go_enter Tryz.func108, Tryz.ntmps108
    go_wp2_with fail
    refine (HRUN.out _).mono ?_
    rintro e w1 ⟨rfl, hw1⟩
    rw [← hw1] at HL1 HB1 HK1
    clear hw1
    go_wp2_with fail
    refine (HP.out _ HL1.out).mono ?_
    rintro e w2 ⟨v, tt, pp, rfl, b2⟩
    have HB2 : Hid (Below w.heap.size w w2) := HB1.out.trans (b2.mono HB1.out.size)
    have HK2 : Hid (w2.heap[w.heap.size]? = some (.cells #[.int .i64 0, .string { data := #[] }, .int .i64 0, .int .i64 0] 118 (0, 0))) := (b2.block _ (lt_of_block HK1.out)).trans HK1.out
    obtain ⟨c0, c1, c2, c3, cf⟩ := four HK2.out
    have hbl : w.heap.size < w2.heap.size := lt_of_block HK2.out
    have hnn := ne_nil_iface w2 tt pp
    clear b2
    go_wp2
    obtain ⟨d0, d1, d2, d3, _⟩ := four (four_set HK2.out (.int .i64 0) (.string { data := #[] }) (.int .i64 0) (.int .i64 0))
    refine bodyPost_ret (v := ansV 0 [] 0 0 6) (by simp [results, Tryz.results108, go_sem, ansV, tokV, d0, d1, d2, d3]) rfl ⟨rfl, ?_⟩
    exact (((HB2.out.setCell (p := ⟨w.heap.size, 0, none⟩) (Nat.le_refl _) _).setCell (p := ⟨w.heap.size, 1, none⟩) (Nat.le_refl _) _).setCell (p := ⟨w.heap.size, 2, none⟩) (Nat.le_refl _) _).setCell (p := ⟨w.heap.size, 3, none⟩) (Nat.le_refl _) _
   ·have e1 : decide ((1 : Int) < (n : Int)) = false := by simp; omega
    go_enter Tryz.func108, Tryz.ntmps108
    go_wp2_with fail
    refine (HRUN.out _).mono ?_
    rintro e w1 ⟨rfl, hw1⟩
    rw [← hw1] at HL1 HB1 HK1
    clear hw1
    go_wp2_with fail
    refine (HP.out _ HL1.out).mono ?_
    rintro e w2 ⟨v, tt, pp, rfl, b2⟩
    have HB2 : Hid (Below w.heap.size w w2) := HB1.out.trans (b2.mono HB1.out.size)
    have HK2 : Hid (w2.heap[w.heap.size]? = some (.cells #[.int .i64 0, .string { data := #[] }, .int .i64 0, .int .i64 0] 118 (0, 0))) := (b2.block _ (lt_of_block HK1.out)).trans HK1.out
    obtain ⟨c0, c1, c2, c3, cf⟩ := four HK2.out
    have hbl : w.heap.size < w2.heap.size := lt_of_block HK2.out
    have hnn := ne_nil_iface w2 tt pp
    clear b2
    go_wp2
    obtain ⟨d0, d1, d2, d3, _⟩ := four (four_set HK2.out (.int .i64 0) (.string { data := #[] }) (.int .i64 0) (.int .i64 0))
    refine bodyPost_ret (v := ansV 0 [] 0 0 6) (by simp [results, Tryz.results108, go_sem, ansV, tokV, d0, d1, d2, d3]) rfl ⟨rfl, ?_⟩
    exact (((HB2.out.setCell (p := ⟨w.heap.size, 0, none⟩) (Nat.le_refl _) _).setCell (p := ⟨w.heap.size, 1, none⟩) (Nat.le_refl _) _).setCell (p := ⟨w.heap.size, 2, none⟩) (Nat.le_refl _) _).setCell (p := ⟨w.heap.size, 3, none⟩) (Nat.le_refl _) _
end Go.Proofs.YtenfphbhofibjaaGreatDoor
namespace Go.Proofs.YtenfphbhofibjaaGreatDoor
open Go.ChangeShapes Go.WideShapes Go.ChangeAt Go.RowKit LM
theorem one_num {c : UInt8} {t : List UInt8} (hd : isDig c = true) : oneV (one (c :: t)) = numV (c :: t) := by
 show oneV (one1 c t) = _
 unfold one1 numV
 rw [if_pos hd]
 simp only [List.head?_cons, Option.map_some, Option.some.injEq]
 split
 ·rfl
 ·split
  ·rfl
  ·rfl
theorem one_wrd {c : UInt8} {t : List UInt8} (hd : isDig c = false) (hw : isWrd c = true) : oneV (one (c :: t)) = ansV 1 ((c :: t).take (runOf isWrd (c :: t))) 0 (runOf isWrd (c :: t)) 0 := by
 show oneV (one1 c t) = _
 unfold one1
 rw [if_neg (by simp [hd]), if_pos hw]
 rfl
theorem one_txt {c : UInt8} {t : List UInt8} (hd : isDig c = false) (hw : isWrd c = false) (hq : c.toNat = 34) : oneV (one (c :: t)) = textV (c :: t) := by
 show oneV (one1 c t) = _
 unfold one1 textV
 rw [if_neg (by simp [hd]), if_neg (by simp [hw]), if_pos hq, List.drop_succ_cons, List.drop_zero]
 cases txt t with
 | none => rfl
 | some p => rfl
theorem one_sgn {c : UInt8} {t : List UInt8} (hd : isDig c = false) (hw : isWrd c = false) (hq : c.toNat ≠ 34) : oneV (one (c :: t)) = signV (c :: t) := by
 show oneV (one1 c t) = _
 unfold one1 signV
 rw [if_neg (by simp [hd]), if_neg (by simp [hw]), if_neg hq]
 cases sgn (c :: t) with
 | zero => rfl
 | succ n => rfl
theorem ansV_eq (k : Nat) (x : List UInt8) (v : Int) (n : Nat) (e : Int) : ansV k x v n e = .tuple #[.agg #[.int .i64 (k : Int), .string ⟨x.toArray⟩, .int .i64 v, .int .i64 0], .int .i64 (n : Int), .int .i64 e] := rfl
theorem numV_shape (S : List UInt8) : ∃ k x v n e, numV S = ansV k x v n e := by
 unfold numV
 split
 ·exact ⟨_, _, _, _, _, rfl⟩
 ·split <;> exact ⟨_, _, _, _, _, rfl⟩
theorem textV_shape (S : List UInt8) : ∃ k x v n e, textV S = ansV k x v n e := by
 unfold textV
 split
 ·exact ⟨3, _, 0, _, 0, rfl⟩
 ·exact ⟨0, [], 0, 0, 1, rfl⟩
theorem signV_shape (S : List UInt8) : ∃ k x v n e, signV S = ansV k x v n e := by
 unfold signV
 split
 ·exact ⟨_, _, _, _, _, rfl⟩
 ·exact ⟨_, _, _, _, _, rfl⟩
theorem first_any (s : ByteArray) {c : UInt8} {t : List UInt8} (hS : s.data.toList = c :: t) (hs : s.size ≤ 100000) (w : World) (hL : Lv w) :
 Calls Tryz.prog 90 #[.string s] w fun e w' => e = .returned (oneV (one (c :: t))) ∧ Below w.heap.size w w' := by
 obtain ⟨hl0, e0⟩ := toList_head s hS
 have hc : c.toNat < 256 := c.toNat_lt
 have b1 : Below w.heap.size w (w.alloc (.cells #[.int .i64 0, .string { data := #[] }, .int .i64 0, .int .i64 0] 118)) := (Below.refl _ w).alloc (Nat.le_refl _) _
 have HL1 : Hid (Lv (w.alloc (.cells #[.int .i64 0, .string { data := #[] }, .int .i64 0, .int .i64 0] 118))) := hL.below b1
 have hk0 : (w.alloc (.cells #[.int .i64 0, .string { data := #[] }, .int .i64 0, .int .i64 0] 118)).heap[w.heap.size]? = some (.cells #[.int .i64 0, .string { data := #[] }, .int .i64 0, .int .i64 0] 118 (0, 0)) := heap_alloc_new w _
 have HB1 : Hid (Below w.heap.size w (w.alloc (.cells #[.int .i64 0, .string { data := #[] }, .int .i64 0, .int .i64 0] 118))) := b1
 have HK1 : Hid ((w.alloc (.cells #[.int .i64 0, .string { data := #[] }, .int .i64 0, .int .i64 0] 118)).heap[w.heap.size]? = some (.cells #[.int .i64 0, .string { data := #[] }, .int .i64 0, .int .i64 0] 118 (0, 0))) := hk0
 have HS : Hid (s.data.toList = c :: t) := hS
 clear b1 hk0 hS hL
 cases hd : isDig c with
 | true =>
  have HD : Hid (∀ w, Calls Tryz.prog 107 #[.int .u8 (c.toNat : Int)] w fun e w' => e = .returned (.bool true) ∧ w' = w) := fun w => by have := digit_any c w; rw [hd] at this; exact this
  have HC : Hid (∀ w, Lv w → Calls Tryz.prog 108 #[.string s] w fun e w' => e = .returned (numV (c :: t)) ∧ Below w.heap.size w w') := fun w hw => lexnum_any s HS.out hd hs w hw
  rw [one_num hd]
  obtain ⟨k, x, v, n, e, hsh⟩ := numV_shape (c :: t)
  rw [hsh] at HC ⊢
  rw [ansV_eq] at HC ⊢
  clear hsh
  go_enter Tryz.func90, Tryz.ntmps90
  go_wp2_with fail
  refine (HD.out _).mono ?_
  rintro e' w1 ⟨rfl, hw1⟩
  rw [← hw1] at HL1 HB1 HK1
  clear hw1
  go_wp2_with fail
  refine (HC.out _ HL1.out).mono ?_
  rintro e' w2 ⟨rfl, b2⟩
  have HB2 : Hid (Below w.heap.size w w2) := HB1.out.trans (b2.mono HB1.out.size)
  have HK2 : Hid (w2.heap[w.heap.size]? = some (.cells #[.int .i64 0, .string { data := #[] }, .int .i64 0, .int .i64 0] 118 (0, 0))) := (b2.block _ (lt_of_block HK1.out)).trans HK1.out
  obtain ⟨c0, c1, c2, c3, cf⟩ := four HK2.out
  have hbl : w.heap.size < w2.heap.size := lt_of_block HK2.out
  clear b2
  go_wp2
  obtain ⟨d0, d1, d2, d3, _⟩ := four (four_set HK2.out (.int .i64 (k : Int)) (.string { data := x.toArray }) (.int .i64 v) (.int .i64 0))
  refine bodyPost_ret (v := .tuple #[.agg #[.int .i64 (k : Int), .string ⟨x.toArray⟩, .int .i64 v, .int .i64 0], .int .i64 (n : Int), .int .i64 e]) (by simp [results, Tryz.results90, go_sem, d0, d1, d2, d3]) rfl ⟨rfl, ?_⟩
  exact (((HB2.out.setCell (p := ⟨w.heap.size, 0, none⟩) (Nat.le_refl _) _).setCell (p := ⟨w.heap.size, 1, none⟩) (Nat.le_refl _) _).setCell (p := ⟨w.heap.size, 2, none⟩) (Nat.le_refl _) _).setCell (p := ⟨w.heap.size, 3, none⟩) (Nat.le_refl _) _
 | false =>
  have HD : Hid (∀ w, Calls Tryz.prog 107 #[.int .u8 (c.toNat : Int)] w fun e w' => e = .returned (.bool false) ∧ w' = w) := fun w => by have := digit_any c w; rw [hd] at this; exact this
  cases hw : isWrd c with
  | true =>
   have HW : Hid (∀ w, Calls Tryz.prog 109 #[.int .u8 (c.toNat : Int)] w fun e w' => e = .returned (.bool true) ∧ w' = w) := fun w => by have := inWord_any c w; rw [hw] at this; exact this
   have HRUN : Hid (∀ w, Calls Tryz.prog 105 #[.string s, .func (.func 109) #[] #[]] w fun e w' => e = .returned (.int .i64 (runOf isWrd (c :: t) : Nat)) ∧ w' = w) := fun w => by
    have := run_any so_inWord s hs w
    rw [HS.out] at this
    exact this
   rw [one_wrd hd hw]
   have hrle := runOf_le isWrd (c :: t)
   rw [show (c :: t).length = s.size from by rw [← HS.out, len_eq]] at hrle
   generalize runOf isWrd (c :: t) = n at *
   have hx := ext_to s n
   rw [HS.out] at hx
   generalize (c :: t).take n = X at *
   rw [ansV_eq]
   obtain ⟨q0, q1, q2, q3, qf⟩ := four HK1.out
   go_enter Tryz.func90, Tryz.ntmps90
   go_wp2_with fail
   refine (HD.out _).mono ?_
   rintro e' w1 ⟨rfl, rfl⟩
   go_wp2_with fail
   refine (HW.out _).mono ?_
   rintro e' w1 ⟨rfl, rfl⟩
   go_wp2_with fail
   refine (HRUN.out _).mono ?_
   rintro e' w1 ⟨rfl, rfl⟩
   go_wp2
   refine bodyPost_ret (v := .tuple #[.agg #[.int .i64 1, .string ⟨X.toArray⟩, .int .i64 0, .int .i64 0], .int .i64 (n : Int), .int .i64 0]) (by simp [results, Tryz.results90, go_sem]) rfl ⟨rfl, (Below.refl _ w).alloc (Nat.le_refl _) _⟩
  | false =>
   have HW : Hid (∀ w, Calls Tryz.prog 109 #[.int .u8 (c.toNat : Int)] w fun e w' => e = .returned (.bool false) ∧ w' = w) := fun w => by have := inWord_any c w; rw [hw] at this; exact this
   by_cases hq : c.toNat = 34
   ·have HC : Hid (∀ w, Calls Tryz.prog 110 #[.string s] w fun e w' => e = .returned (textV (c :: t)) ∧ Below w.heap.size w w') := fun w => by have := text_any s hl0 hs w; rw [HS.out] at this; exact this
    rw [one_txt hd hw hq]
    obtain ⟨k, x, v, n, e, hsh⟩ := textV_shape (c :: t)
    rw [hsh] at HC ⊢
    rw [ansV_eq] at HC ⊢
    have e1 : ((c.toNat : Int) == 34) = true := by rw [hq]; rfl
    clear hsh hq
    go_enter Tryz.func90, Tryz.ntmps90
    go_wp2_with fail
    refine (HD.out _).mono ?_
    rintro e' w1 ⟨rfl, rfl⟩
    go_wp2_with fail
    refine (HW.out _).mono ?_
    rintro e' w1 ⟨rfl, hw1⟩
    rw [← hw1] at HL1 HB1 HK1
    clear hw1
    go_wp2_with fail
    refine (HC.out _).mono ?_
    rintro e' w2 ⟨rfl, b2⟩
    have HB2 : Hid (Below w.heap.size w w2) := HB1.out.trans (b2.mono HB1.out.size)
    have HK2 : Hid (w2.heap[w.heap.size]? = some (.cells #[.int .i64 0, .string { data := #[] }, .int .i64 0, .int .i64 0] 118 (0, 0))) := (b2.block _ (lt_of_block HK1.out)).trans HK1.out
    obtain ⟨c0, c1, c2, c3, cf⟩ := four HK2.out
    have hbl : w.heap.size < w2.heap.size := lt_of_block HK2.out
    clear b2
    go_wp2
    obtain ⟨d0, d1, d2, d3, _⟩ := four (four_set HK2.out (.int .i64 (k : Int)) (.string { data := x.toArray }) (.int .i64 v) (.int .i64 0))
    refine bodyPost_ret (v := .tuple #[.agg #[.int .i64 (k : Int), .string ⟨x.toArray⟩, .int .i64 v, .int .i64 0], .int .i64 (n : Int), .int .i64 e]) (by simp [results, Tryz.results90, go_sem, d0, d1, d2, d3]) rfl ⟨rfl, ?_⟩
    exact (((HB2.out.setCell (p := ⟨w.heap.size, 0, none⟩) (Nat.le_refl _) _).setCell (p := ⟨w.heap.size, 1, none⟩) (Nat.le_refl _) _).setCell (p := ⟨w.heap.size, 2, none⟩) (Nat.le_refl _) _).setCell (p := ⟨w.heap.size, 3, none⟩) (Nat.le_refl _) _
   ·have HC : Hid (∀ w, Calls Tryz.prog 111 #[.string s] w fun e w' => e = .returned (signV (c :: t)) ∧ Below w.heap.size w w') := fun w => by have := sign_any s hl0 hs w; rw [HS.out] at this; exact this
    rw [one_sgn hd hw hq]
    obtain ⟨k, x, v, n, e, hsh⟩ := signV_shape (c :: t)
    rw [hsh] at HC ⊢
    rw [ansV_eq] at HC ⊢
    have e1 : ((c.toNat : Int) == 34) = false := by rw [beq_eq_false_iff_ne]; omega
    clear hsh
    go_enter Tryz.func90, Tryz.ntmps90
    go_wp2_with fail
    refine (HD.out _).mono ?_
    rintro e' w1 ⟨rfl, rfl⟩
    go_wp2_with fail
    refine (HW.out _).mono ?_
    rintro e' w1 ⟨rfl, hw1⟩
    rw [← hw1] at HL1 HB1 HK1
    clear hw1
    go_wp2_with fail
    refine (HC.out _).mono ?_
    rintro e' w2 ⟨rfl, b2⟩
    have HB2 : Hid (Below w.heap.size w w2) := HB1.out.trans (b2.mono HB1.out.size)
    have HK2 : Hid (w2.heap[w.heap.size]? = some (.cells #[.int .i64 0, .string { data := #[] }, .int .i64 0, .int .i64 0] 118 (0, 0))) := (b2.block _ (lt_of_block HK1.out)).trans HK1.out
    obtain ⟨c0, c1, c2, c3, cf⟩ := four HK2.out
    have hbl : w.heap.size < w2.heap.size := lt_of_block HK2.out
    clear b2
    go_wp2
    obtain ⟨d0, d1, d2, d3, _⟩ := four (four_set HK2.out (.int .i64 (k : Int)) (.string { data := x.toArray }) (.int .i64 v) (.int .i64 0))
    refine bodyPost_ret (v := .tuple #[.agg #[.int .i64 (k : Int), .string ⟨x.toArray⟩, .int .i64 v, .int .i64 0], .int .i64 (n : Int), .int .i64 e]) (by simp [results, Tryz.results90, go_sem, d0, d1, d2, d3]) rfl ⟨rfl, ?_⟩
    exact (((HB2.out.setCell (p := ⟨w.heap.size, 0, none⟩) (Nat.le_refl _) _).setCell (p := ⟨w.heap.size, 1, none⟩) (Nat.le_refl _) _).setCell (p := ⟨w.heap.size, 2, none⟩) (Nat.le_refl _) _).setCell (p := ⟨w.heap.size, 3, none⟩) (Nat.le_refl _) _
end Go.Proofs.YtenfphbhofibjaaGreatDoor
namespace Go.Proofs.YtenfphbhofibjaaGreatDoor
open Go.ChangeShapes Go.WideShapes Go.ChangeAt Go.RowKit LM
theorem four_news {w : World} {x0 x1 x2 x3 : Value} {t : TypeId} (j : Nat) (u : Value) (hj : [x0, x1, x2, x3][j]? = some u) : (w.alloc (.cells #[x0, x1, x2, x3] t)).cell? ((⟨w.heap.size, 0, none⟩ : Addr).add j) = some u := by
 match j, hj with
 | 0, hj => simp at hj; subst hj; simp [Addr.add]
 | 1, hj => simp at hj; subst hj; simp [Addr.add]
 | 2, hj => simp at hj; subst hj; simp [Addr.add]
 | 3, hj => simp at hj; subst hj; simp [Addr.add]
def tokL (t : Tok) : List Value := [.int .i64 (t.kind : Int), .string ⟨t.text.toArray⟩, .int .i64 t.num, .int .i64 (t.pos : Int)]
def tokRow (l : List Tok) : List Value := l.flatMap tokL
theorem tokRow_one (l : List Tok) (t : Tok) : tokRow l ++ tokL t = tokRow (l ++ [t]) := by simp [tokRow]
def SplitAns (w w' : World) (e : Ending) (R : Res) : Prop :=
 ∃ v, Below w.heap.size w w' ∧ match R with
  | .toks l => e = .returned (.tuple #[v, .int .i64 0, .int .i64 0]) ∧ w'.ownsRow w.heap.size 118 4 v l.length (tokRow l)
  | .bad a r => e = .returned (.tuple #[.slice none 0 0, .int .i64 (a : Int), .int .i64 (if r then 6 else 1)])
theorem infoTok : (Tryz.prog.info? 118).map (fun i => (i.zero, i.size, i.bytes)) = some (some (.agg #[.int .i64 0, .string { data := #[] }, .int .i64 0, .int .i64 0]), 4, 40) := by kernel_rfl
theorem pre_toks (l : List Tok) (t : Tok) (r : Res) : (r.cons t).pre l = r.pre (l ++ [t]) := by cases r <;> simp [Res.cons, Res.pre]
theorem row_keeps {w w' : World} {base : Nat} {e : TypeId} {size n : Nat} {v : Value} {xs : List Value} (h : w.ownsRow base e size v n xs) (hb : Below w.heap.size w w') : w'.ownsRow base e size v n xs := by
 refine ⟨h.1, h.2.imp id ?_⟩
 rintro ⟨g, cap, cur, rfl, hbg, hg, rest⟩
 exact ⟨g, cap, cur, rfl, hbg, (hb.block g (lt_of_block hg)).trans hg, rest⟩
theorem oneV_bad (r : Bool) : oneV (.bad r) = .tuple #[.agg #[.int .i64 0, .string ⟨#[]⟩, .int .i64 0, .int .i64 0], .int .i64 0, .int .i64 (if r then 6 else 1)] := rfl
theorem oneV_ok (k : Nat) (x : List UInt8) (v : Int) (n : Nat) : oneV (.ok k x v n) = .tuple #[.agg #[.int .i64 (k : Int), .string ⟨x.toArray⟩, .int .i64 v, .int .i64 0], .int .i64 (n : Int), .int .i64 0] := rfl
theorem split_any (s : ByteArray) (hs : s.size ≤ 8192) (w : World) (hL : Lv w) :
 Calls Tryz.prog 60 #[.string s] w fun e w' => SplitAns w w' e (lexR 0 s.data.toList) := by
 generalize hS : s.data.toList = S
 have hSl : S.length = s.size := by rw [← hS]; exact len_eq s
 have HSS : Hid (s.data.toList = S) := hS
 have HL : Hid (Lv w) := hL
 have HBT : Hid (∀ (i : Nat), i ≤ s.size → ∀ w, Calls Tryz.prog 89 #[.string s, .int .i64 (i : Int)] w fun e w' => e = .returned (.int .i64 ((i + gap false (S.drop i) : Nat) : Int)) ∧ w' = w) := fun i hi w => by
  have := between_any s (by omega) i hi w
  rw [hS] at this
  exact this
 have HGL : Hid (∀ i, i ≤ s.size → i + gap false (S.drop i) ≤ s.size) := fun i hi => by
  have := gap_le false (S.drop i)
  rw [List.length_drop] at this
  omega
 clear hS hL
 go_enter Tryz.func60, Tryz.ntmps60
 have e1 : decide ((8192 : Int) < (s.size : Int)) = false := by simp; omega
 go_wp2_with fail
 refine (HBT.out 0 (by omega) _).mono ?_
 rintro e w1 ⟨rfl, hw1⟩
 obtain rfl : w1 = w := hw1
 have hg0 := HGL.out 0 (by omega)
 have HG0 : Hid (lexR 0 S = (lexR (0 + gap false (S.drop 0)) (S.drop (0 + gap false (S.drop 0)))).pre []) := by
  show _ = _
  rw [pre_nil, List.drop_zero, Nat.zero_add]
  have := lexR_gap (at_ := 0) (s := S)
  rw [Nat.zero_add] at this
  exact this
 have HG1 : Hid (gap false (S.drop (0 + gap false (S.drop 0))) = 0) := by
  show _ = _
  rw [List.drop_zero, Nat.zero_add]
  exact gap_drop false S
 generalize 0 + gap false (S.drop 0) = g0 at *
 go_wp2_with fail
 go_loopw [5, 6] (fun v i wr => ∃ (k : Nat) (l : List Tok), k ≤ s.size ∧ i = .int .i64 k ∧ l.length ≤ k ∧ Hid (lexR 0 S = (lexR k (S.drop k)).pre l) ∧ Hid (gap false (S.drop k) = 0) ∧ Hid (wr.ownsRow w1.heap.size 118 4 v l.length (tokRow l)) ∧ Hid (Below w1.heap.size w1 wr))
  (fun _ i _ => s.size - (intOf i).toNat)
 case atStart => exact ⟨g0, [], hg0, rfl, Nat.zero_le _, HG0, HG1, World.ownsRow_nil _ _ _ _, Below.refl _ _⟩
 case round =>
  obtain ⟨k, l, hk, rfl, hlk, HX, HZ, HR, HB⟩ := hrel
  clear HG0 HG1 hg0
  by_cases hlt : k < s.size
  ·have hb := byte_at s k hlt
   rw [HSS.out] at hb
   have hdk := drop_at hb
   have HD : Hid (S.drop k = (s[k]'hlt) :: S.drop (k + 1)) := hdk
   have hidx : 0 ≤ (k : Int) ∧ (k : Int) < (s.size : Int) := ⟨by omega, by omega⟩
   have HF : Hid (∀ w, Lv w → Calls Tryz.prog 90 #[.string (s.extract k s.size)] w fun e w' => e = .returned (oneV (one (S.drop k))) ∧ Below w.heap.size w w') := fun w hw => by
    have := first_any (s.extract k s.size) (c := s[k]'hlt) (t := S.drop (k + 1)) (by rw [ext_from, HSS.out]; exact hdk) (by rw [ext_size]; omega) w hw
    rw [← hdk] at this
    exact this
   have HLW : Hid (Lv wr) := HL.out.below HB.out
   have hbs := HB.out.size
   have HDG : Hid ((S.drop k).drop (gap false (S.drop k)) = (s[k]'hlt) :: S.drop (k + 1)) := by show _ = _; rw [HZ.out, List.drop_zero]; exact hdk
   clear hb hdk
   cases ho : one (S.drop k) with
   | bad r =>
    have HV : Hid (lexR 0 S = .bad k r) := by
     show _ = _
     have := lexR_bad (at_ := k) HDG.out (by rw [← HD.out]; exact ho)
     rw [HX.out, this, HZ.out]
     rfl
    rw [ho] at HF
    rw [oneV_bad] at HF
    obtain ⟨E, hE⟩ : ∃ E : Int, E = if r = true then (6 : Int) else 1 := ⟨_, rfl⟩
    have HE : Hid (E = if r = true then (6 : Int) else 1) := hE
    rw [← hE] at HF
    have her : (E == 0) = false := by rw [hE]; cases r <;> rfl
    have her2 : ¬ (E = 0) := by rw [hE]; cases r <;> decide
    clear hE
    go_wp2_with fail
    refine (HF.out _ HLW.out).mono ?_
    rintro e w2 ⟨rfl, b2⟩
    have HB2 : Hid (Below w1.heap.size w1 w2) := HB.out.trans (b2.mono hbs)
    clear b2
    go_wp2
    refine bodyPost_ret (v := .tuple #[.slice none 0 0, .int .i64 (k : Int), .int .i64 E]) (by simp [results, Tryz.results60, go_sem]) rfl ?_
    rw [HV.out]
    exact ⟨.slice none 0 0, HB2.out.alloc HB2.out.size _, by simp only [HE.out]⟩
   | ok kd x v n =>
    have hop := one_pos ho
    have hnl : k + n ≤ s.size := by rw [List.length_drop, hSl] at hop; omega
    have hg2 := HGL.out (k + n) hnl
    have HV : Hid (lexR 0 S = (lexR (k + n + gap false (S.drop (k + n))) (S.drop (k + n + gap false (S.drop (k + n))))).pre (l ++ [(⟨kd, x, v, k⟩ : Tok)])) := by
     show _ = _
     have h1 := lexR_ok (at_ := k) HDG.out (by rw [← HD.out]; exact ho)
     rw [HZ.out, Nat.add_zero, ← HD.out, List.drop_drop] at h1
     rw [HX.out, h1, pre_toks, lexR_gap (s := S.drop (k + n)), List.drop_drop]
    have HZ2 : Hid (gap false (S.drop (k + n + gap false (S.drop (k + n)))) = 0) := by
     show _ = _
     have := gap_drop false (S.drop (k + n))
     rwa [List.drop_drop] at this
    have HBT2 : Hid (∀ w, Calls Tryz.prog 89 #[.string s, .int .i64 ((k : Int) + (n : Int))] w fun e w' => e = .returned (.int .i64 ((k + n + gap false (S.drop (k + n)) : Nat) : Int)) ∧ w' = w) := fun w => by
     have := HBT.out (k + n) hnl w
     rw [show ((k + n : Nat) : Int) = (k : Int) + (n : Int) from by omega] at this
     exact this
    have hgr : k + n ≤ k + n + gap false (S.drop (k + n)) := by omega
    generalize k + n + gap false (S.drop (k + n)) = K2 at *
    have hn0 : 0 < n := hop.1
    rw [ho, oneV_ok] at HF
    obtain ⟨ti, hti, hz0, hz1, hz2⟩ := info_parts infoTok
    clear hop HX HZ HBT HGL HD HDG ho
    go_wp2_with fail
    refine (HF.out _ HLW.out).mono ?_
    rintro e w2 ⟨rfl, b2⟩
    have HB2 : Hid (Below w1.heap.size w1 w2) := HB.out.trans (b2.mono hbs)
    have HR2 : Hid (w2.ownsRow w1.heap.size 118 4 _ l.length (tokRow l)) := row_keeps HR.out b2
    have hs2 : w1.heap.size ≤ w2.heap.size := HB2.out.size
    clear b2
    go_wp2_with (at_builtin; refine wpList_append_own _ rfl (.tmp 33) (.tmp 35) 100 rfl w1.heap.size 118 ti _ 4 40 Tryz.underlying100 hti hz0 hz1 hz2 rfl (by decide) _ l.length _ rfl ((HR2.out.alloc _).alloc _) ⟨w2.heap.size + 1, 0, none⟩ 1 1 (tokL ⟨kd, x, v, k⟩) rfl rfl (by have h9 := @four_news (w2.alloc (.cells #[.int .i64 (kd : Int), .string ⟨x.toArray⟩, .int .i64 v, .int .i64 (k : Int)] 118)) (.int .i64 (kd : Int)) (.string ⟨x.toArray⟩) (.int .i64 v) (.int .i64 (k : Int)) 118; simpa [tokL] using h9) (by intro u hu; simp [tokL] at hu; rcases hu with rfl | rfl | rfl | rfl <;> rfl) (by unfold maxLen; omega) (by omega) (by simp; omega) ?_)
    intro v7 w7 hown7 hgr7 _
    have HR7 : Hid (w7.ownsRow w1.heap.size 118 4 v7 (l ++ [(⟨kd, x, v, k⟩ : Tok)]).length (tokRow (l ++ [(⟨kd, x, v, k⟩ : Tok)]))) := by
     show World.ownsRow _ _ _ _ _ _ _
     rw [tokRow_one] at hown7
     simpa using hown7
    have HB7 : Hid (Below w1.heap.size w1 w7) := ((HB2.out.alloc hs2 _).alloc (by simp; omega) _).grown hgr7 (by simp; omega) (fun j e => (HR2.out.lt j e).1)
    clear hown7 hgr7 HR HB HR2 HB2 HF HLW
    go_wp2_with fail
    refine (HBT2.out _).mono ?_
    rintro e w7 ⟨rfl, rfl⟩
    go_wp2_with fail
    go_roundw
    case rel => exact ⟨K2, l ++ [⟨kd, x, v, k⟩], hg2, rfl, by simp; omega, HV, HZ2, HR7, HB7⟩
    case measure => simp [intOf]; omega
  ·obtain rfl : k = s.size := by omega
   have HV : Hid (lexR 0 S = .toks (l ++ [(⟨0, [], 0, s.size⟩ : Tok)])) := by
    show _ = _
    have hnil : S.drop s.size = [] := List.drop_eq_nil_of_le (by omega)
    rw [HX.out, hnil, lexR_end (s := []) (by simp)]
    simp [Res.pre, gap]
   obtain ⟨ti, hti, hz0, hz1, hz2⟩ := info_parts infoTok
   have hbs := HB.out.size
   clear HBT HGL HX HZ HL
   go_wp2_with (at_builtin; refine wpList_append_own _ rfl (.tmp 42) (.tmp 45) 100 rfl w1.heap.size 118 ti _ 4 40 Tryz.underlying100 hti hz0 hz1 hz2 rfl (by decide) _ l.length _ rfl (HR.out.alloc _) ⟨wr.heap.size, 0, none⟩ 1 1 (tokL ⟨0, [], 0, s.size⟩) rfl rfl four_news (by intro u hu; simp [tokL] at hu; rcases hu with rfl | rfl | rfl | rfl <;> rfl) (by unfold maxLen; omega) (by omega) (by simp; omega) ?_)
   intro v7 w7 hown7 hgr7 _
   have HR7 : Hid (w7.ownsRow w1.heap.size 118 4 v7 (l ++ [(⟨0, [], 0, s.size⟩ : Tok)]).length (tokRow (l ++ [(⟨0, [], 0, s.size⟩ : Tok)]))) := by
    show World.ownsRow _ _ _ _ _ _ _
    rw [tokRow_one] at hown7
    simpa using hown7
   have HB7 : Hid (Below w1.heap.size w1 w7) := (HB.out.alloc hbs _).grown hgr7 (by simp; omega) (fun j e => (HR.out.lt j e).1)
   clear hown7 hgr7 HR HB
   go_wp2
   refine bodyPost_ret (v := .tuple #[v7, .int .i64 0, .int .i64 0]) (by simp [results, Tryz.results60, go_sem]) rfl ?_
   rw [HV.out]
   exact ⟨v7, HB7.out, rfl, HR7.out⟩
end Go.Proofs.YtenfphbhofibjaaGreatDoor

/-
 Package lex's small functions: digit, inWord, inNote, run, between: what each returns; memory is as it was.
 Conditions: as each theorem says.
-/
import Derived.Test.YtenfphbhofibjaaGreatDoorProg
import Derived.ProofKit
import Derived.Lib.Strings
import Derived.Test.YtenfphbhofibjaaGreatDoorZLexMath
set_option maxRecDepth 100000
set_option maxHeartbeats 1000000
set_option linter.unusedVariables false
namespace Go.Proofs.YtenfphbhofibjaaGreatDoor
open Go.RowKit LM
theorem retB {a b : Bool} (h : a = b) : Ending.returned (.bool a) = .returned (.bool b) := by rw [h]
theorem digit_any (c : UInt8) (w : World) : Calls Tryz.prog 107 #[.int .u8 (c.toNat : Int)] w fun e w' => e = .returned (.bool (isDig c)) ∧ w' = w := by
 unfold isDig
 have hc : c.toNat < 256 := c.toNat_lt
 generalize c.toNat = n at hc ⊢
 by_cases h1 : 48 ≤ n
 ·have e1 : decide ((48 : Int) ≤ (n : Int)) = true := by simp; omega
  by_cases h2 : n ≤ 57
  ·have e2 : decide ((n : Int) ≤ 57) = true := by simp; omega
   go_enter Tryz.func107, Tryz.ntmps107
   go_wp2
   go_ret
   exact ⟨retB (by simp [h1, h2]), rfl⟩
  ·have e2 : decide ((n : Int) ≤ 57) = false := by simp; omega
   go_enter Tryz.func107, Tryz.ntmps107
   go_wp2
   go_ret
   exact ⟨retB (by simp [h1, h2]), rfl⟩
 ·have e1 : decide ((48 : Int) ≤ (n : Int)) = false := by simp; omega
  go_enter Tryz.func107, Tryz.ntmps107
  go_wp2
  go_ret
  exact ⟨retB (by simp [h1]), rfl⟩
theorem inNote_any (c : UInt8) (w : World) : Calls Tryz.prog 106 #[.int .u8 (c.toNat : Int)] w fun e w' => e = .returned (.bool (notNl c)) ∧ w' = w := by
 unfold notNl
 generalize c.toNat = n
 go_enter Tryz.func106, Tryz.ntmps106
 go_wp2
 go_ret
 exact ⟨retB (by by_cases h : n = 10 <;> simp [h]; omega), rfl⟩
theorem inWord_any (c : UInt8) (w : World) : Calls Tryz.prog 109 #[.int .u8 (c.toNat : Int)] w fun e w' => e = .returned (.bool (isWrd c)) ∧ w' = w := by
 have HD : Hid (∀ w, Calls Tryz.prog 107 #[.int .u8 (c.toNat : Int)] w fun e w' => e = .returned (.bool (isDig c)) ∧ w' = w) := digit_any c
 unfold isWrd
 have hc : c.toNat < 256 := c.toNat_lt
 generalize c.toNat = n at hc HD ⊢
 by_cases h1 : 97 ≤ n ∧ n ≤ 122
 ·have e1 : decide ((97 : Int) ≤ (n : Int)) = true := by simp; omega
  have e2 : decide ((n : Int) ≤ 122) = true := by simp; omega
  go_enter Tryz.func109, Tryz.ntmps109
  go_wp2
  go_ret
  exact ⟨retB (by simp [h1.1, h1.2]), rfl⟩
 ·by_cases h2 : 65 ≤ n ∧ n ≤ 90
  ·have e1 : decide ((97 : Int) ≤ (n : Int)) = false := by simp; omega
   have e2 : decide ((65 : Int) ≤ (n : Int)) = true := by simp; omega
   have e3 : decide ((n : Int) ≤ 90) = true := by simp; omega
   go_enter Tryz.func109, Tryz.ntmps109
   go_wp2
   go_ret
   exact ⟨retB (by simp [h2.1, h2.2]), rfl⟩
  ·by_cases h3 : n = 95
   ·subst h3
    go_enter Tryz.func109, Tryz.ntmps109
    go_wp2
    go_ret
    exact ⟨retB (by simp), rfl⟩
   ·have hf : Hid ((decide (97 ≤ n) && decide (n ≤ 122) || (decide (65 ≤ n) && decide (n ≤ 90) || (decide (n = 95) || isDig c))) = isDig c) := by
     show _ = _
     have a1 : (decide (97 ≤ n) && decide (n ≤ 122)) = false := by rw [Bool.and_eq_false_iff]; simp; omega
     have a2 : (decide (65 ≤ n) && decide (n ≤ 90)) = false := by rw [Bool.and_eq_false_iff]; simp; omega
     rw [a1, a2]; simp [h3]
    have e4 : ((n : Int) == 95) = false := by rw [beq_eq_false_iff_ne]; omega
    rw [hf.out]
    clear hf
    generalize isDig c = d at HD ⊢
    by_cases h4 : 97 ≤ n
    ·have e1 : decide ((97 : Int) ≤ (n : Int)) = true := by simp; omega
     have e2 : decide ((n : Int) ≤ 122) = false := by simp; omega
     have e3 : decide ((65 : Int) ≤ (n : Int)) = true := by simp; omega
     have e5 : decide ((n : Int) ≤ 90) = false := by simp; omega
     go_enter Tryz.func109, Tryz.ntmps109
     go_wp2_with fail
     refine (HD.out _).mono ?_
     rintro e w ⟨rfl, rfl⟩
     go_wp2
     go_ret
     exact ⟨rfl, rfl⟩
    ·have e1 : decide ((97 : Int) ≤ (n : Int)) = false := by simp; omega
     by_cases h5 : 65 ≤ n
     ·have e3 : decide ((65 : Int) ≤ (n : Int)) = true := by simp; omega
      have e5 : decide ((n : Int) ≤ 90) = false := by simp; omega
      go_enter Tryz.func109, Tryz.ntmps109
      go_wp2_with fail
      refine (HD.out _).mono ?_
      rintro e w ⟨rfl, rfl⟩
      go_wp2
      go_ret
      exact ⟨rfl, rfl⟩
     ·have e3 : decide ((65 : Int) ≤ (n : Int)) = false := by simp; omega
      go_enter Tryz.func109, Tryz.ntmps109
      go_wp2_with fail
      refine (HD.out _).mono ?_
      rintro e w ⟨rfl, rfl⟩
      go_wp2
      go_ret
      exact ⟨rfl, rfl⟩
def SoF (f : Nat) (p : UInt8 → Bool) : Prop := (∀ (args : Array Value) (w : World), (callFunc f args).run Tryz.prog w = .ok (.enter f args) w) ∧ ∀ (c : UInt8) (w : World), Calls Tryz.prog f #[.int .u8 (c.toNat : Int)] w fun e w' => e = .returned (.bool (p c)) ∧ w' = w
theorem so_digit : SoF 107 isDig := ⟨fun args w => by kernel_rfl, digit_any⟩
theorem so_inWord : SoF 109 isWrd := ⟨fun args w => by kernel_rfl, inWord_any⟩
theorem so_inNote : SoF 106 notNl := ⟨fun args w => by kernel_rfl, inNote_any⟩
theorem byte_at (s : ByteArray) (k : Nat) (h : k < s.size) : s.data.toList[k]? = some (s[k]'h) := by
 cases s with
 | mk d =>
  have h' : k < d.size := h
  rw [Array.getElem?_toList, Array.getElem?_eq_getElem h']
  rfl
theorem len_eq (s : ByteArray) : s.data.toList.length = s.size := by cases s; rfl
theorem runOf_at {p : UInt8 → Bool} : ∀ {l : List UInt8} {k : Nat} {c : UInt8}, l[k]? = some c → runOf p (l.drop k) = if p c then runOf p (l.drop (k + 1)) + 1 else 0 := by
 intro l k c h
 obtain ⟨hk, hc⟩ := List.getElem?_eq_some_iff.1 h
 rw [List.drop_eq_getElem_cons hk, hc]
 rfl
theorem run_any {f : Nat} {p : UInt8 → Bool} (hf : SoF f p) (s : ByteArray) (hs : s.size ≤ 100000) (w : World) :
 Calls Tryz.prog 105 #[.string s, .func (.func f) #[] #[]] w fun e w' => e = .returned (.int .i64 (runOf p s.data.toList : Nat)) ∧ w' = w := by
 obtain ⟨hen, hfc⟩ := hf
 have HF : Hid (∀ (c : UInt8) (w : World), Calls Tryz.prog f #[.int .u8 (c.toNat : Int)] w fun e w' => e = .returned (.bool (p c)) ∧ w' = w) := hfc
 clear hfc
 go_enter Tryz.func105, Tryz.ntmps105
 go_wp2_with fail
 go_loopw [5] (fun i wr => ∃ k : Nat, k ≤ s.size ∧ i = .int .i64 k ∧ Hid (runOf p s.data.toList = k + runOf p (s.data.toList.drop k)) ∧ wr = w)
  (fun i _ => s.size - (intOf i).toNat)
 case atStart => exact ⟨0, Nat.zero_le _, rfl, by show _ = _; simp, rfl⟩
 case round =>
  obtain ⟨k, hk, rfl, HR, rfl⟩ := hrel
  by_cases hlt : k < s.size
  ·have hb := byte_at s k hlt
   have HS := runOf_at (p := p) hb
   have HB : Hid (s.data.toList[k]? = some (s[k]'hlt)) := hb
   have hidx : 0 ≤ (k : Int) ∧ (k : Int) < (s.size : Int) := ⟨by omega, by omega⟩
   cases hp : p (s[k]'hlt) with
   | true =>
    rw [hp] at HS
    have HS2 : Hid (runOf p (s.data.toList.drop k) = runOf p (s.data.toList.drop (k + 1)) + 1) := HS
    have HC : Hid (Calls Tryz.prog f #[.int .u8 ((s[k]'hlt).toNat : Int)] wr fun e w' => e = .returned (.bool true) ∧ w' = wr) := by have := HF.out (s[k]'hlt) wr; rw [hp] at this; exact this
    clear hb HS hp
    go_wp2_with fail
    refine HC.out.mono ?_
    rintro e w ⟨rfl, rfl⟩
    go_wp2_with fail
    go_roundw
    case rel => exact ⟨k + 1, by omega, by go_num, by show _ = _; rw [HR.out, HS2.out]; omega, trivial⟩
    case measure => simp [intOf]; omega
   | false =>
    rw [hp] at HS
    have HS2 : Hid (runOf p (s.data.toList.drop k) = 0) := HS
    have HC : Hid (Calls Tryz.prog f #[.int .u8 ((s[k]'hlt).toNat : Int)] wr fun e w' => e = .returned (.bool false) ∧ w' = wr) := by have := HF.out (s[k]'hlt) wr; rw [hp] at this; exact this
    clear hb HS hp
    go_wp2_with fail
    refine HC.out.mono ?_
    rintro e w ⟨rfl, rfl⟩
    go_wp2
    go_ret
    exact ⟨by rw [HR.out, HS2.out]; rfl, rfl⟩
  ·obtain rfl : k = s.size := by omega
   go_wp2
   go_ret
   refine ⟨?_, rfl⟩
   rw [HR.out, List.drop_eq_nil_of_le (by rw [len_eq]; exact Nat.le_refl _)]
   rfl
theorem gap_note : ∀ (t : List UInt8), gap true t = runOf notNl t + gap false (t.drop (runOf notNl t))
 | [] => rfl
 | c :: t => by
  by_cases h : c.toNat = 10
  ·have h0 : runOf notNl (c :: t) = 0 := by simp [runOf, notNl, h]
   rw [h0]
   simp [gap, h]
  ·have h0 : runOf notNl (c :: t) = runOf notNl t + 1 := by simp [runOf, notNl, h]
   rw [h0, show gap true (c :: t) = gap true t + 1 from by simp [gap, h], gap_note t]
   simp
   omega
theorem gap_hash {c : UInt8} (t : List UInt8) (h : c.toNat = 35) : gap false (c :: t) = runOf notNl (c :: t) + gap false ((c :: t).drop (runOf notNl (c :: t))) := by
 have h0 : runOf notNl (c :: t) = runOf notNl t + 1 := by simp [runOf, notNl, h]
 rw [h0, show gap false (c :: t) = gap true t + 1 from by simp [gap, h], gap_note t]
 simp
 omega
theorem gap_blank {c : UInt8} (t : List UInt8) (h : c.toNat = 32 ∨ c.toNat = 10) : gap false (c :: t) = gap false t + 1 := by simp [gap, h]
theorem gap_other {c : UInt8} (t : List UInt8) (h : ¬ (c.toNat = 32 ∨ c.toNat = 10)) (h' : c.toNat ≠ 35) : gap false (c :: t) = 0 := by simp [gap, h, h']
theorem ext_from (s : ByteArray) (k : Nat) : (s.extract k s.size).data.toList = s.data.toList.drop k := by
 rw [← len_eq s]
 cases s with
 | mk d =>
  simp
  exact List.take_of_length_le (by simp)
theorem ext_size (s : ByteArray) (k : Nat) : (s.extract k s.size).size = s.size - k := by
 rw [← len_eq, ext_from, List.length_drop, len_eq]
theorem drop_at {l : List UInt8} {k : Nat} {c : UInt8} (h : l[k]? = some c) : l.drop k = c :: l.drop (k + 1) := by
 obtain ⟨hk, hc⟩ := List.getElem?_eq_some_iff.1 h
 rw [List.drop_eq_getElem_cons hk, hc]
theorem between_any (s : ByteArray) (hs : s.size ≤ 100000) (i : Nat) (hi : i ≤ s.size) (w : World) :
 Calls Tryz.prog 89 #[.string s, .int .i64 (i : Int)] w fun e w' => e = .returned (.int .i64 ((i + gap false (s.data.toList.drop i) : Nat) : Int)) ∧ w' = w := by
 go_enter Tryz.func89, Tryz.ntmps89
 go_wp2_with fail
 go_step3
 go_wp2_with fail
 go_step3
 go_wp2_with fail
 go_loopw [1] (fun j wr => ∃ k : Nat, k ≤ s.size ∧ j = .int .i64 k ∧ Hid (i + gap false (s.data.toList.drop i) = k + gap false (s.data.toList.drop k)) ∧ wr = w)
  (fun j _ => s.size - (intOf j).toNat)
 case atStart => exact ⟨i, hi, rfl, rfl, rfl⟩
 case round =>
  obtain ⟨k, hk, rfl, HR, rfl⟩ := hrel
  by_cases hlt : k < s.size
  ·have hb := byte_at s k hlt
   have HD : Hid (s.data.toList.drop k = (s[k]'hlt) :: s.data.toList.drop (k + 1)) := drop_at hb
   have hidx : 0 ≤ (k : Int) ∧ (k : Int) < (s.size : Int) := ⟨by omega, by omega⟩
   by_cases h32 : (s[k]'hlt).toNat = 32
   ·have e0 : (((s[k]'hlt).toNat : Int) == 32) = true := by rw [h32]; rfl
    have HG : Hid (gap false (s.data.toList.drop k) = gap false (s.data.toList.drop (k + 1)) + 1) := by show _ = _; rw [HD.out]; exact gap_blank _ (.inl h32)
    go_wp2_with fail
    go_roundw
    case rel => exact ⟨k + 1, by omega, by go_num, by show _ = _; rw [HR.out, HG.out]; omega, trivial⟩
    case measure => simp [intOf]; omega
   ·have e0 : (((s[k]'hlt).toNat : Int) == 32) = false := by rw [beq_eq_false_iff_ne]; omega
    by_cases h10 : (s[k]'hlt).toNat = 10
    ·have e1 : (((s[k]'hlt).toNat : Int) == 10) = true := by rw [h10]; rfl
     have HG : Hid (gap false (s.data.toList.drop k) = gap false (s.data.toList.drop (k + 1)) + 1) := by show _ = _; rw [HD.out]; exact gap_blank _ (.inr h10)
     go_wp2_with fail
     go_roundw
     case rel => exact ⟨k + 1, by omega, by go_num, by show _ = _; rw [HR.out, HG.out]; omega, trivial⟩
     case measure => simp [intOf]; omega
    ·have e1 : (((s[k]'hlt).toNat : Int) == 10) = false := by rw [beq_eq_false_iff_ne]; omega
     by_cases h35 : (s[k]'hlt).toNat = 35
     ·have e2 : (((s[k]'hlt).toNat : Int) == 35) = true := by rw [h35]; rfl
      have HG : Hid (gap false (s.data.toList.drop k) = runOf notNl (s.data.toList.drop k) + gap false (s.data.toList.drop (k + runOf notNl (s.data.toList.drop k)))) := by
       show _ = _
       have := gap_hash (s.data.toList.drop (k + 1)) h35
       rw [← HD.out, List.drop_drop] at this
       exact this
      have hr1 : 0 < runOf notNl (s.data.toList.drop k) := by rw [HD.out]; simp [runOf, notNl, h35]
      have hr2 : k + runOf notNl (s.data.toList.drop k) ≤ s.size := by
       have := runOf_le notNl (s.data.toList.drop k)
       rw [List.length_drop, len_eq] at this
       omega
      have HRUN : Hid (∀ w, Calls Tryz.prog 105 #[.string (s.extract k s.size), .func (.func 106) #[] #[]] w fun e w' => e = .returned (.int .i64 (runOf notNl (s.data.toList.drop k) : Nat)) ∧ w' = w) := fun w => by
       have := run_any so_inNote (s.extract k s.size) (by rw [ext_size]; omega) w
       rw [ext_from] at this
       exact this
      generalize runOf notNl (s.data.toList.drop k) = r at *
      go_wp2_with fail
      refine (HRUN.out _).mono ?_
      rintro e w ⟨rfl, rfl⟩
      go_wp2_with fail
      go_roundw
      case rel => exact ⟨k + r, by omega, by go_num, by show _ = _; rw [HR.out, HG.out]; omega, trivial⟩
      case measure => simp [intOf]; omega
     ·have e2 : (((s[k]'hlt).toNat : Int) == 35) = false := by rw [beq_eq_false_iff_ne]; omega
      have HG : Hid (gap false (s.data.toList.drop k) = 0) := by show _ = _; rw [HD.out]; exact gap_other _ (by omega) h35
      go_wp2
      rw [Exit.noGoto_ret]
      go_ret
      exact ⟨by rw [HR.out, HG.out]; rfl, rfl⟩
  ·obtain rfl : k = s.size := by omega
   go_wp2
   rw [Exit.noGoto_ret]
   go_ret
   refine ⟨?_, rfl⟩
   rw [HR.out, List.drop_eq_nil_of_le (by rw [len_eq]; exact Nat.le_refl _)]
   rfl
end Go.Proofs.YtenfphbhofibjaaGreatDoor

/-
 The laws' quote.
 Conditions: as each theorem says (the library's variables and the table of signs as they are laid).
-/
import Derived.Test.YtpboencfnjmmbaaGreatDoorZTrE
import Derived.Test.YtpboencfnjmmbaaGreatDoorZBase
import Derived.Lib.AtoiErrMem
set_option maxRecDepth 100000
set_option maxHeartbeats 2000000
set_option linter.unusedVariables false
namespace Go.Proofs.YtpboencfnjmmbaaGreatDoor
open Go.ChangeShapes Go.WideShapes Go.ChangeAt Go.RowKit TM
theorem Lg.wide {B B2 : Nat} {w : World} (h : Lg B w) (hB : B ≤ B2) : Lg B2 w :=
 ⟨fun w' hb => h.tab w' (hb.mono hB), Nat.lt_of_lt_of_le h.lt hB, h.signs⟩
structure Lw (w : World) : Prop where
 g : Lg w.heap.size w
theorem Lw.below {w w' : World} (h : Lw w) (hb : Below w.heap.size w w') : Lw w' := ⟨(h.g.on hb).wide hb.size⟩
theorem bytes_at {s : ByteArray} {k : Nat} (h : k < s.size) : s.data.toList.getD k 0 = s[k]'h := by
 rw [List.getD_eq_getElem?_getD, byte_at s k h]; rfl
theorem appL (a b : ByteArray) : (a ++ b).data.toList = a.data.toList ++ b.data.toList := by simp
theorem appS (a b : ByteArray) : (a ++ b).size = a.size + b.size := by rw [← len_eq, ← len_eq, ← len_eq, appL, List.length_append]
theorem mkL (s : ByteArray) : (⟨s.data.toList.toArray⟩ : ByteArray) = s := rfl
theorem run_byte_text (c : UInt8) (W : World) : (convert 73 9 (.slice (some ⟨W.heap.size, 0, none⟩) 1 1)).run Tryz.prog (W.alloc (.cells #[.int .u8 (c.toNat : Int)] 5)) = .ok (.string ⟨#[c]⟩) (W.alloc (.cells #[.int .u8 (c.toNat : Int)] 5)) :=
 run_convert_bytes_back (P := Tryz.prog) _ 73 9 5 ⟨W.heap.size, 0, none⟩ 1 [c] Tryz.underlying73 Tryz.underlying5 Tryz.underlying9 (fun j hj => by
  obtain rfl : j = 0 := by simp at hj; omega
  simp [Addr.add])
theorem lquote_any (s : ByteArray) (hs : s.size ≤ 1000000) (w : World) :
 Calls Tryz.prog 52 #[.string s] w fun e w' => e = .returned (.string ⟨(quoteT s.data.toList).toArray⟩) ∧ Below w.heap.size w w' := by
 have hcv := Lib.run_convert_string_bytes (P := Tryz.prog) w 9 73 5 s (u := .string) Tryz.underlying9 Tryz.underlying73 Tryz.underlying5
 have HCC : Hid (∀ j (hj : j < s.size), (Lib.bytesWorld w 5 s).cell? ⟨w.heap.size, j, none⟩ = some (.int .u8 ((s[j]'hj).toNat : Int))) := fun j hj => by rw [Lib.bytesWorld_cell w 5 s j hj, bytes_at hj]
 have HBW : Hid (Below w.heap.size w (Lib.bytesWorld w 5 s)) := Lib.bytesWorld_below w 5 s
 have hgl : w.heap.size < (Lib.bytesWorld w 5 s).heap.size := by rw [Lib.bytesWorld_size]; omega
 generalize Lib.bytesWorld w 5 s = W at hcv HCC HBW hgl
 generalize grownCap w s.size 0 5 = cap at hcv
 go_enter Tryz.func52, Tryz.ntmps52
 go_wp2_with fail
 go_loopw [9, 3] (fun i vo wr => ∃ (k : Nat) (y : ByteArray), k ≤ s.size ∧ i = .int .i64 k ∧ vo = .string y ∧ y.size ≤ 2 * k ∧ Hid (y.data.toList = (s.data.toList.take k).flatMap quo) ∧ Hid (Below W.heap.size W wr))
  (fun i _ _ => s.size - (intOf i).toNat)
 case atStart => exact ⟨0, ⟨#[]⟩, Nat.zero_le _, rfl, rfl, Nat.le_refl _, rfl, Below.refl _ _⟩
 case round =>
  obtain ⟨k, y, hk, rfl, rfl, hys, HY, HB⟩ := hrel
  by_cases hlt : k < s.size
  ·have hb := byte_at s k hlt
   have HS : Hid ((s.data.toList.take (k + 1)).flatMap quo = (s.data.toList.take k).flatMap quo ++ quo (s[k]'hlt)) := quoF_snoc hb
   have q0 := (HB.out.cell (p := ⟨w.heap.size, k, none⟩) hgl).trans (HCC.out k hlt)
   have hidx : 0 ≤ (k : Int) ∧ (k : Int) < (s.size : Int) := ⟨by omega, by omega⟩
   have hgw : w.heap.size < wr.heap.size := Nat.lt_of_lt_of_le hgl HB.out.size
   have hct := run_byte_text (s[k]'hlt) wr
   have HBA : Hid (∀ o, Below W.heap.size W (wr.alloc o)) := fun o => HB.out.alloc HB.out.size o
   clear hb
   by_cases h10 : (s[k]'hlt).toNat = 10
   ·have e1 : (((s[k]'hlt).toNat : Int) == 10) = true := by rw [h10]; rfl
    have HQ : Hid (quo (s[k]'hlt) = [92, 110]) := by show _ = _; simp [quo, h10]
    clear h10 hct
    go_wp2_with fail
    exact ⟨⟨k + 1, y ++ ⟨#[92, 110]⟩, by omega, by go_num, rfl, by rw [appS]; show y.size + 2 ≤ 2 * (k + 1); omega, by show _ = _; rw [appL, HS.out, HY.out, HQ.out], HB⟩, by simp [intOf]; omega⟩
   ·have e1 : (((s[k]'hlt).toNat : Int) == 10) = false := by rw [beq_eq_false_iff_ne]; omega
    by_cases h34 : (s[k]'hlt).toNat = 34
    ·have e2 : (((s[k]'hlt).toNat : Int) == 34) = true := by rw [h34]; rfl
     have HQ : Hid (quo (s[k]'hlt) = [92, s[k]'hlt]) := by show _ = _; simp [quo, h34]
     clear h10 h34
     go_wp2_with fail
     exact ⟨⟨k + 1, y ++ (⟨#[92]⟩ ++ ⟨#[s[k]'hlt]⟩), by omega, by go_num, rfl, by rw [appS, appS]; show y.size + (1 + 1) ≤ 2 * (k + 1); omega, by show _ = _; rw [appL, appL, HS.out, HY.out, HQ.out]; rfl, HBA.out _⟩, by simp [intOf]; omega⟩
    ·have e2 : (((s[k]'hlt).toNat : Int) == 34) = false := by rw [beq_eq_false_iff_ne]; omega
     by_cases h92 : (s[k]'hlt).toNat = 92
     ·have e3 : (((s[k]'hlt).toNat : Int) == 92) = true := by rw [h92]; rfl
      have HQ : Hid (quo (s[k]'hlt) = [92, s[k]'hlt]) := by show _ = _; simp [quo, h92]
      clear h10 h34 h92
      go_wp2_with fail
      exact ⟨⟨k + 1, y ++ (⟨#[92]⟩ ++ ⟨#[s[k]'hlt]⟩), by omega, by go_num, rfl, by rw [appS, appS]; show y.size + (1 + 1) ≤ 2 * (k + 1); omega, by show _ = _; rw [appL, appL, HS.out, HY.out, HQ.out]; rfl, HBA.out _⟩, by simp [intOf]; omega⟩
     ·have e3 : (((s[k]'hlt).toNat : Int) == 92) = false := by rw [beq_eq_false_iff_ne]; omega
      have HQ : Hid (quo (s[k]'hlt) = [s[k]'hlt]) := by show _ = _; simp [quo, h10, h34, h92]
      clear h10 h34 h92
      go_wp2_with fail
      exact ⟨⟨k + 1, y ++ ⟨#[s[k]'hlt]⟩, by omega, by go_num, rfl, by rw [appS]; show y.size + 1 ≤ 2 * (k + 1); omega, by show _ = _; rw [appL, HS.out, HY.out, HQ.out], HBA.out _⟩, by simp [intOf]; omega⟩
  ·obtain rfl : k = s.size := by omega
   have HF : Hid ((⟨#[34]⟩ ++ y ++ ⟨#[34]⟩ : ByteArray) = ⟨(quoteT s.data.toList).toArray⟩) := by
    show _ = _
    rw [← mkL (⟨#[34]⟩ ++ y ++ ⟨#[34]⟩), appL, appL, HY.out, List.take_of_length_le (by rw [len_eq]; exact Nat.le_refl _)]
    rfl
   have HBZ : Hid (Below w.heap.size w wr) := HBW.out.trans (HB.out.mono HBW.out.size)
   go_wp2
   go_ret
   exact ⟨by rw [← HF.out]; rfl, HBZ.out⟩
end Go.Proofs.YtpboencfnjmmbaaGreatDoor

/-
 Package code: an instruction's String; Writes, Ends; the laws' Awake of layer 9.
 Conditions: as each theorem says (the library's variables and the project's tables as they are laid).
-/
import Derived.Test.YtenfphbhofibjaaGreatDoorZAw8
import Derived.Test.YtenfphbhofibjaaGreatDoorZCd
set_option maxRecDepth 100000
set_option maxHeartbeats 2000000
set_option linter.unusedVariables false
set_option linter.unusedSimpArgs false
namespace Go.Proofs.YtenfphbhofibjaaGreatDoor
open Go.RowKit LM TM PM
structure Lz (w : World) : Prop where
 ly : Ly w
 c : Lc w.heap.size w
theorem Lc.wide {B B2 : Nat} {w : World} (h : Lc B w) (hB : B ≤ B2) : Lc B2 w :=
 ⟨fun w' hb => h.tab w' (hb.mono hB), Nat.lt_of_lt_of_le h.lt hB, h.words⟩
theorem Lz.below {w w' : World} (h : Lz w) (hb : Below w.heap.size w w') : Lz w' := ⟨h.ly.below hb, (h.c.on hb).wide hb.size⟩
def InZ (n : Int) : Prop := -9223372036854775808 ≤ n ∧ n ≤ 9223372036854775807
theorem insString_any {op : Nat} {a b c : Int} (w : World) (hL : Lc w.heap.size w) (hop : op < 256) (ha : InZ a) (hb : InZ b) (hc : InZ c) :
 Calls Tryz.prog 42 #[.agg #[.int .u8 (op : Int), .int .i64 a, .int .i64 b, .int .i64 c]] w fun e w' => e = .returned (.string ⟨(insT op a b c).toArray⟩) ∧ Below w.heap.size w w' := by
 have HB : Hid (∀ o, Below w.heap.size w (w.alloc o)) := fun o => (Below.refl _ _).alloc (Nat.le_refl _) o
 have HC : Hid (∀ o, Calls Tryz.prog 65 #[.slice none 0 0, .agg #[.int .u8 (op : Int), .int .i64 a, .int .i64 b, .int .i64 c]] (w.alloc o) fun e w' => ∃ v', e = .returned v' ∧ Bt w.heap.size w' v' (insT op a b c) ∧ Gr (w.alloc o) w' (.slice none 0 0) v') := fun o =>
  addInstr_any (Bt.nil _ _) (HB.out o).size (hL.on (HB.out o)) hop (fun n hn => by
   rcases List.mem_cons.1 hn with h | hn
   ·exact h ▸ ha
   rcases List.mem_cons.1 hn with h | hn
   ·exact h ▸ hb
   rcases List.mem_cons.1 hn with h | hn
   ·exact h ▸ hc
   ·cases hn) (by simp)
 clear hL
 go_enter Tryz.func42, Tryz.ntmps42
 go_wp2_with fail
 refine (HC.out _).mono ?_
 rintro e w2 ⟨v2, rfl, h2, g2⟩
 have hcv := run_text h2
 have HB2 : Hid (Below w.heap.size w w2) := (HB.out _).trans ((Bt.nil _ _).bel g2 (HB.out _).size)
 clear h2 g2
 go_wp2
 go_ret
 exact ⟨rfl, HB2.out⟩
def writesB (op : Nat) : Bool := [0, 1, 2, 3, 5, 6, 20].contains op || decide (7 ≤ op ∧ op ≤ 14)
def endsB (op : Nat) : Bool := [15, 16, 18, 19].contains op
theorem ends_any (op : Nat) (hop : op < 256) (w : World) : Calls Tryz.prog 48 #[.int .u8 (op : Int)] w fun e w' => e = .returned (.bool (endsB op)) ∧ w' = w := by
 by_cases h0 : op = 15
 ·subst h0; go_enter Tryz.func48, Tryz.ntmps48; go_wp2; go_ret; exact ⟨rfl, rfl⟩
 have e0 : ((op : Int) == 15) = false := by simp; omega
 by_cases h1 : op = 16
 ·subst h1; go_enter Tryz.func48, Tryz.ntmps48; go_wp2; go_ret; exact ⟨rfl, rfl⟩
 have e1 : ((op : Int) == 16) = false := by simp; omega
 by_cases h2 : op = 18
 ·subst h2; go_enter Tryz.func48, Tryz.ntmps48; go_wp2; go_ret; exact ⟨rfl, rfl⟩
 have e2 : ((op : Int) == 18) = false := by simp; omega
 by_cases h3 : op = 19
 ·subst h3; go_enter Tryz.func48, Tryz.ntmps48; go_wp2; go_ret; exact ⟨rfl, rfl⟩
 have e3 : ((op : Int) == 19) = false := by simp; omega
 have hE : Hid (endsB op = false) := Lib.hid (by simp [endsB, h0, h1, h2, h3])
 go_enter Tryz.func48, Tryz.ntmps48
 go_wp2
 go_ret
 exact ⟨ret_bool hE.out.symm, rfl⟩
theorem writes_any (op : Nat) (hop : op < 256) (w : World) : Calls Tryz.prog 46 #[.int .u8 (op : Int)] w fun e w' => e = .returned (.bool (writesB op)) ∧ w' = w := by
 by_cases h : op = 0 ∨ op = 1 ∨ op = 2 ∨ op = 3 ∨ op = 5 ∨ op = 6 ∨ op = 20
 ·rcases h with rfl | rfl | rfl | rfl | rfl | rfl | rfl <;> (go_enter Tryz.func46, Tryz.ntmps46; go_wp2; go_ret; exact ⟨rfl, rfl⟩)
 have e0 : ((op : Int) == 0) = false := by simp; omega
 have e1 : ((op : Int) == 1) = false := by simp; omega
 have e2 : ((op : Int) == 2) = false := by simp; omega
 have e3 : ((op : Int) == 3) = false := by simp; omega
 have e5 : ((op : Int) == 5) = false := by simp; omega
 have e6 : ((op : Int) == 6) = false := by simp; omega
 have e20 : ((op : Int) == 20) = false := by simp; omega
 have hW : Hid (writesB op = decide (7 ≤ op ∧ op ≤ 14)) := Lib.hid (by
  have : [0, 1, 2, 3, 5, 6, 20].contains op = false := by simp; omega
  simp only [writesB, this, Bool.false_or])
 by_cases h7 : 7 ≤ op
 ·have k7 : (7 : Int) ≤ (op : Int) := by omega
  by_cases h14 : op ≤ 14
  ·have k14 : (op : Int) ≤ 14 := by omega
   go_enter Tryz.func46, Tryz.ntmps46
   go_wp2
   go_ret
   exact ⟨ret_bool (by rw [hW.out]; simp [h7, h14]), rfl⟩
  ·have k14 : ¬ ((op : Int) ≤ 14) := by omega
   go_enter Tryz.func46, Tryz.ntmps46
   go_wp2
   go_ret
   exact ⟨ret_bool (by rw [hW.out]; simp [h7, h14]), rfl⟩
 ·have k7 : ¬ ((7 : Int) ≤ (op : Int)) := by omega
  go_enter Tryz.func46, Tryz.ntmps46
  go_wp2
  go_ret
  exact ⟨ret_bool (by rw [hW.out]; simp [h7]), rfl⟩
theorem itoa3 : Lib.itoa 3 = [51] := by unfold Lib.itoa; rw [if_neg (by decide), Lib.decDigits_one (by decide)]; rfl
theorem ins9 : insT 9 1 2 3 = [97, 100, 100, 32, 49, 32, 50, 32, 51] := by
 simp only [insT, numsT, itoa1, itoa2, itoa3]
 rfl
theorem awake9 (w : World) (hL : Lz w) : Calls Tryz.prog 41 #[] w fun e w' => e = .returned (.bool true) ∧ Below w.heap.size w w' := by
 have HL : Hid (Lz w) := hL
 clear hL
 go_enter Tryz.func41, Tryz.ntmps41
 go_wp2_with fail
 refine (awake8 _ HL.out.ly).mono ?_
 rintro e w1 ⟨rfl, b1⟩
 have HB1 : Hid (Below w.heap.size w w1) := b1
 have HL1 : Hid (Lz w1) := HL.out.below b1
 clear b1 HL
 go_wp2_with fail
 refine (insString_any (op := 9) w1 HL1.out.c (by decide) (a := 1) (b := 2) (c := 3) (by unfold InZ; omega) (by unfold InZ; omega) (by unfold InZ; omega)).mono ?_
 rintro e w2 ⟨rfl, b2⟩
 rw [ins9]
 have HB2 : Hid (Below w.heap.size w w2) := HB1.out.trans (b2.mono HB1.out.size)
 clear b2
 go_wp2_with fail
 refine (ends_any 16 (by decide) _).mono ?_
 rintro e w3 ⟨rfl, rfl⟩
 go_wp2_with fail
 refine (writes_any 20 (by decide) _).mono ?_
 rintro e w4 ⟨rfl, rfl⟩
 go_wp2
 go_ret
 exact ⟨rfl, HB2.out⟩
end Go.Proofs.YtenfphbhofibjaaGreatDoor

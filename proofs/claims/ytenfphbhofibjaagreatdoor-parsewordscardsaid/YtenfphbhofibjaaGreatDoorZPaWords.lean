/-
 The law ParseWords.
 Conditions: as each theorem says (the library's variables and the project's tables as they are laid).
-/
import Derived.Test.YtenfphbhofibjaaGreatDoorZAw7
import Derived.Test.YtenfphbhofibjaaGreatDoorZSm
import Derived.BigQuiet
import Derived.Deep.QuietTactic
namespace Go.Proofs.YtenfphbhofibjaaGreatDoor
open Go.RowKit LM TM PM
set_option linter.unusedVariables false
set_option linter.unusedSimpArgs false
def noNames : List Bs := [wLet, wIf, wElse, wWhile, wReturn, wThrow, wTry, wCatch, wFn, wNil, wTrue, wFalse]
def noNamesB : List ByteArray := noNames.map fun s => ⟨s.toArray⟩
structure Lq (w : World) : Prop where
 lw : Lw w
 r : RowVar 0 noNamesB w
theorem Lq.below {w w' : World} (h : Lq w) (hb : Below w.heap.size w w') : Lq w' := ⟨h.lw.below hb, h.r.below hb⟩
theorem reserved_in (s : ByteArray) : (noNamesB.any fun x => decide (x = s)) = reserved s.data.toList := by
 have h : ∀ t : Bs, decide ((⟨t.toArray⟩ : ByteArray) = s) = (s.data.toList == t) := fun t => by
  rw [Bool.eq_iff_iff, decide_eq_true_iff, beq_iff_eq]
  constructor
  ·rintro rfl; rfl
  ·rintro rfl; cases s; rfl
 simp only [noNamesB, noNames, List.map_cons, List.map_nil, List.any_cons, List.any_nil, h, Bool.or_false]
 rfl
theorem reserved_all : ∀ k, k < 12 → reserved (noNames.getD k []) = true := by decide
set_option maxRecDepth 100000 in
set_option maxHeartbeats 4000000 in
theorem parseWords_any (s : ByteArray) (n : Nat) (hn : n ≤ 255) (w : World) (hL : Lq w) : Calls Tryz.prog 5 #[.string s, .int .u8 (n : Int)] w fun e w' => e = .returned (.bool true) ∧ Below w.heap.size w w' := by
 have HL : Hid (Lq w) := hL
 clear hL
 go_enter Tryz.func5, Tryz.ntmps5
 go_wp2_with fail
 refine (awake7 _ HL.out.lw).mono ?_
 rintro e w1 ⟨rfl, b1⟩
 have HB1 : Hid (Below w.heap.size w w1) := b1
 have HL1 : Hid (Lq w1) := HL.out.below b1
 clear b1 HL
 by_cases hs : 30 < s.size
 ·have hd : (30 : Int) < (s.size : Int) := by omega
  go_wp2
  go_ret
  exact ⟨rfl, HB1.out⟩
 ·have hd : ¬ ((30 : Int) < (s.size : Int)) := by omega
  obtain ⟨_, g, o, cap, hv, hc1, hc2, hgl, hst⟩ := HL1.out.r
  have HI : Hid (∀ q, Calls Tryz.prog 26 #[.slice (some ⟨g, o, none⟩) 12 cap, .string s] (w1.drewN q) fun e w' => e = .returned (.bool (reserved s.data.toList)) ∧ w' = w1.drewN q) := fun q => by
   rw [← reserved_in]
   exact containsStrs_any (w := w1.drewN q) (P := fun _ => True) ⟨_, cap, rfl, hc1, hc2, fun _ => ⟨g, o, rfl, trivial, StrAt.kept (w := w1) rfl _ _ hst⟩⟩ s
  have HR : Hid (∀ W, Calls Tryz.prog 25 #[.string s] W fun e w' => e = .returned (.bool (reserved s.data.toList)) ∧ w' = W) := fun W => by
   have := reserved_any s.data.toList W
   cases s; exact this
  have hk : n % 12 < 12 := Nat.mod_lt _ (by decide)
  have hcell : w1.cell? ⟨g, o + n % 12, none⟩ = some (.string ⟨(noNames.getD (n % 12) []).toArray⟩) := by
   refine hst.get (j := n % 12) ?_
   rw [show noNamesB[n % 12]? = (noNames[n % 12]?).map fun s => ⟨s.toArray⟩ from List.getElem?_map .., List.getD_eq_getElem?_getD, List.getElem?_eq_getElem (by exact hk)]
   rfl
  have HA : Hid (∀ W, Calls Tryz.prog 25 #[.string ⟨(noNames.getD (n % 12) []).toArray⟩] W fun e w' => e = .returned (.bool true) ∧ w' = W) := fun W => by
   have := reserved_any (noNames.getD (n % 12) []) W
   rw [reserved_all _ hk] at this
   exact this
  have hmod : (n : Int).tmod 12 = ((n % 12 : Nat) : Int) := rfl
  have hidx : 0 ≤ ((n % 12 : Nat) : Int) ∧ ((n % 12 : Nat) : Int) < 12 := ⟨by omega, by omega⟩
  have hv2 : w1.cell? ⟨0, 0, none⟩ = some (.slice (some ⟨g, o, none⟩) 12 cap) := hv
  clear hst hv
  generalize (⟨(noNames.getD (n % 12) []).toArray⟩ : ByteArray) = y at hcell HA
  generalize n % 12 = m at hcell hmod hidx hk
  generalize reserved s.data.toList = rs at HI HR
  go_wp2_with fail
  go_quiet (first
   | (go_at_call_of 25 (Value.string s); exact Calls.quiet_of_same (HR.out _))
   | (go_at_call_of 25 (Value.string y); exact Calls.quiet_of_same (HA.out _))
   | (go_at_call 26; exact Calls.quiet_of_same (HI.out _)))
  go_wp2
  go_ret
  exact ⟨rfl, ⟨HB1.out.os, HB1.out.tape, HB1.out.output, HB1.out.size, HB1.out.block⟩⟩
end Go.Proofs.YtenfphbhofibjaaGreatDoor

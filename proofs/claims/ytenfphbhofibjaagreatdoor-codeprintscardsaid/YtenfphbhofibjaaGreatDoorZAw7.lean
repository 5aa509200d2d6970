/-
 Parse, of any text that is not too long; the laws' Awake of layer 7.
 Conditions: as each theorem says (the library's variables and the table of signs as they are laid).
-/
import Derived.Test.YtenfphbhofibjaaGreatDoorZPbK
import Derived.Test.YtenfphbhofibjaaGreatDoorZPaParse
import Derived.Test.YtenfphbhofibjaaGreatDoorZTrAwm
set_option maxRecDepth 100000
set_option maxHeartbeats 1000000
set_option linter.unusedVariables false
namespace Go.Proofs.YtenfphbhofibjaaGreatDoor
open Go.RowKit LM TM PM
theorem parsed_ok (s : ByteArray) (hs : s.size ≤ 8192) (w : World) (hL : Lv w) : Calls Tryz.prog 32 #[.string s] w fun en w' => PAns w s en w' := parse_any module_free s hs w hL
theorem parse_is {s : ByteArray} {ts r : List Tok} {l : List TS} (h1 : lexR 0 s.data.toList = .toks ts) (h2 : moduleG ts = .ok l r) (hs : s.size ≤ 8192) (w : World) (hL : Lv w) : Calls Tryz.prog 32 #[.string s] w fun en w' => ∃ v, en = .returned (.tuple #[v, .int .i64 0, .int .i64 0]) ∧ Lie (RS v l) w.heap.size w'.heap.size w' ∧ Below w.heap.size w w' := by
 refine (parsed_ok s hs w hL).mono ?_
 rintro en w' ⟨hb, h⟩
 rw [h1] at h
 simp only [h2] at h
 obtain ⟨v, h3, h4⟩ := h
 exact ⟨v, h3, h4, hb⟩
def tks7 : List Tok := [⟨1, [120], 0, 0⟩, ⟨4, [46], 0, 1⟩, ⟨1, [121], 0, 2⟩, ⟨4, [61], 0, 4⟩, ⟨4, [45], 0, 6⟩, ⟨2, [49], 1, 7⟩, ⟨4, [59], 0, 8⟩, ⟨0, [], 0, 9⟩]
def st7 : TS := .mk 2 ⟨#[]⟩ [.mk 5 0 ⟨#[120]⟩ [] [] [], .mk 4 0 ⟨#[121]⟩ [] [] [], .mk 6 0 ⟨#[]⟩ [.mk 3 1 ⟨#[]⟩ [] [] []] [] []] [] [] 0
theorem lex_7 : lexR 0 [120, 46, 121, 32, 61, 32, 45, 49, 59] = .toks tks7 := by rfl
theorem mod_7 : moduleG tks7 = .ok [st7] [⟨0, [], 0, 9⟩] := by kernel_rfl
theorem awake7 (w : World) (hL : Lw w) : Calls Tryz.prog 24 #[] w fun e w' => e = .returned (.bool true) ∧ Below w.heap.size w w' := by
 have HL : Hid (Lw w) := hL
 clear hL
 go_enter Tryz.func24, Tryz.ntmps24
 go_wp2_with fail
 refine (awake6 _ HL.out).mono ?_
 rintro e w1 ⟨rfl, b1⟩
 have HB1 : Hid (Below w.heap.size w w1) := b1
 have HL1 : Hid (Lw w1) := HL.out.below b1
 clear b1 HL
 go_wp2_with fail
 refine (parse_is (s := ⟨#[120, 46, 121, 32, 61, 32, 45, 49, 59]⟩) lex_7 mod_7 (by decide) w1 HL1.out.v).mono ?_
 rintro e w2 ⟨v, rfl, hL, b2⟩
 have HB2 : Hid (Below w.heap.size w w2) := HB1.out.trans (b2.mono HB1.out.size)
 obtain ⟨ad, cap, rfl, hc1, hc2, hg⟩ := hL.at'
 obtain ⟨g, o, rfl, _, ⟨va, vb, vc, hcell, hin⟩, _⟩ := hg (by decide)
 obtain ⟨_, ⟨ad2, cap2, rfl, hc3, hc4, hg2⟩, ⟨ad3, cap3, rfl, _⟩, ⟨ad4, cap4, rfl, _⟩⟩ := hin
 obtain ⟨g2, o2, rfl, _, _, ⟨va2, vb2, vc2, hcell2, _⟩, _⟩ := hg2 (by decide)
 obtain ⟨q0, q1, q2, q3, q4, q5⟩ := hcell
 obtain ⟨r0, r1, r2, r3, r4, r5⟩ := hcell2
 have R1 : Hid (∀ W, Calls Tryz.prog 25 #[.string ⟨#[102, 110]⟩] W fun en w' => en = .returned (.bool true) ∧ w' = W) := fun W => reserved_any [102, 110] W
 have R2 : Hid (∀ W, Calls Tryz.prog 25 #[.string ⟨#[108, 101, 110]⟩] W fun en w' => en = .returned (.bool false) ∧ w' = W) := fun W => reserved_any [108, 101, 110] W
 clear b2 hL hg hg2 HB1 HL1
 simp only [List.length_cons, List.length_nil, Nat.zero_add, Nat.reduceAdd] at *
 unfold maxLen at hc2 hc4
 go_wp2_with fail
 refine (R1.out _).mono ?_
 rintro e w ⟨rfl, rfl⟩
 go_wp2_with fail
 refine (R2.out _).mono ?_
 rintro e w ⟨rfl, rfl⟩
 go_wp2
 go_ret
 exact ⟨rfl, HB2.out⟩
end Go.Proofs.YtenfphbhofibjaaGreatDoor

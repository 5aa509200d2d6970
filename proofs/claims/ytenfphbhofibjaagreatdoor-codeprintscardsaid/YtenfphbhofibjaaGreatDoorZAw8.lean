/-
 Package scope's words; the laws' Awake of layer 8.
 Conditions: as each theorem says (the library's variables and the project's tables as they are laid).
-/
import Derived.Test.YtenfphbhofibjaaGreatDoorZAw7
import Derived.Test.YtenfphbhofibjaaGreatDoorZFd
import Derived.Test.YtenfphbhofibjaaGreatDoorZSm
set_option maxRecDepth 100000
set_option maxHeartbeats 2000000
set_option linter.unusedVariables false
set_option linter.unusedSimpArgs false
namespace Go.Proofs.YtenfphbhofibjaaGreatDoor
open Go.RowKit LM TM PM
def wordT : List Bs := [[108, 101, 110], [102, 114, 101, 101, 122, 101], [102, 114, 111, 122, 101, 110], [98, 114, 97, 110, 100], [107, 105, 110, 100], [116, 101, 120, 116]]
structure Ly (w : World) : Prop where
 lw : Lw w
 lt : 1 < w.heap.size
 words : ∀ i, i < 6 → w.cell? ⟨1, i, none⟩ = some (.string ⟨(wordT.getD i []).toArray⟩)
theorem Ly.below {w w' : World} (h : Ly w) (hb : Below w.heap.size w w') : Ly w' :=
 ⟨h.lw.below hb, Nat.lt_of_lt_of_le h.lt hb.size, fun i hi => (cell_kept (hb.block _ h.lt)).trans (h.words i hi)⟩
def wordAt (s : ByteArray) : Nat := wordT.findIdx fun x => decide ((⟨x.toArray⟩ : ByteArray) = s)
def wordZ (s : ByteArray) : Int := if wordAt s < 6 then (wordAt s : Int) else -1
theorem index6_0 (s0 s1 s2 s3 s4 s5 : ByteArray) (w : World) : (Instr.index 111 (.agg #[.string s0, .string s1, .string s2, .string s3, .string s4, .string s5]) (.int .i64 0)).run Tryz.prog w = .ok (.string s0) w := by kernel_rfl
theorem index6_1 (s0 s1 s2 s3 s4 s5 : ByteArray) (w : World) : (Instr.index 111 (.agg #[.string s0, .string s1, .string s2, .string s3, .string s4, .string s5]) (.int .i64 1)).run Tryz.prog w = .ok (.string s1) w := by kernel_rfl
theorem index6_2 (s0 s1 s2 s3 s4 s5 : ByteArray) (w : World) : (Instr.index 111 (.agg #[.string s0, .string s1, .string s2, .string s3, .string s4, .string s5]) (.int .i64 2)).run Tryz.prog w = .ok (.string s2) w := by kernel_rfl
theorem index6_3 (s0 s1 s2 s3 s4 s5 : ByteArray) (w : World) : (Instr.index 111 (.agg #[.string s0, .string s1, .string s2, .string s3, .string s4, .string s5]) (.int .i64 3)).run Tryz.prog w = .ok (.string s3) w := by kernel_rfl
theorem index6_4 (s0 s1 s2 s3 s4 s5 : ByteArray) (w : World) : (Instr.index 111 (.agg #[.string s0, .string s1, .string s2, .string s3, .string s4, .string s5]) (.int .i64 4)).run Tryz.prog w = .ok (.string s4) w := by kernel_rfl
theorem index6_5 (s0 s1 s2 s3 s4 s5 : ByteArray) (w : World) : (Instr.index 111 (.agg #[.string s0, .string s1, .string s2, .string s3, .string s4, .string s5]) (.int .i64 5)).run Tryz.prog w = .ok (.string s5) w := by kernel_rfl
theorem wordAt_step {s : ByteArray} {k : Nat} (h : k ≤ wordAt s) (hk : k < 6) (hn : (⟨(wordT.getD k []).toArray⟩ : ByteArray) ≠ s) : k + 1 ≤ wordAt s := by
 rcases Nat.lt_or_ge k (wordAt s) with h1 | h1
 ·exact h1
 ·obtain rfl : wordAt s = k := by omega
  exfalso
  apply hn
  have hl : wordAt s < wordT.length := hk
  have := List.findIdx_getElem (xs := wordT) (p := fun x : Bs => decide ((⟨x.toArray⟩ : ByteArray) = s)) (w := hl)
  have h2 := of_decide_eq_true this
  rw [List.getD_eq_getElem?_getD, List.getElem?_eq_getElem hl]
  exact h2
theorem wordAt_hit {s : ByteArray} {k : Nat} (h : k ≤ wordAt s) (hk : k < 6) (he : (⟨(wordT.getD k []).toArray⟩ : ByteArray) = s) : wordZ s = k := by
 have h1 : wordAt s ≤ k := by
  rcases Nat.lt_or_ge k (wordAt s) with h1 | h1
  ·have h2 := List.not_of_lt_findIdx (p := fun x => decide ((⟨x.toArray⟩ : ByteArray) = s)) (xs := wordT) h1
   have hl : k < wordT.length := hk
   rw [List.getD_eq_getElem?_getD, List.getElem?_eq_getElem hl] at he
   simp at h2
   exact absurd he h2
  ·exact h1
 obtain rfl : wordAt s = k := by omega
 simp [wordZ, hk]
theorem wordAt_none {s : ByteArray} (h : 6 ≤ wordAt s) : wordZ s = -1 := by simp [wordZ]; omega
theorem word_any (s : ByteArray) (w : World) (hL : Ly w) : Calls Tryz.prog 34 #[.string s] w fun e w' => e = .returned (.int .i64 (wordZ s)) ∧ w' = w := by
 have c0 := hL.words 0 (by decide)
 have c1 := hL.words 1 (by decide)
 have c2 := hL.words 2 (by decide)
 have c3 := hL.words 3 (by decide)
 have c4 := hL.words 4 (by decide)
 have c5 := hL.words 5 (by decide)
 simp only [wordT, List.getD_cons_zero, List.getD_cons_succ] at c0 c1 c2 c3 c4 c5
 clear hL
 go_enter Tryz.func34, Tryz.ntmps34
 go_wp2_with fail
 go_loopw [6] (fun i wr => ∃ k : Nat, i = .int .i64 (k : Int) ∧ k ≤ 6 ∧ wr = w ∧ Hid (k ≤ wordAt s)) (fun i _ => 6 - (intOf i).toNat)
 case atStart => exact ⟨0, rfl, Nat.zero_le _, rfl, Nat.zero_le _⟩
 case round =>
  obtain ⟨k, rfl, hk, rfl, HK⟩ := hrel
  rcases (show k = 0 ∨ k = 1 ∨ k = 2 ∨ k = 3 ∨ k = 4 ∨ k = 5 ∨ k = 6 from by omega) with rfl | rfl | rfl | rfl | rfl | rfl | rfl
  ·have hix := index6_0 ⟨#[108, 101, 110]⟩ ⟨#[102, 114, 101, 101, 122, 101]⟩ ⟨#[102, 114, 111, 122, 101, 110]⟩ ⟨#[98, 114, 97, 110, 100]⟩ ⟨#[107, 105, 110, 100]⟩ ⟨#[116, 101, 120, 116]⟩
   by_cases he : (⟨#[108, 101, 110]⟩ : ByteArray) = s
   ·have HZ : Hid (wordZ s = 0) := wordAt_hit HK.out (by decide) he
    subst he
    go_wp2
    go_ret
    exact ⟨ret_int HZ.out.symm, rfl⟩
   ·have HZ : Hid (1 ≤ wordAt s) := wordAt_step HK.out (by decide) he
    have hne : ([108, 101, 110] == s.toList) = false := by have h9 := str_ne he; rw [ByteArray.toList_eq] at h9; exact h9
    go_wp2_with fail
    go_roundw
    case rel => exact ⟨1, by go_num, by decide, trivial, HZ⟩
    case measure => simp [intOf]
  ·have hix := index6_1 ⟨#[108, 101, 110]⟩ ⟨#[102, 114, 101, 101, 122, 101]⟩ ⟨#[102, 114, 111, 122, 101, 110]⟩ ⟨#[98, 114, 97, 110, 100]⟩ ⟨#[107, 105, 110, 100]⟩ ⟨#[116, 101, 120, 116]⟩
   by_cases he : (⟨#[102, 114, 101, 101, 122, 101]⟩ : ByteArray) = s
   ·have HZ : Hid (wordZ s = 1) := wordAt_hit HK.out (by decide) he
    subst he
    go_wp2
    go_ret
    exact ⟨ret_int HZ.out.symm, rfl⟩
   ·have HZ : Hid (2 ≤ wordAt s) := wordAt_step HK.out (by decide) he
    have hne : ([102, 114, 101, 101, 122, 101] == s.toList) = false := by have h9 := str_ne he; rw [ByteArray.toList_eq] at h9; exact h9
    go_wp2_with fail
    go_roundw
    case rel => exact ⟨2, by go_num, by decide, trivial, HZ⟩
    case measure => simp [intOf]
  ·have hix := index6_2 ⟨#[108, 101, 110]⟩ ⟨#[102, 114, 101, 101, 122, 101]⟩ ⟨#[102, 114, 111, 122, 101, 110]⟩ ⟨#[98, 114, 97, 110, 100]⟩ ⟨#[107, 105, 110, 100]⟩ ⟨#[116, 101, 120, 116]⟩
   by_cases he : (⟨#[102, 114, 111, 122, 101, 110]⟩ : ByteArray) = s
   ·have HZ : Hid (wordZ s = 2) := wordAt_hit HK.out (by decide) he
    subst he
    go_wp2
    go_ret
    exact ⟨ret_int HZ.out.symm, rfl⟩
   ·have HZ : Hid (3 ≤ wordAt s) := wordAt_step HK.out (by decide) he
    have hne : ([102, 114, 111, 122, 101, 110] == s.toList) = false := by have h9 := str_ne he; rw [ByteArray.toList_eq] at h9; exact h9
    go_wp2_with fail
    go_roundw
    case rel => exact ⟨3, by go_num, by decide, trivial, HZ⟩
    case measure => simp [intOf]
  ·have hix := index6_3 ⟨#[108, 101, 110]⟩ ⟨#[102, 114, 101, 101, 122, 101]⟩ ⟨#[102, 114, 111, 122, 101, 110]⟩ ⟨#[98, 114, 97, 110, 100]⟩ ⟨#[107, 105, 110, 100]⟩ ⟨#[116, 101, 120, 116]⟩
   by_cases he : (⟨#[98, 114, 97, 110, 100]⟩ : ByteArray) = s
   ·have HZ : Hid (wordZ s = 3) := wordAt_hit HK.out (by decide) he
    subst he
    go_wp2
    go_ret
    exact ⟨ret_int HZ.out.symm, rfl⟩
   ·have HZ : Hid (4 ≤ wordAt s) := wordAt_step HK.out (by decide) he
    have hne : ([98, 114, 97, 110, 100] == s.toList) = false := by have h9 := str_ne he; rw [ByteArray.toList_eq] at h9; exact h9
    go_wp2_with fail
    go_roundw
    case rel => exact ⟨4, by go_num, by decide, trivial, HZ⟩
    case measure => simp [intOf]
  ·have hix := index6_4 ⟨#[108, 101, 110]⟩ ⟨#[102, 114, 101, 101, 122, 101]⟩ ⟨#[102, 114, 111, 122, 101, 110]⟩ ⟨#[98, 114, 97, 110, 100]⟩ ⟨#[107, 105, 110, 100]⟩ ⟨#[116, 101, 120, 116]⟩
   by_cases he : (⟨#[107, 105, 110, 100]⟩ : ByteArray) = s
   ·have HZ : Hid (wordZ s = 4) := wordAt_hit HK.out (by decide) he
    subst he
    go_wp2
    go_ret
    exact ⟨ret_int HZ.out.symm, rfl⟩
   ·have HZ : Hid (5 ≤ wordAt s) := wordAt_step HK.out (by decide) he
    have hne : ([107, 105, 110, 100] == s.toList) = false := by have h9 := str_ne he; rw [ByteArray.toList_eq] at h9; exact h9
    go_wp2_with fail
    go_roundw
    case rel => exact ⟨5, by go_num, by decide, trivial, HZ⟩
    case measure => simp [intOf]
  ·have hix := index6_5 ⟨#[108, 101, 110]⟩ ⟨#[102, 114, 101, 101, 122, 101]⟩ ⟨#[102, 114, 111, 122, 101, 110]⟩ ⟨#[98, 114, 97, 110, 100]⟩ ⟨#[107, 105, 110, 100]⟩ ⟨#[116, 101, 120, 116]⟩
   by_cases he : (⟨#[116, 101, 120, 116]⟩ : ByteArray) = s
   ·have HZ : Hid (wordZ s = 5) := wordAt_hit HK.out (by decide) he
    subst he
    go_wp2
    go_ret
    exact ⟨ret_int HZ.out.symm, rfl⟩
   ·have HZ : Hid (6 ≤ wordAt s) := wordAt_step HK.out (by decide) he
    have hne : ([116, 101, 120, 116] == s.toList) = false := by have h9 := str_ne he; rw [ByteArray.toList_eq] at h9; exact h9
    go_wp2_with fail
    go_roundw
    case rel => exact ⟨6, by go_num, by decide, trivial, HZ⟩
    case measure => simp [intOf]
  ·go_wp2
   go_ret
   exact ⟨ret_int (wordAt_none HK.out).symm, rfl⟩
def tks8 : List Tok := [⟨1, [102, 110], 0, 0⟩, ⟨4, [40], 0, 2⟩, ⟨1, [97], 0, 3⟩, ⟨4, [41], 0, 4⟩, ⟨4, [123], 0, 6⟩, ⟨1, [114, 101, 116, 117, 114, 110], 0, 8⟩, ⟨1, [97], 0, 15⟩, ⟨4, [43], 0, 17⟩, ⟨1, [98], 0, 19⟩, ⟨4, [59], 0, 20⟩, ⟨4, [125], 0, 22⟩, ⟨4, [59], 0, 23⟩, ⟨0, [], 0, 24⟩]
def rt8 : TS := .mk 5 ⟨#[]⟩ [.mk 8 0 ⟨#[]⟩ [.mk 5 0 ⟨#[97]⟩ [] [] [], .mk 5 0 ⟨#[98]⟩ [] [] []] [] []] [] [] 8
def fn8 : TE := .mk 17 0 ⟨#[]⟩ [] [⟨#[97]⟩] [rt8]
def st8 : TS := .mk 8 ⟨#[]⟩ [fn8] [] [] 0
theorem lex_8 : lexR 0 [102, 110, 40, 97, 41, 32, 123, 32, 114, 101, 116, 117, 114, 110, 32, 97, 32, 43, 32, 98, 59, 32, 125, 59] = .toks tks8 := by rfl
theorem mod_8 : moduleG tks8 = .ok [st8] [⟨0, [], 0, 24⟩] := by kernel_rfl
theorem fr_8 : frSs [rt8] [⟨#[97]⟩] [] = [⟨#[98]⟩] := by decide
theorem awake8 (w : World) (hL : Ly w) : Calls Tryz.prog 27 #[] w fun e w' => e = .returned (.bool true) ∧ Below w.heap.size w w' := by
 have HL : Hid (Ly w) := hL
 clear hL
 go_enter Tryz.func27, Tryz.ntmps27
 go_wp2_with fail
 refine (awake7 _ HL.out.lw).mono ?_
 rintro e w1 ⟨rfl, b1⟩
 have HB1 : Hid (Below w.heap.size w w1) := b1
 have HL1 : Hid (Ly w1) := HL.out.below b1
 clear b1 HL
 go_wp2_with fail
 refine (parse_is (s := ⟨#[102, 110, 40, 97, 41, 32, 123, 32, 114, 101, 116, 117, 114, 110, 32, 97, 32, 43, 32, 98, 59, 32, 125, 59]⟩) lex_8 mod_8 (by decide) w1 HL1.out.lw.v).mono ?_
 rintro e w2 ⟨v, rfl, hL, b2⟩
 have HB2 : Hid (Below w.heap.size w w2) := HB1.out.trans (b2.mono HB1.out.size)
 have HL2 : Hid (Ly w2) := HL1.out.below b2
 have hL3 := hL.at'
 obtain ⟨ad, cap, rfl, hc1, hc2, hg⟩ := hL3
 obtain ⟨g, o, rfl, hgP, ⟨va, vb, vc, hcell, hin⟩, _⟩ := hg (by decide)
 obtain ⟨_, ⟨ad2, cap2, rfl, hc3, hc4, hg2⟩, ⟨ad3, cap3, rfl, _⟩, ⟨ad4, cap4, rfl, _⟩⟩ := hin
 obtain ⟨g2, o2, rfl, hg2P, ⟨va2, vb2, vc2, hcell2, hin2⟩, _⟩ := hg2 (by decide)
 have HIN : Hid (EIn (· < w2.heap.size) w2 fn8 va2 vb2 vc2) := EIn.kept (fun k hk => ⟨hk.2, rfl⟩) fn8 hin2
 obtain ⟨_, ⟨pa1, pc1, rfl, _⟩, ⟨na1, nc1, rfl, _⟩, ⟨ba1, bc1, rfl, _⟩⟩ := hin2
 obtain ⟨q0, q1, q2, q3, q4, q5⟩ := hcell
 obtain ⟨r0, r1, r2, r3, r4, r5⟩ := hcell2
 clear b2 hL hg hg2 HB1 HL1
 simp only [List.length_cons, List.length_nil, Nat.zero_add, Nat.reduceAdd] at *
 unfold maxLen at hc2 hc4
 go_wp2_with fail
 refine (fdFree_any (op := 17) (num := 0) (text := ⟨#[]⟩) (ps := []) (pm := [⟨#[97]⟩]) (bd := [rt8]) HIN.out (by decide)).mono ?_
 rintro e w3 ⟨v3, rfl, hown, b3⟩
 rw [fr_8] at hown
 obtain ⟨g3, cap5, cur5, rfl, hc6, hc5, _, hblk⟩ := row_at hown (by decide)
 have HB3 : Hid (Below w.heap.size w w3) := HB2.out.trans (b3.mono HB2.out.size)
 have HL3 : Hid (Ly w3) := HL2.out.below b3
 have hs3 : w3.cell? ⟨g3, 0, none⟩ = some (.string ⟨#[98]⟩) := rcells9 hown 0 _ rfl
 have hg3 : g3 < w3.heap.size := lt_of_block hblk
 have HE : Hid (∀ o, Calls Tryz.prog 29 #[.slice (some ⟨g3, 0, none⟩) 1 cap5, .slice (some ⟨w3.heap.size, 0, none⟩) 1 1] (w3.alloc (.cells #[.string ⟨#[98]⟩] 9)) fun e w' => e = .returned (.bool true) ∧ Below (w3.alloc o).heap.size (w3.alloc (.cells #[.string ⟨#[98]⟩] 9)) w') := fun o => by
  have := eqStrs (l := [⟨#[98]⟩]) (m := [⟨#[98]⟩]) (w := w3.alloc (.cells #[.string ⟨#[98]⟩] 9)) (v := .slice (some ⟨g3, 0, none⟩) 1 cap5) (v' := .slice (some ⟨w3.heap.size, 0, none⟩) 1 1) ⟨_, cap5, rfl, hc6, hc5, fun _ => ⟨g3, 0, rfl, by simp; omega, (cell_kept (Below.heap_alloc _ _ _ hg3)).trans hs3, trivial⟩⟩ ⟨_, 1, rfl, by decide, by decide, fun _ => ⟨w3.heap.size, 0, rfl, by simp, by have h9 := one_newF (w := w3) (x := .string ⟨#[98]⟩) (t := 9) 0 _ rfl; exact h9, trivial⟩⟩
  refine this.mono ?_
  rintro e w' ⟨rfl, hb⟩
  exact ⟨rfl, by simpa using hb⟩
 clear hown b3 hs3
 go_wp2_with fail
 refine (HE.out (.cells #[] 0)).mono ?_
 rintro e w4 ⟨rfl, b4⟩
 have HB4 : Hid (Below w.heap.size w w4) := (HB3.out.alloc HB3.out.size _).trans (b4.mono (by have := HB3.out.size; simp; omega))
 have HL4 : Hid (Ly w4) := (HL3.out.below ((Below.refl _ _).alloc (Nat.le_refl _) _)).below (by simpa using b4)
 have HZ : Hid (wordZ ⟨#[108, 101, 110]⟩ = 0) := Lib.hid (by decide)
 clear b4 HE
 go_wp2_with fail
 refine (word_any _ _ HL4.out).mono ?_
 rintro e w5 ⟨rfl, rfl⟩
 have hz := HZ.out
 generalize wordZ ⟨#[108, 101, 110]⟩ = z at hz ⊢
 subst hz
 go_wp2
 go_ret
 exact ⟨rfl, HB4.out⟩
end Go.Proofs.YtenfphbhofibjaaGreatDoor

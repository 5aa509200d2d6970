/-
 The laws' Awake of layer 6; a byte as a text; the laws' quote.
 Conditions: as each theorem says (the library's variables and the table of signs as they are laid).
-/
import Derived.Test.YtenfphbhofibjaaGreatDoorZTm
import Derived.Test.YtenfphbhofibjaaGreatDoorZLx6
set_option maxRecDepth 100000
set_option maxHeartbeats 1000000
set_option linter.unusedVariables false
namespace Go.Proofs.YtenfphbhofibjaaGreatDoor
open Go.RowKit TM
structure Lw (w : World) : Prop where
 v : Lv w
 g : Lg w.heap.size w
theorem Lg.wide {B B2 : Nat} {w : World} (h : Lg B w) (hB : B ≤ B2) : Lg B2 w :=
 ⟨fun w' hb => h.tab w' (hb.mono hB), Nat.lt_of_lt_of_le h.lt hB, h.signs⟩
theorem Lw.below {w w' : World} (h : Lw w) (hb : Below w.heap.size w w') : Lw w' := ⟨h.v.below hb, (h.g.on hb).wide hb.size⟩
def exA : TE := .mk 5 0 ⟨#[97]⟩ [] [] []
def exK : TE := .mk 4 0 ⟨#[107]⟩ [] [] []
def ex1 : TE := .mk 3 1 ⟨#[]⟩ [] [] []
def ex2 : TE := .mk 3 2 ⟨#[]⟩ [] [] []
def exP : TE := .mk 8 0 ⟨#[]⟩ [ex1, ex2] [] []
def stA : TS := .mk 2 ⟨#[]⟩ [exA, exK, exP] [] [] 0
theorem itoa1 : Lib.itoa 1 = [49] := by unfold Lib.itoa; rw [if_neg (by decide), Lib.decDigits_one (by decide)]; rfl
theorem itoa2 : Lib.itoa 2 = [50] := by unfold Lib.itoa; rw [if_neg (by decide), Lib.decDigits_one (by decide)]; rfl
theorem tx_stA : txS stA = [97, 91, 34, 107, 34, 93, 32, 61, 32, 40, 49, 32, 43, 32, 50, 41, 59, 10] := by
 have e1 : txE ex1 = [49] := by show Lib.itoa 1 = _; exact itoa1
 have e2 : txE ex2 = [50] := by show Lib.itoa 2 = _; exact itoa2
 have e3 : txE exP = binT [43] [txE ex1, txE ex2] := rfl
 have e4 : txS stA = fieldT [txE exA, txE exK, txE exP] ++ [32, 61, 32] ++ txE exP ++ [59] ++ [10] := rfl
 rw [e4, e3, e1, e2]
 rfl
theorem stA_in {w : World} {g1 g2 : Nat} (hg1 : g1 < w.heap.size) (hg2 : g2 < w.heap.size)
 (h1 : w.heap[g1]? = some (.cells #[.int .i64 3, .int .i64 1, .string ⟨#[]⟩, .slice none 0 0, .slice none 0 0, .slice none 0 0, .int .i64 3, .int .i64 2, .string ⟨#[]⟩, .slice none 0 0, .slice none 0 0, .slice none 0 0] 35 (0, 0)))
 (h2 : w.heap[g2]? = some (.cells #[.int .i64 5, .int .i64 0, .string ⟨#[97]⟩, .slice none 0 0, .slice none 0 0, .slice none 0 0, .int .i64 4, .int .i64 0, .string ⟨#[107]⟩, .slice none 0 0, .slice none 0 0, .slice none 0 0, .int .i64 8, .int .i64 0, .string ⟨#[]⟩, .slice (some ⟨g1, 0, none⟩) 2 2, .slice none 0 0, .slice none 0 0] 35 (0, 0))) :
 SIn (· < w.heap.size) w stA (.slice (some ⟨g2, 0, none⟩) 3 3) (.slice none 0 0) (.slice none 0 0) := by
 have c1 : ∀ i, w.cell? ⟨g1, i, none⟩ = (#[.int .i64 3, .int .i64 1, .string ⟨#[]⟩, .slice none 0 0, .slice none 0 0, .slice none 0 0, .int .i64 3, .int .i64 2, .string ⟨#[]⟩, .slice none 0 0, .slice none 0 0, .slice none 0 0] : Array Value)[i]? := fun i => by simp [World.cell?, h1]
 have c2 : ∀ i, w.cell? ⟨g2, i, none⟩ = (#[.int .i64 5, .int .i64 0, .string ⟨#[97]⟩, .slice none 0 0, .slice none 0 0, .slice none 0 0, .int .i64 4, .int .i64 0, .string ⟨#[107]⟩, .slice none 0 0, .slice none 0 0, .slice none 0 0, .int .i64 8, .int .i64 0, .string ⟨#[]⟩, .slice (some ⟨g1, 0, none⟩) 2 2, .slice none 0 0, .slice none 0 0] : Array Value)[i]? := fun i => by simp [World.cell?, h2]
 have leaf : ∀ (op : Nat) (num : Int) (t : ByteArray), op ≤ 17 → 0 ≤ num → num ≤ 9223372036854775807 → EIn (· < w.heap.size) w (.mk op num t [] [] []) (.slice none 0 0) (.slice none 0 0) (.slice none 0 0) := fun op num t a b c => ⟨⟨a, b, c⟩, slNil _ _, slNil _ _, slNil _ _⟩
 refine ⟨by decide, ⟨_, _, rfl, by decide, by simp [maxLen], fun _ => ⟨g2, 0, rfl, hg2, ?_⟩⟩, slNil _ _, slNil _ _⟩
 refine ⟨⟨_, _, _, ⟨c2 0, c2 1, c2 2, c2 3, c2 4, c2 5⟩, leaf _ _ _ (by decide) (by decide) (by decide)⟩, ⟨_, _, _, ⟨c2 6, c2 7, c2 8, c2 9, c2 10, c2 11⟩, leaf _ _ _ (by decide) (by decide) (by decide)⟩, ⟨_, _, _, ⟨c2 12, c2 13, c2 14, c2 15, c2 16, c2 17⟩, ?_⟩, trivial⟩
 refine ⟨⟨by decide, by decide, by decide⟩, ⟨_, _, rfl, by decide, by simp [maxLen], fun _ => ⟨g1, 0, rfl, hg1, ?_⟩⟩, slNil _ _, slNil _ _⟩
 exact ⟨⟨_, _, _, ⟨c1 0, c1 1, c1 2, c1 3, c1 4, c1 5⟩, leaf _ _ _ (by decide) (by decide) (by decide)⟩, ⟨_, _, _, ⟨c1 6, c1 7, c1 8, c1 9, c1 10, c1 11⟩, leaf _ _ _ (by decide) (by decide) (by decide)⟩, trivial⟩
theorem awake6 (w : World) (hL : Lw w) : Calls Tryz.prog 15 #[] w fun e w' => e = .returned (.bool true) ∧ Below w.heap.size w w' := by
 have HL : Hid (Lw w) := hL
 clear hL
 go_enter Tryz.func15, Tryz.ntmps15
 go_wp2_with fail
 refine (awake5 _ HL.out.v).mono ?_
 rintro e w1 ⟨rfl, b1⟩
 have HB1 : Hid (Below w.heap.size w w1) := b1
 have HL1 : Hid (Lw w1) := HL.out.below b1
 clear b1 HL
 go_wp2_with fail
 obtain ⟨W, hW⟩ : ∃ W, W = ((w1.alloc (.cells #[.int .i64 3, .int .i64 1, .string ⟨#[]⟩, .slice none 0 0, .slice none 0 0, .slice none 0 0, .int .i64 3, .int .i64 2, .string ⟨#[]⟩, .slice none 0 0, .slice none 0 0, .slice none 0 0] 35)).alloc (.cells #[.int .i64 5, .int .i64 0, .string ⟨#[97]⟩, .slice none 0 0, .slice none 0 0, .slice none 0 0, .int .i64 4, .int .i64 0, .string ⟨#[107]⟩, .slice none 0 0, .slice none 0 0, .slice none 0 0, .int .i64 8, .int .i64 0, .string ⟨#[]⟩, .slice (some ⟨w1.heap.size, 0, none⟩) 2 2, .slice none 0 0, .slice none 0 0] 35)).alloc (.cells #[.int .i64 2, .string ⟨#[]⟩, .slice (some ⟨w1.heap.size + 1, 0, none⟩) 3 3, .slice none 0 0, .slice none 0 0, .int .i64 0] 30) := ⟨_, rfl⟩
 have h1 : W.heap[w1.heap.size]? = some (.cells #[.int .i64 3, .int .i64 1, .string ⟨#[]⟩, .slice none 0 0, .slice none 0 0, .slice none 0 0, .int .i64 3, .int .i64 2, .string ⟨#[]⟩, .slice none 0 0, .slice none 0 0, .slice none 0 0] 35 (0, 0)) := by rw [hW]; exact block_alloc (block_alloc (heap_alloc_new w1 _) _) _
 have h2 : W.heap[w1.heap.size + 1]? = some (.cells #[.int .i64 5, .int .i64 0, .string ⟨#[97]⟩, .slice none 0 0, .slice none 0 0, .slice none 0 0, .int .i64 4, .int .i64 0, .string ⟨#[107]⟩, .slice none 0 0, .slice none 0 0, .slice none 0 0, .int .i64 8, .int .i64 0, .string ⟨#[]⟩, .slice (some ⟨w1.heap.size, 0, none⟩) 2 2, .slice none 0 0, .slice none 0 0] 35 (0, 0)) := by
  rw [hW]
  refine block_alloc ?_ _
  have := heap_alloc_new (w1.alloc (.cells #[.int .i64 3, .int .i64 1, .string ⟨#[]⟩, .slice none 0 0, .slice none 0 0, .slice none 0 0, .int .i64 3, .int .i64 2, .string ⟨#[]⟩, .slice none 0 0, .slice none 0 0, .slice none 0 0] 35)) (.cells #[.int .i64 5, .int .i64 0, .string ⟨#[97]⟩, .slice none 0 0, .slice none 0 0, .slice none 0 0, .int .i64 4, .int .i64 0, .string ⟨#[107]⟩, .slice none 0 0, .slice none 0 0, .slice none 0 0, .int .i64 8, .int .i64 0, .string ⟨#[]⟩, .slice (some ⟨w1.heap.size, 0, none⟩) 2 2, .slice none 0 0, .slice none 0 0] 35)
  rwa [show (w1.alloc (.cells #[.int .i64 3, .int .i64 1, .string ⟨#[]⟩, .slice none 0 0, .slice none 0 0, .slice none 0 0, .int .i64 3, .int .i64 2, .string ⟨#[]⟩, .slice none 0 0, .slice none 0 0, .slice none 0 0] 35)).heap.size = w1.heap.size + 1 from by simp] at this
 have hBW : Below w1.heap.size w1 W := by rw [hW]; exact (((Below.refl _ _).alloc (Nat.le_refl _) _).alloc (by simp) _).alloc (by simp; omega) _
 have hc := stmtString_put (name := ⟨#[]⟩) (exprs := [exA, exK, exP]) (body := []) (els := []) (pos := 0) (by simp [exA, exK, exP, ex1, ex2, Pl, PlL]) (HL1.out.below hBW).g (stA_in (lt_of_block h1) (lt_of_block h2) h1 h2) (by show (txS stA).length ≤ _; rw [tx_stA]; decide)
 rw [show (TS.mk 2 ⟨#[]⟩ [exA, exK, exP] [] [] 0) = stA from rfl, tx_stA] at hc
 have HC : Hid (Calls Tryz.prog 19 #[.agg #[.int .i64 2, .string ⟨#[]⟩, .slice (some ⟨w1.heap.size + 1, 0, none⟩) 3 3, .slice none 0 0, .slice none 0 0, .int .i64 0]] W fun e w' => e = .returned (.string ⟨#[97, 91, 34, 107, 34, 93, 32, 61, 32, 40, 49, 32, 43, 32, 50, 41, 59, 10]⟩) ∧ Below W.heap.size W w') := hc
 have HB2 : Hid (Below w.heap.size w W) := HB1.out.trans (hBW.mono HB1.out.size)
 rw [← hW]
 clear hW h1 h2 hBW hc HL1
 refine HC.out.mono ?_
 rintro e w2 ⟨rfl, b2⟩
 have HB3 : Hid (Below w.heap.size w w2) := HB2.out.trans (b2.mono HB2.out.size)
 clear b2 HC
 go_wp2
 go_ret
 exact ⟨rfl, HB3.out⟩
theorem run_byte_text (c : UInt8) (W : World) : (convert 47 9 (.slice (some ⟨W.heap.size, 0, none⟩) 1 1)).run Tryz.prog (W.alloc (.cells #[.int .u8 (c.toNat : Int)] 5)) = .ok (.string ⟨#[c]⟩) (W.alloc (.cells #[.int .u8 (c.toNat : Int)] 5)) :=
 run_convert_bytes_back (P := Tryz.prog) _ 47 9 5 ⟨W.heap.size, 0, none⟩ 1 [c] Tryz.underlying47 Tryz.underlying5 Tryz.underlying9 (fun j hj => by
  obtain rfl : j = 0 := by simp at hj; omega
  simp [Addr.add])
end Go.Proofs.YtenfphbhofibjaaGreatDoor

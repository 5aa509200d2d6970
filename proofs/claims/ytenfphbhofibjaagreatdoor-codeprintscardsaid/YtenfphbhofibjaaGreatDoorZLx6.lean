/-
 A row of tokens as it is only looked at; Split of a text that is too long; the laws' Awake of layer 5.
 Conditions: as each theorem says (the library's ErrRange as it is laid).
-/
import Derived.Test.YtenfphbhofibjaaGreatDoorZJLx
import Derived.Test.YtenfphbhofibjaaGreatDoorZAwake4
set_option maxRecDepth 100000
set_option maxHeartbeats 1000000
set_option linter.unusedVariables false
namespace Go.Proofs.YtenfphbhofibjaaGreatDoor
open Go.ChangeShapes Go.WideShapes Go.ChangeAt Go.RowKit LM
theorem tokRow_get : ∀ {l : List Tok} {j : Nat} {t : Tok}, l[j]? = some t → (tokRow l)[j * 4]? = some (.int .i64 (t.kind : Int)) ∧ (tokRow l)[j * 4 + 1]? = some (.string ⟨t.text.toArray⟩) ∧ (tokRow l)[j * 4 + 2]? = some (.int .i64 t.num) ∧ (tokRow l)[j * 4 + 3]? = some (.int .i64 (t.pos : Int))
 | [], j, t, h => by simp at h
 | x :: l, 0, t, h => by
  simp at h
  subst h
  simp [tokRow, tokL]
 | x :: l, j + 1, t, h => by
  have ih := tokRow_get (l := l) (j := j) (t := t) (by simpa using h)
  have e : tokRow (x :: l) = tokL x ++ tokRow l := by simp [tokRow]
  have hl : (tokL x).length = 4 := rfl
  rw [e]
  refine ⟨?_, ?_, ?_, ?_⟩
  ·rw [List.getElem?_append_right (by omega), hl, show (j + 1) * 4 - 4 = j * 4 from by omega]; exact ih.1
  ·rw [List.getElem?_append_right (by omega), hl, show (j + 1) * 4 + 1 - 4 = j * 4 + 1 from by omega]; exact ih.2.1
  ·rw [List.getElem?_append_right (by omega), hl, show (j + 1) * 4 + 2 - 4 = j * 4 + 2 from by omega]; exact ih.2.2.1
  ·rw [List.getElem?_append_right (by omega), hl, show (j + 1) * 4 + 3 - 4 = j * 4 + 3 from by omega]; exact ih.2.2.2
def TokAt (w : World) (g : Nat) (l : List Tok) : Prop := g < w.heap.size ∧ ∀ j t, l[j]? = some t → w.cell? ⟨g, j * 4, none⟩ = some (.int .i64 (t.kind : Int)) ∧ w.cell? ⟨g, j * 4 + 1, none⟩ = some (.string ⟨t.text.toArray⟩) ∧ w.cell? ⟨g, j * 4 + 2, none⟩ = some (.int .i64 t.num) ∧ w.cell? ⟨g, j * 4 + 3, none⟩ = some (.int .i64 (t.pos : Int))
theorem row_toks {w : World} {base : Nat} {v : Value} {l : List Tok} (h : w.ownsRow base 118 4 v l.length (tokRow l)) (hl : 0 < l.length) : ∃ g cap, v = .slice (some ⟨g, 0, none⟩) l.length cap ∧ l.length ≤ cap ∧ cap ≤ maxLen ∧ base ≤ g ∧ TokAt w g l := by
 obtain ⟨g, cap, cur, rfl, h1, h2, h3, h4⟩ := row_at h hl
 refine ⟨g, cap, rfl, h1, h2, h3, lt_of_block h4, fun j t hj => ?_⟩
 have hjl : j < l.length := by obtain ⟨hh, _⟩ := List.getElem?_eq_some_iff.1 hj; exact hh
 obtain ⟨g0, g1, g2, g3⟩ := tokRow_get hj
 exact ⟨(h.cellAt (j * 4) (by omega)).trans g0, (h.cellAt (j * 4 + 1) (by omega)).trans g1, (h.cellAt (j * 4 + 2) (by omega)).trans g2, (h.cellAt (j * 4 + 3) (by omega)).trans g3⟩
inductive Sp (w w' : World) : Ending → Res → Prop
 | toks (l : List Tok) (g cap : Nat) (hl : 0 < l.length) (hc : l.length ≤ cap) (hm : cap ≤ maxLen) (hg : w.heap.size ≤ g) (ht : TokAt w' g l) (hb : Below w.heap.size w w') : Sp w w' (.returned (.tuple #[.slice (some ⟨g, 0, none⟩) l.length cap, .int .i64 0, .int .i64 0])) (.toks l)
 | bad (a : Nat) (r : Bool) (hb : Below w.heap.size w w') : Sp w w' (.returned (.tuple #[.slice none 0 0, .int .i64 (a : Int), .int .i64 (if r then 6 else 1)])) (.bad a r)
theorem split_sp (s : ByteArray) (hs : s.size ≤ 8192) (w : World) (hL : Lv w) : Calls Tryz.prog 60 #[.string s] w fun e w' => Sp w w' e (lexR 0 s.data.toList) := by
 refine (split_any s hs w hL).mono ?_
 rintro e w' ⟨v, hb, h⟩
 cases hR : lexR 0 s.data.toList with
 | bad a r =>
  rw [hR] at h
  simp only at h
  subst h
  exact .bad a r hb
 | toks l =>
  rw [hR] at h
  obtain ⟨rfl, hrow⟩ := h
  obtain ⟨t0, m0, rfl, _⟩ := lexR_ne hR
  obtain ⟨g, cap, rfl, h1, h2, h3, h4⟩ := row_toks hrow (by simp)
  exact .toks _ g cap (by simp) h1 h2 h3 h4 hb
theorem lex_a1 : lexR 0 [97, 61, 49, 59] = .toks [⟨1, [97], 0, 0⟩, ⟨4, [61], 0, 1⟩, ⟨2, [49], 1, 2⟩, ⟨4, [59], 0, 3⟩, ⟨0, [], 0, 4⟩] := by rfl
theorem awake5 (w : World) (hL : Lv w) : Calls Tryz.prog 49 #[] w fun e w' => e = .returned (.bool true) ∧ Below w.heap.size w w' := by
 have HL : Hid (Lv w) := hL
 clear hL
 go_enter Tryz.func49, Tryz.ntmps49
 go_wp2_with fail
 refine (awake4 _).mono ?_
 rintro e w1 ⟨rfl, b1⟩
 have HB1 : Hid (Below w.heap.size w w1) := b1
 have HL1 : Hid (Lv w1) := HL.out.below b1
 clear b1 HL
 go_wp2_with fail
 refine (split_sp ⟨#[97, 61, 49, 59]⟩ (by decide) _ HL1.out).mono ?_
 rintro e w2 h
 rw [show (⟨#[97, 61, 49, 59]⟩ : ByteArray).data.toList = [97, 61, 49, 59] from rfl, lex_a1] at h
 generalize hl : ([⟨1, [97], 0, 0⟩, ⟨4, [61], 0, 1⟩, ⟨2, [49], 1, 2⟩, ⟨4, [59], 0, 3⟩, ⟨0, [], 0, 4⟩] : List Tok) = l at h
 cases h with
 | toks _ g cap hl0 hc hm hg ht hb =>
  have hlen : l.length = 5 := by rw [← hl]; rfl
  have q2 := (ht.2 2 ⟨2, [49], 1, 2⟩ (by rw [← hl]; rfl)).2.2.1
  have q4 := (ht.2 4 ⟨0, [], 0, 4⟩ (by rw [← hl]; rfl)).1
  have hgl := ht.1
  have HB2 : Hid (Below w.heap.size w w2) := HB1.out.trans (hb.mono HB1.out.size)
  unfold maxLen at hm
  rw [hlen] at hc ⊢
  clear ht hb hl hlen hl0
  simp only [Nat.reduceMul, Nat.reduceAdd] at q2 q4
  go_wp2
  go_ret
  exact ⟨rfl, HB2.out⟩
end Go.Proofs.YtenfphbhofibjaaGreatDoor

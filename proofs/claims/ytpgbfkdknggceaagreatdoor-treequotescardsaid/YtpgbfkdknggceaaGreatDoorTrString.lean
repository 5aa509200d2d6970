/-
  Package tree's String and Print: the texts of an expression, a statement, statements.
  Conditions: as each theorem says (texts of at most 1000000000 bytes; the tables as they are laid).
-/
import Derived.Test.YtpgbfkdknggceaaGreatDoorTrExpr
namespace Go.Proofs.YtpgbfkdknggceaaGreatDoor
open Go.RowKit TM
set_option linter.unusedVariables false
set_option maxRecDepth 100000 in
theorem print_any (s : List TS) {w : World} {vs : Value} (hG : Lg w.heap.size w) (hE : SsIn w.heap.size w vs s) (hl : (txSs s).length ≤ 1000000000) :
    Calls Tryz.prog 9 #[vs] w fun e w' => e = .returned (.string ⟨(txSs s).toArray⟩) ∧ Below w.heap.size w w' := by
  have HC := Lib.hid (addSs_all s w.heap.size w (.slice none 0 0) [] vs (Bt.nil _ w) (Nat.le_refl _) hG hE (by simpa using hl))
  clear hG hE hl
  go_enter Tryz.func9, Tryz.ntmps9
  go_wp2_with fail
  refine HC.out.mono ?_
  rintro e w1 ⟨v1, rfl, h1, k1⟩
  have hc := run_text h1
  rw [List.nil_append] at hc
  have HK : Hid (Below w.heap.size w w1) := (Bt.nil _ w).bel k1 (Nat.le_refl _)
  clear h1 k1 HC
  go_wp2
  go_ret
  exact ⟨rfl, HK.out⟩
set_option maxRecDepth 100000 in
theorem stmtString_any (s : TS) {w : World} {vx vb ve : Value} (hG : Lg w.heap.size w) (hE : SIn (· < w.heap.size) w s vx vb ve) (hl : (txS s).length ≤ 1000000000) :
    Calls Tryz.prog 11 #[stV s vx vb ve] w fun e w' => e = .returned (.string ⟨(txS s).toArray⟩) ∧ Below w.heap.size w w' := by
  have HA : Hid (∀ W, Below w.heap.size w W → Calls Tryz.prog 22 #[.slice none 0 0, stV s vx vb ve] W fun en w' => ∃ v', en = .returned v' ∧ Bt w.heap.size w' v' ([] ++ txS s) ∧ Gr W w' (.slice none 0 0) v') := fun W hb => addStmt_any (small_all (szS s)) s (Nat.le_refl _) (Bt.nil _ W) hb.size (hG.on hb) (SIn.on hE hb) (by simpa using hl)
  cases s with
  | mk kind name exprs body els pos =>
    obtain ⟨hk8, ⟨pa, pc, rfl, _⟩, ⟨na, nc, rfl, _⟩, ⟨ba, bc, rfl, _⟩⟩ := hE
    unfold stV at HA ⊢
    generalize txS (.mk kind name exprs body els pos) = T at HA hl ⊢
    clear hG hl
    go_enter Tryz.func11, Tryz.ntmps11
    go_wp2_with fail
    obtain ⟨w1, hw1⟩ : ∃ w1, w1 = w.alloc (.cells #[.int .i64 (kind : Int), .string name, .slice pa exprs.length pc, .slice na body.length nc, .slice ba els.length bc, .int .i64 pos] 30) := ⟨_, rfl⟩
    have HBW : Hid (Below w.heap.size w w1) := by rw [hw1]; exact (Below.refl _ _).alloc (Nat.le_refl _) _
    rw [← hw1]
    clear hw1
    refine (HA.out w1 HBW.out).mono ?_
    rintro e w2 ⟨v1, rfl, h1, k1⟩
    have hc := run_text h1
    rw [List.nil_append] at hc
    have HK : Hid (Below w.heap.size w w2) := HBW.out.trans ((Bt.nil _ w1).bel k1 HBW.out.size)
    clear h1 k1 HA
    go_wp2
    go_ret
    exact ⟨rfl, HK.out⟩
set_option maxRecDepth 100000 in
theorem exprString_any (s : TE) {w : World} {vx vb ve : Value} (hG : Lg w.heap.size w) (hE : EIn (· < w.heap.size) w s vx vb ve) (hl : (txE s).length ≤ 1000000000) :
    Calls Tryz.prog 12 #[exV s vx vb ve] w fun e w' => e = .returned (.string ⟨(txE s).toArray⟩) ∧ Below w.heap.size w w' := by
  have HA : Hid (∀ W, Below w.heap.size w W → Calls Tryz.prog 23 #[.slice none 0 0, exV s vx vb ve] W fun en w' => ∃ v', en = .returned v' ∧ Bt w.heap.size w' v' ([] ++ txE s) ∧ Gr W w' (.slice none 0 0) v') := fun W hb => addE_all s w.heap.size W (.slice none 0 0) [] vx vb ve (Bt.nil _ W) hb.size (hG.on hb) (EIn.on hE hb) (by simpa using hl)
  cases s with
  | mk op num text parts params body =>
    obtain ⟨_, ⟨pa, pc, rfl, _⟩, ⟨na, nc, rfl, _⟩, ⟨ba, bc, rfl, _⟩⟩ := hE
    unfold exV at HA ⊢
    generalize txE (.mk op num text parts params body) = T at HA hl ⊢
    clear hG hl
    go_enter Tryz.func12, Tryz.ntmps12
    go_wp2_with fail
    obtain ⟨w1, hw1⟩ : ∃ w1, w1 = w.alloc (.cells #[.int .i64 (op : Int), .int .i64 num, .string text, .slice pa parts.length pc, .slice na params.length nc, .slice ba body.length bc] 35) := ⟨_, rfl⟩
    have HBW : Hid (Below w.heap.size w w1) := by rw [hw1]; exact (Below.refl _ _).alloc (Nat.le_refl _) _
    rw [← hw1]
    clear hw1
    refine (HA.out w1 HBW.out).mono ?_
    rintro e w2 ⟨v1, rfl, h1, k1⟩
    have hc := run_text h1
    rw [List.nil_append] at hc
    have HK : Hid (Below w.heap.size w w2) := HBW.out.trans ((Bt.nil _ w1).bel k1 HBW.out.size)
    clear h1 k1 HA
    go_wp2
    go_ret
    exact ⟨rfl, HK.out⟩
end Go.Proofs.YtpgbfkdknggceaaGreatDoor

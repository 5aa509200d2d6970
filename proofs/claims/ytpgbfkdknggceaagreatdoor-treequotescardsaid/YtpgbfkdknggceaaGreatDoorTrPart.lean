/-
  What package tree's printing calls ask of memory (trees, the table of signs), and its call part.
  Conditions: as each theorem says.
-/
import Derived.Test.YtpgbfkdknggceaaGreatDoorTrQuote
namespace Go.Proofs.YtpgbfkdknggceaaGreatDoor
open Go.RowKit TM
set_option linter.unusedVariables false
def exV : TE → Value → Value → Value → Value
  | .mk op num text _ _ _, vp, vn, vb => .agg #[.int .i64 (op : Int), .int .i64 num, .string text, vp, vn, vb]
def stV : TS → Value → Value → Value → Value
  | .mk kind name _ _ _ pos, vx, vb, ve => .agg #[.int .i64 (kind : Int), .string name, vx, vb, ve, .int .i64 pos]
/-- The table of numbers' powers and that of the signs, as they are laid. -/
structure Lg (B : Nat) (w : World) : Prop where
  tab : Lib.TabBelow Tryz.prog B w "internal/strconv.uint64pow10" .u64 Lib.pow10Tab
  lt : 0 < B
  signs : ∀ i, i < 18 → w.cell? ⟨0, i, none⟩ = some (.string ⟨(sign i).toArray⟩)
theorem Lg.on {B : Nat} {w w' : World} (h : Lg B w) (hb : Below B w w') : Lg B w' :=
  ⟨h.tab.on hb, h.lt, fun i hi => (hb.cell (p := ⟨_, i, none⟩) h.lt).trans (h.signs i hi)⟩
section
variable {B : Nat} {w w' : World}
theorem EIn.on {e : TE} {vp vn vb : Value} (h : EIn (· < B) w e vp vn vb) (hb : Below B w w') : EIn (· < B) w' e vp vn vb := EIn.kept (fun k hk => ⟨hk, hb.block k hk⟩) e h
theorem SIn.on {e : TS} {vp vn vb : Value} (h : SIn (· < B) w e vp vn vb) (hb : Below B w w') : SIn (· < B) w' e vp vn vb := SIn.kept (fun k hk => ⟨hk, hb.block k hk⟩) e h
/-- A slice of expressions, of statements. -/
def EsIn (B : Nat) (w : World) (v : Value) (l : List TE) : Prop := SlAt (· < B) v l.length fun g o => EsAt (· < B) w g o l
def SsIn (B : Nat) (w : World) (v : Value) (l : List TS) : Prop := SlAt (· < B) v l.length fun g o => SsAt (· < B) w g o l
theorem EsIn.on {l : List TE} {v : Value} (h : EsIn B w v l) (hb : Below B w w') : EsIn B w' v l := h.imp (fun _ h => h) fun g o hg hA => EsAt.kept (fun k hk => ⟨hk, hb.block k hk⟩) l hg hA
theorem SsIn.on {l : List TS} {v : Value} (h : SsIn B w v l) (hb : Below B w w') : SsIn B w' v l := h.imp (fun _ h => h) fun g o hg hA => SsAt.kept (fun k hk => ⟨hk, hb.block k hk⟩) l hg hA
end
theorem slNil (P : Nat → Prop) (A : Nat → Nat → Prop) : SlAt P (.slice none 0 0) 0 A := ⟨none, 0, rfl, Nat.le_refl _, by simp [maxLen], fun h => absurd h (by simp)⟩
theorem noE_in (B : Nat) (w : World) : EIn (· < B) w noE (.slice none 0 0) (.slice none 0 0) (.slice none 0 0) := ⟨⟨by decide, by decide, by decide⟩, slNil _ _, slNil _ _, slNil _ _⟩
set_option maxRecDepth 100000 in
set_option maxHeartbeats 1000000 in
/-- part: one of the parts, in whatever world that has the tree still. -/
theorem part_any {B : Nat} {w : World} {vp : Value} {l : List TE} (hS : EsIn B w vp l) (hB : B ≤ w.heap.size) (i : Nat) (hi : i ≤ 9223372036854775807) :
    ∃ a b c, EIn (· < B) w (ptE l i) a b c ∧ ∀ w1, Below B w w1 → Calls Tryz.prog 56 #[vp, .int .i64 (i : Int)] w1 fun e w' => e = .returned (exV (ptE l i) a b c) ∧ Below w1.heap.size w1 w' := by
  by_cases hlt : i < l.length
  · obtain ⟨e, he⟩ : ∃ e, l[i]? = some e := ⟨_, List.getElem?_eq_getElem hlt⟩
    have hp : ptE l i = e := by unfold ptE; rw [List.getD_eq_getElem?_getD, he]; rfl
    obtain ⟨ad, cap, rfl, hc1, hc2, hg⟩ := hS
    obtain ⟨g, o, rfl, hgB, hA⟩ := hg (by omega)
    obtain ⟨a, b, c, hc, hin⟩ := hA.get he
    rw [hp]
    cases e with
    | mk op num text parts params body =>
      have hin2 := hin
      obtain ⟨_, ⟨pa, pc, rfl, _⟩, ⟨na, nc, rfl, _⟩, ⟨ba, bc, rfl, _⟩⟩ := hin2
      refine ⟨_, _, _, hin, fun w1 hb => ?_⟩
      have hc' := hc.kept (hb.block g hgB)
      obtain ⟨q0, q1, q2, q3, q4, q5⟩ := hc'
      have hcmp : decide ((l.length : Int) ≤ (i : Int)) = false := by simp; omega
      have hidx : 0 ≤ (i : Int) ∧ (i : Int) < (l.length : Int) := ⟨by omega, by omega⟩
      unfold maxLen at hc2
      have hgl : g < w1.heap.size := Nat.lt_of_lt_of_le hgB (Nat.le_trans hB hb.size)
      clear hc hin hA hp he
      go_enter Tryz.func56, Tryz.ntmps56
      go_wp2
      exact bodyPost_ret (v := exV (.mk op num text parts params body) (.slice pa parts.length pc) (.slice na params.length nc) (.slice ba body.length bc)) (by simp [results, Tryz.results56, go_sem, exV]) rfl ⟨rfl, (Below.refl _ _).alloc (Nat.le_refl _) _⟩
  · have hp : ptE l i = noE := by unfold ptE; rw [List.getD_eq_getElem?_getD, List.getElem?_eq_none (by omega)]; rfl
    rw [hp]
    refine ⟨_, _, _, noE_in B w, fun w1 hb => ?_⟩
    obtain ⟨ad, cap, rfl, hc1, hc2, hg⟩ := hS
    have hcmp : decide ((l.length : Int) ≤ (i : Int)) = true := by simp; omega
    unfold maxLen at hc2
    clear hg hp
    go_enter Tryz.func56, Tryz.ntmps56
    go_wp2
    exact bodyPost_ret (v := exV noE (.slice none 0 0) (.slice none 0 0) (.slice none 0 0)) (by simp [results, Tryz.results56, go_sem, exV, noE]) rfl ⟨rfl, (Below.refl _ _).alloc (Nat.le_refl _) _⟩
end Go.Proofs.YtpgbfkdknggceaaGreatDoor

/-
  What addExpr is asked for, of each tree; a part and its text, as the other calls of package tree use them.
  Conditions: as each theorem says.
-/
import Derived.Test.YtpgbfkdknggceaaGreatDoorTrReg
namespace Go.Proofs.YtpgbfkdknggceaaGreatDoor
open Go.RowKit TM
set_option linter.unusedVariables false
/-- addExpr puts e's text behind a row. -/
def AddE (e : TE) : Prop := ∀ (B : Nat) (w : World) (v : Value) (l : Bs) (vp vn vb : Value), Bt B w v l → B ≤ w.heap.size → Lg B w → EIn (· < B) w e vp vn vb → l.length + (txE e).length ≤ 1000000000 →
  Calls Tryz.prog 23 #[v, exV e vp vn vb] w fun en w' => ∃ v', en = .returned v' ∧ Bt B w' v' (l ++ txE e) ∧ Gr w w' v v'
def AddSs (s : List TS) : Prop := ∀ (B : Nat) (w : World) (v : Value) (l : Bs) (vs : Value), Bt B w v l → B ≤ w.heap.size → Lg B w → SsIn B w vs s → l.length + (txSs s).length ≤ 1000000000 →
  Calls Tryz.prog 21 #[v, vs] w fun en w' => ∃ v', en = .returned v' ∧ Bt B w' v' (l ++ txSs s) ∧ Gr w w' v v'
/-- For all smaller ones. -/
structure Small (n : Nat) : Prop where
  e : ∀ e, szE e < n ∨ e = noE → AddE e
  s : ∀ s, szSs s < n → AddSs s
/-- A value of six cells. -/
def Six (x : Value) : Prop := ∃ (op num : Int) (text : ByteArray) (a b c : Option Addr) (n1 c1 n2 c2 n3 c3 : Nat), x = .agg #[.int .i64 op, .int .i64 num, .string text, .slice a n1 c1, .slice b n2 c2, .slice c n3 c3]
theorem six_of {P : Nat → Prop} {w : World} {e : TE} {vp vn vb : Value} (h : EIn P w e vp vn vb) : Six (exV e vp vn vb) := by
  cases e with
  | mk op num text parts params body =>
    obtain ⟨_, ⟨pa, pc, rfl, _⟩, ⟨na, nc, rfl, _⟩, ⟨ba, bc, rfl, _⟩⟩ := h
    exact ⟨_, _, _, _, _, _, _, _, _, _, _, _, rfl⟩
/-- What a part is, in whatever world has the tree still: part answers it, addExpr tells its text. -/
structure Pk (B : Nat) (w : World) (vp : Value) (i : Nat) (t : Bs) (x : Value) : Prop where
  six : Six x
  part : ∀ W, Below B w W → Calls Tryz.prog 56 #[vp, .int .i64 (i : Int)] W fun e W' => e = .returned x ∧ Below W.heap.size W W'
  add : ∀ W vc X, Bt B W vc X → B ≤ W.heap.size → Below B w W → X.length + t.length ≤ 1000000000 → Calls Tryz.prog 23 #[vc, x] W fun e W' => ∃ u, e = .returned u ∧ Bt B W' u (X ++ t) ∧ Gr W W' vc u
theorem pack {n B : Nat} {w : World} {vp : Value} {parts : List TE} (hA : Small n) (hS : EsIn B w vp parts) (hB : B ≤ w.heap.size) (hG : Lg B w) (i : Nat) (hi : i ≤ 9223372036854775807) (hsz : szEs parts < n) : ∃ x, Pk B w vp i (pt (txEs parts) i) x := by
  obtain ⟨a, b, c, h1, h2⟩ := part_any hS hB i hi
  refine ⟨exV (ptE parts i) a b c, six_of h1, h2, fun W vc X hr hBW hbel hl => ?_⟩
  rw [← ptE_tx] at hl ⊢
  refine hA.e _ ?_ B W vc X a b c hr hBW (hG.on hbel) (EIn.on h1 hbel) hl
  rcases ptE_sz parts i with h | h
  · exact .inl (by omega)
  · exact .inr h
/-- An element of the parts. -/
theorem packAt {n B : Nat} {w : World} {parts : List TE} {g o : Nat} (hA : Small n) (hG : Lg B w) (hg : EsAt (· < B) w g o parts) (hgB : g < B) {i : Nat} {e : TE} (he : parts[i]? = some e) (hsz : szEs parts < n) :
    ∃ (op num : Int) (text : ByteArray) (a b c : Option Addr) (n1 c1 n2 c2 n3 c3 : Nat), (∀ W, Below B w W → W.cell? ⟨g, o + i * 6, none⟩ = some (.int .i64 op) ∧ W.cell? ⟨g, o + i * 6 + 1, none⟩ = some (.int .i64 num) ∧ W.cell? ⟨g, o + i * 6 + 2, none⟩ = some (.string text) ∧ W.cell? ⟨g, o + i * 6 + 3, none⟩ = some (.slice a n1 c1) ∧ W.cell? ⟨g, o + i * 6 + 4, none⟩ = some (.slice b n2 c2) ∧ W.cell? ⟨g, o + i * 6 + 5, none⟩ = some (.slice c n3 c3)) ∧
      ∀ W vc X, Bt B W vc X → B ≤ W.heap.size → Below B w W → X.length + (txE e).length ≤ 1000000000 → Calls Tryz.prog 23 #[vc, .agg #[.int .i64 op, .int .i64 num, .string text, .slice a n1 c1, .slice b n2 c2, .slice c n3 c3]] W fun en W' => ∃ u, en = .returned u ∧ Bt B W' u (X ++ txE e) ∧ Gr W W' vc u := by
  obtain ⟨vp, vn, vb, hc, hin⟩ := hg.get he
  have hlt := szEs_get he
  cases e with
  | mk op num text ps pm bd =>
    have hin2 := hin
    obtain ⟨_, ⟨pa, pc, rfl, _⟩, ⟨na, nc, rfl, _⟩, ⟨ba, bc, rfl, _⟩⟩ := hin2
    refine ⟨op, num, text, pa, na, ba, ps.length, pc, pm.length, nc, bd.length, bc, fun W hb => hc.kept (hb.block g hgB), fun W vc X hr hBW hbel hl => ?_⟩
    exact hA.e _ (.inl (by omega)) B W vc X _ _ _ hr hBW (hG.on hbel) (EIn.on hin hbel) hl
end Go.Proofs.YtpgbfkdknggceaaGreatDoor

/-
 TkBase, TkDefs, TkReg, joined.
 Conditions: as each theorem says.
-/
import Derived.Test.YtenfphbhofibjaaGreatDoorZTm
import Derived.Test.YtenfphbhofibjaaGreatDoorZMem
set_option linter.unusedVariables false
namespace Go.Proofs.YtenfphbhofibjaaGreatDoor
open Go.RowKit TM
structure XX where
 d : Nat := 0
 a : Nat := 0
 n : Nat := 0
 s : Nat := 0
def hd (xs : List XX) : XX := xs.headD {}
def lnmL : List ByteArray := [⟨#[97]⟩, ⟨#[98]⟩, ⟨#[99]⟩, ⟨#[100]⟩, ⟨#[102]⟩, ⟨#[108, 101, 110]⟩, ⟨#[120, 49]⟩, ⟨#[95, 121]⟩]
def nm (n : Nat) : ByteArray := lnmL.getD (n % 8) ⟨#[]⟩
end Go.Proofs.YtenfphbhofibjaaGreatDoor
namespace Go.Proofs.YtenfphbhofibjaaGreatDoor
open Go.RowKit TM
def sixE : TE → Value → Value → Value → List Value
 | .mk op num text _ _ _, vp, vn, vb => [.int .i64 (op : Int), .int .i64 num, .string text, vp, vn, vb]
def sixS : TS → Value → Value → Value → List Value
 | .mk kind name _ _ _ pos, vx, vb, ve => [.int .i64 (kind : Int), .string name, vx, vb, ve, .int .i64 pos]
theorem sixE_len (e : TE) (a b c : Value) : (sixE e a b c).length = 6 := by cases e; rfl
theorem sixS_len (e : TS) (a b c : Value) : (sixS e a b c).length = 6 := by cases e; rfl
def EsC (P : Nat → Prop) (w : World) : List TE → List Value → Prop
 | [], cs => cs = []
 | e :: l, cs => ∃ a b c cs', cs = sixE e a b c ++ cs' ∧ EIn P w e a b c ∧ EsC P w l cs'
def SsC (P : Nat → Prop) (w : World) : List TS → List Value → Prop
 | [], cs => cs = []
 | e :: l, cs => ∃ a b c cs', cs = sixS e a b c ++ cs' ∧ SIn P w e a b c ∧ SsC P w l cs'
section
variable {P Q : Nat → Prop} {w w' : World}
theorem EsC.kept (H : ∀ k, P k → Q k ∧ w'.heap[k]? = w.heap[k]?) : ∀ {l : List TE} {cs : List Value}, EsC P w l cs → EsC Q w' l cs
 | [], cs, h => h
 | e :: l, cs, ⟨a, b, c, cs', h1, h2, h3⟩ => ⟨a, b, c, cs', h1, EIn.kept H e h2, h3.kept H⟩
theorem SsC.kept (H : ∀ k, P k → Q k ∧ w'.heap[k]? = w.heap[k]?) : ∀ {l : List TS} {cs : List Value}, SsC P w l cs → SsC Q w' l cs
 | [], cs, h => h
 | e :: l, cs, ⟨a, b, c, cs', h1, h2, h3⟩ => ⟨a, b, c, cs', h1, SIn.kept H e h2, h3.kept H⟩
theorem EsC.snoc {e : TE} {a b c : Value} (he : EIn P w e a b c) : ∀ {l : List TE} {cs : List Value}, EsC P w l cs → EsC P w (l ++ [e]) (cs ++ sixE e a b c)
 | [], cs, h => by rw [show cs = [] from h]; exact ⟨a, b, c, [], by simp, he, rfl⟩
 | x :: l, cs, ⟨a', b', c', cs', h1, h2, h3⟩ => ⟨a', b', c', cs' ++ sixE e a b c, by rw [h1]; simp, h2, h3.snoc he⟩
theorem SsC.snoc {e : TS} {a b c : Value} (he : SIn P w e a b c) : ∀ {l : List TS} {cs : List Value}, SsC P w l cs → SsC P w (l ++ [e]) (cs ++ sixS e a b c)
 | [], cs, h => by rw [show cs = [] from h]; exact ⟨a, b, c, [], by simp, he, rfl⟩
 | x :: l, cs, ⟨a', b', c', cs', h1, h2, h3⟩ => ⟨a', b', c', cs' ++ sixS e a b c, by rw [h1]; simp, h2, h3.snoc he⟩
theorem EsC.at {g : Nat} : ∀ {l : List TE} {cs : List Value} {o : Nat}, EsC P w l cs → (∀ j u, cs[j]? = some u → w.cell? ⟨g, o + j, none⟩ = some u) → EsAt P w g o l
 | [], cs, o, _, _ => trivial
 | e :: l, cs, o, ⟨a, b, c, cs', h1, h2, h3⟩, hc => by
  subst h1
  refine ⟨⟨a, b, c, ?_, h2⟩, h3.at fun j u hj => ?_⟩
  ·cases e
   exact ⟨hc 0 _ rfl, hc 1 _ rfl, hc 2 _ rfl, hc 3 _ rfl, hc 4 _ rfl, hc 5 _ rfl⟩
  ·rw [show o + 6 + j = o + (j + 6) from by omega]
   refine hc (j + 6) u ?_
   rw [List.getElem?_append_right (by rw [sixE_len]; omega), sixE_len]
   simpa using hj
theorem SsC.at {g : Nat} : ∀ {l : List TS} {cs : List Value} {o : Nat}, SsC P w l cs → (∀ j u, cs[j]? = some u → w.cell? ⟨g, o + j, none⟩ = some u) → SsAt P w g o l
 | [], cs, o, _, _ => trivial
 | e :: l, cs, o, ⟨a, b, c, cs', h1, h2, h3⟩, hc => by
  subst h1
  refine ⟨⟨a, b, c, ?_, h2⟩, h3.at fun j u hj => ?_⟩
  ·cases e
   exact ⟨hc 0 _ rfl, hc 1 _ rfl, hc 2 _ rfl, hc 3 _ rfl, hc 4 _ rfl, hc 5 _ rfl⟩
  ·rw [show o + 6 + j = o + (j + 6) from by omega]
   refine hc (j + 6) u ?_
   rw [List.getElem?_append_right (by rw [sixS_len]; omega), sixS_len]
   simpa using hj
end
def Fresh (n m : Nat) (g : Nat) : Prop := n ≤ g ∧ g < m
end Go.Proofs.YtenfphbhofibjaaGreatDoor
namespace Go.Proofs.YtenfphbhofibjaaGreatDoor
open Go.RowKit TM
theorem infoExpr : (Tryz.prog.info? 35).map (fun i => (i.zero, i.size, i.bytes)) = some (some (.agg #[.int .i64 0, .int .i64 0, .string ⟨#[]⟩, .slice none 0 0, .slice none 0 0, .slice none 0 0]), 6, 104) := by kernel_rfl
theorem infoStmt : (Tryz.prog.info? 30).map (fun i => (i.zero, i.size, i.bytes)) = some (some (.agg #[.int .i64 0, .string ⟨#[]⟩, .slice none 0 0, .slice none 0 0, .slice none 0 0, .int .i64 0]), 6, 104) := by kernel_rfl
theorem six_cells {P : Nat → Prop} {w : World} {e : TE} {x y z : Value} (h : EIn P w e x y z) : ∀ u ∈ sixE e x y z, u.oneCell' = true := by
 cases e with
 | mk op num text parts params body =>
  obtain ⟨_, ⟨pa, pc, rfl, _⟩, ⟨na, nc, rfl, _⟩, ⟨ba, bc, rfl, _⟩⟩ := h
  intro u hu
  simp [sixE] at hu
  rcases hu with rfl | rfl | rfl | rfl | rfl | rfl <;> rfl
section
variable {wr : World} {mb bs gx : Nat} {T : TypeId} {bc : Value → Array Value} {Y : List XX} {L : Int} {e : TE} {vp : Value} {j : Nat} {cs : List Value} {ic ib ip is tc tb tp : Nat} {l : Nat → Bool} {a : Act} {W : World}
end
end Go.Proofs.YtenfphbhofibjaaGreatDoor

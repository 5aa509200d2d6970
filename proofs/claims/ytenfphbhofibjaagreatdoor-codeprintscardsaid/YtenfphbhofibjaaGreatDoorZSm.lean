/-
 The program's Same: are two trees the same, but for where statements stand? slices.EqualFunc at expressions and statements, sameStmt, sameExpr.
 Conditions: as each theorem says.
-/
import Derived.Test.YtenfphbhofibjaaGreatDoorZTrCm
import Derived.Test.YtenfphbhofibjaaGreatDoorZMem
set_option maxRecDepth 100000
set_option maxHeartbeats 2000000
set_option linter.unusedVariables false
set_option linter.unusedSimpArgs false
namespace Go.Proofs.YtenfphbhofibjaaGreatDoor
open Go.RowKit TM
end Go.Proofs.YtenfphbhofibjaaGreatDoor
namespace Go.Proofs.YtenfphbhofibjaaGreatDoor
open Go.RowKit TM
theorem str_ne {a b : ByteArray} (h : ¬ a = b) : (a.toList == b.toList) = false := by
 rw [ByteArray.toList_eq, ByteArray.toList_eq]
 cases hq : (a.data.toList == b.data.toList) with
 | false => rfl
 | true =>
  have h1 : a.data.toList = b.data.toList := by simpa using hq
  exact absurd (by cases a; cases b; simpa using h1) h
theorem drop_eq {l m : List ByteArray} {k : Nat} {x y : ByteArray} (hx : l[k]? = some x) (hy : m[k]? = some y) : (decide (l.drop k = m.drop k)) = (decide (x = y) && decide (l.drop (k + 1) = m.drop (k + 1))) := by
 obtain ⟨h1, rfl⟩ := List.getElem?_eq_some_iff.1 hx
 obtain ⟨h2, rfl⟩ := List.getElem?_eq_some_iff.1 hy
 rw [List.drop_eq_getElem_cons h1, List.drop_eq_getElem_cons h2]
 simp only [List.cons.injEq, Bool.decide_and]
theorem eqStrs {l m : List ByteArray} {v v' : Value} {w : World} (h : SlAt (· < w.heap.size) v l.length (fun g o => StrAt w g o l)) (h' : SlAt (· < w.heap.size) v' m.length (fun g o => StrAt w g o m)) :
 Calls Tryz.prog 29 #[v, v'] w fun e w' => e = .returned (.bool (decide (l = m))) ∧ Below w.heap.size w w' := by
 obtain ⟨ad1, cap1, rfl, hc1, hx1, hg1⟩ := h
 obtain ⟨ad2, cap2, rfl, hc2, hx2, hg2⟩ := h'
 unfold maxLen at hx1 hx2
 by_cases hn : l.length = m.length
 ·have HG1 := Lib.hid hg1
  have HG2 := Lib.hid hg2
  have HN := Lib.hid hn
  rw [← hn] at hc2 ⊢
  clear hg1 hg2 hn
  obtain ⟨R, hR⟩ : ∃ R, decide (l = m) = R := ⟨_, rfl⟩
  have HR := Lib.hid hR
  rw [hR]
  clear hR
  go_enter Tryz.func29, Tryz.ntmps29
  go_wp2_with fail
  go_loopw [13] (fun i wr => ∃ k : Nat, i = .int .i64 (k : Int) ∧ k ≤ l.length ∧ Hid (Below w.heap.size w wr) ∧ Hid (R = decide (l.drop k = m.drop k)))
   (fun i _ => l.length - (intOf i).toNat)
  case atStart => exact ⟨0, rfl, Nat.zero_le _, Below.refl _ _, HR.out.symm⟩
  case round =>
   obtain ⟨k, rfl, hk, HB, HEQ⟩ := hrel
   by_cases hlt : k < l.length
   ·obtain ⟨x, hx⟩ : ∃ x, l[k]? = some x := ⟨_, List.getElem?_eq_getElem hlt⟩
    obtain ⟨y, hy⟩ : ∃ y, m[k]? = some y := ⟨_, List.getElem?_eq_getElem (by rw [← HN.out]; exact hlt)⟩
    obtain ⟨g1, o1, rfl, gl1, A1⟩ := HG1.out (by omega)
    obtain ⟨g2, o2, rfl, gl2, A2⟩ := HG2.out (by have := HN.out; omega)
    have q0 := (cell_kept (HB.out.block g1 gl1)).trans (A1.get hx)
    have r0 := (cell_kept (HB.out.block g2 gl2)).trans (A2.get hy)
    have HD : Hid (R = (decide (x = y) && decide (l.drop (k + 1) = m.drop (k + 1)))) := HEQ.out.trans (drop_eq hx hy)
    have hidx : 0 ≤ (k : Int) ∧ (k : Int) < (l.length : Int) := ⟨by omega, by omega⟩
    clear A1 A2 hx hy HEQ
    by_cases hxy : x = y
    ·subst hxy
     have HD2 : Hid (R = decide (l.drop (k + 1) = m.drop (k + 1))) := by have h9 := HD.out; rw [decide_eq_true rfl, Bool.true_and] at h9; exact h9
     clear HD
     go_wp2_with fail
     go_region
     go_wp2_with fail
     go_roundw
     case rel => exact ⟨k + 1, by go_num, by omega, HB.out.drew, HD2⟩
     case measure => simp [intOf]; omega
    ·obtain rfl : R = false := by rw [HD.out, decide_eq_false hxy, Bool.false_and]
     have hxy2 := str_ne hxy
     clear HD
     go_wp2_with fail
     go_region
     go_wp2
     go_ret
     exact ⟨rfl, HB.out.drew⟩
   ·obtain rfl : k = l.length := by omega
    go_wp2
    go_ret
    exact ⟨by rw [HEQ.out, List.drop_length, HN.out, List.drop_length]; rfl, HB.out⟩
 ·rw [decide_eq_false (fun e => hn (by rw [e]))]
  have hn2 : ¬ ((l.length : Int) = (m.length : Int)) := by omega
  clear hg1 hg2
  go_enter Tryz.func29, Tryz.ntmps29
  go_wp2
  go_ret
  exact ⟨rfl, Below.refl _ _⟩
end Go.Proofs.YtenfphbhofibjaaGreatDoor
namespace Go.Proofs.YtenfphbhofibjaaGreatDoor
open Go.RowKit TM
def RowVar (gv : Nat) (l : List ByteArray) (w : World) : Prop := gv < w.heap.size ∧ ∃ g o cap, w.cell? ⟨gv, 0, none⟩ = some (.slice (some ⟨g, o, none⟩) l.length cap) ∧ l.length ≤ cap ∧ cap ≤ maxLen ∧ g < w.heap.size ∧ StrAt w g o l
theorem RowVar.below {gv : Nat} {l : List ByteArray} {w w' : World} (h : RowVar gv l w) (hb : Below w.heap.size w w') : RowVar gv l w' := by
 obtain ⟨h0, g, o, cap, h1, h2, h3, h4, h5⟩ := h
 exact ⟨Nat.lt_of_lt_of_le h0 hb.size, g, o, cap, (cell_kept (hb.block _ h0)).trans h1, h2, h3, Nat.lt_of_lt_of_le h4 hb.size, StrAt.kept (hb.block g h4) l o h5⟩
theorem strAt_cells {w : World} {g : Nat} : ∀ (l : List ByteArray) (o : Nat), (∀ (k : Nat) (x : ByteArray), l[k]? = some x → w.cell? ⟨g, o + k, none⟩ = some (.string x)) → StrAt w g o l
 | [], _, _ => trivial
 | x :: l, o, h => ⟨h 0 x rfl, strAt_cells l (o + 1) fun k y hy => by rw [show o + 1 + k = o + (k + 1) from by omega]; exact h (k + 1) y (by simpa using hy)⟩
end Go.Proofs.YtenfphbhofibjaaGreatDoor

/-
 The laws' expr of layer 6 at a record: its pairs; a region with one laying and one append.
 Conditions: as each theorem says.
-/
import Derived.Test.YtpboencfnjmmbaaGreatDoorZLpBase
set_option linter.unusedVariables false
set_option linter.unusedSimpArgs false
namespace Go.Proofs.YtpboencfnjmmbaaGreatDoor
open Go.RowKit TM
theorem cmB_mk (l : List Bs) : cmB (l.map mkB) = mkB (commas l) := by
 unfold cmB
 rw [List.map_map, show bl ∘ mkB = id from by funext t; exact bl_mk t, List.map_id]
 rfl
theorem pairs_half : ∀ l : List Bs, l.length % 2 = 0 → (pairs l).length = l.length / 2
 | [], _ => rfl
 | [k], h => by simp at h
 | k :: v :: l, h => by
  have := pairs_half l (by simp at h; omega)
  simp only [pairs, List.length_cons, this]
  omega
theorem pairs_mk {l : List Bs} {m : Nat} {T1 T2 : ByteArray} (h1 : (l.map mkB)[2 * m]? = some T1) (h2 : (l.map mkB)[2 * m + 1]? = some T2) : ((pairs l).map mkB)[m]? = some (⟨#[91]⟩ ++ T1 ++ ⟨#[93, 58, 32]⟩ ++ T2) := by
 rw [List.getElem?_map, Option.map_eq_some_iff] at h1 h2
 obtain ⟨t1, g1, rfl⟩ := h1
 obtain ⟨t2, g2, rfl⟩ := h2
 have hp : pt l (2 * m + 1) = t2 := by simp [pt, List.getD_eq_getElem?_getD, g2]
 rw [List.getElem?_map, pairs_get g1, hp, Option.map_some, ← mkB_add, ← mkB_add, ← mkB_add]
 rfl
theorem slAt_row {w : World} {base : Nat} {v : Value} {n : Nat} {l : List ByteArray} (hn : n = l.length) (h : w.ownsRow base 9 1 v n (strCs l)) : SlAt (fun _ => True) v l.length (fun g o => StrAt w g o l) := by
 subst hn
 obtain ⟨ao, cap, rfl, h1, h2⟩ := row_shape h
 refine ⟨ao, cap, rfl, h1, h2, fun h0 => ?_⟩
 obtain ⟨g, cap2, cur, hv, _, _, _, hb⟩ := row_at h h0
 cases hv
 exact ⟨g, 0, rfl, trivial, strAt_of fun j s hj => row_cells h j s hj⟩
theorem exec_app {P : Program} {o : Oper} {s x : Operand} {t : TypeId} {a : Act} {v y v' : Value} {w w' : World} (ho : o.op = .call { callee := .builtin .append, args := #[s, x], argTypes := #[t, t] }) (hs : a.eval s = v) (hx : a.eval x = y) (hrun : (Builtin.append_ #[t, t] o.type #[v, y]).run P w = .ok v' w') :
 (execOp a.eval o).run P w = .ok (.value v') w' := by
 simp [execOp, ho, resolve, invoke, builtin, hs, hx, hrun, Result.andThen]
def JRec (wX wY wZ : World) (u : Value) (l : Nat → Bool) (a : Act) (W : World) : Prop := W = (if l 13 = true then (if l 14 = true then wZ else wY) else wX) ∧ (l 15 = false → a.eval (.tmp 6) = u)
section
variable {wX wY wZ W : World} {u v : Value} {l : Nat → Bool} {a : Act} {i d : Nat}
theorem JRec.pure (h : JRec wX wY wZ u l a W) (h1 : 13 ≠ i) (h2 : 14 ≠ i) (h3 : 15 ≠ i) (hd : 6 ≠ d) : JRec wX wY wZ u (more l i) (a.put (some d) v) W := by
 refine ⟨by rw [more_ne _ h1, more_ne _ h2]; exact h.1, fun q => ?_⟩
 rw [more_ne _ h3] at q
 rw [eval_other hd]
 exact h.2 q
theorem JRec.at13 (h : JRec wX wY wZ u l a W) (h1 : l 13 = false) : W = wX := by rw [h.1, h1]; rfl
theorem JRec.to14 (h : JRec wX wY wZ u l a W) (h2 : l 14 = false) (hd : 6 ≠ d) : JRec wX wY wZ u (more l 13) (a.put (some d) v) wY := by
 refine ⟨by rw [more_self, more_ne _ (by decide : 14 ≠ 13), h2]; rfl, fun q => ?_⟩
 rw [more_ne _ (by decide : 15 ≠ 13)] at q
 rw [eval_other hd]
 exact h.2 q
theorem JRec.at14 (h : JRec wX wY wZ u l a W) (h1 : l 13 = true) (h2 : l 14 = false) : W = wY := by rw [h.1, h1, h2]; rfl
theorem JRec.to15 (h : JRec wX wY wZ u l a W) (h1 : l 13 = true) (hd : 6 ≠ d) : JRec wX wY wZ u (more l 14) (a.put (some d) v) wZ := by
 refine ⟨by rw [more_self, more_ne _ (by decide : 13 ≠ 14), h1]; rfl, fun q => ?_⟩
 rw [more_ne _ (by decide : 15 ≠ 14)] at q
 rw [eval_other hd]
 exact h.2 q
theorem JRec.last (h : JRec wX wY wZ u l a W) : JRec wX wY wZ u (more l 15) (a.put (some d) v) W :=
 ⟨by rw [more_ne _ (by decide : 13 ≠ 15), more_ne _ (by decide : 14 ≠ 15)]; exact h.1, fun q => by rw [more_self] at q; cases q⟩
theorem JRec.below {w0 : World} (h : JRec wX wY wZ u l a W) (hX : Below w0.heap.size w0 wX) (hY : Below w0.heap.size w0 wY) (hZ : Below w0.heap.size w0 wZ) : Below w0.heap.size w0 W := by
 rw [h.1]
 split
 ·split
  ·exact hZ
  ·exact hY
 ·exact hX
end
end Go.Proofs.YtpboencfnjmmbaaGreatDoor

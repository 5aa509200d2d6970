/-
  A block that a call made; two ways to stand in for a call.
  Conditions: as each theorem says. (No program is named here.)
-/
import Derived.Test.YtpboencfnjmmbaaGreatDoorXS
namespace Go.Ex
set_option linter.unusedVariables false
open Go.RowKit

/-- A call turned nothing that was there, and made block g. -/
theorem WR.made {C : Cx} {p : Rn} {s : St} {w w' : World} (h : WR C p s w) (ht : s.ctr < s.top) (hb : Below w.heap.size w w') {g k : Nat} {o o' : Obj} (hg : w.heap.size ≤ g) (hw : w'.heap[g]? = some o') (ho : OR (Ex.ext p s.ctr g k) k o o') :
    WR C (Ex.ext p s.ctr g k) (s.fresh o) w' := by
  have hle := h.extend ht g k
  have hlt : g < w'.heap.size := (Array.getElem?_eq_some_iff.1 hw).1
  have h1 := h.wide hb
  have old : ∀ n b j, Ex.ext p s.ctr g k n = some (b, j) → n ≠ s.ctr → p n = some (b, j) := by
    intro n b j e hn; simpa [Ex.ext, hn] using e
  refine ⟨h1.below, h1.base, ?_, ?_, ?_, ?_, by have := h.ctr; simp only [St.fresh]; omega, h.far, by have := h.lo; simp only [St.fresh]; omega, by simp only [St.fresh]; omega⟩
  · intro n b j e
    by_cases hn : n = s.ctr
    · subst hn; rw [ext_self] at e; cases e; simp only [St.fresh]; exact ⟨.inr (by have := h.lo; omega), hlt⟩
    · have := h1.dom n b j (old n b j e hn); simp only [St.fresh]; exact ⟨this.1.imp id (fun h => by omega), this.2⟩
  · intro n u e
    simp only [St.fresh, Tr.get_put] at e
    split at e
    · rename_i hn; subst hn; cases e
      exact ⟨g, k, o', ext_self _ _ _ _, hw, ho⟩
    · obtain ⟨b, j, u', e1, e2, e3⟩ := h1.heap n u e
      exact ⟨b, j, u', hle _ _ e1, e2, e3.le hle⟩
  · intro n m u u' b k1 k2 e e' f f'
    simp only [St.fresh, Tr.get_put] at e e'
    split at e
    · rename_i hn
      split at e'
      · rename_i hm; rw [hn, hm]
      · rename_i hm
        subst hn
        rw [ext_self] at f; cases f
        have := (h.dom _ _ _ (old _ _ _ f' hm)).2
        omega
    · rename_i hn
      split at e'
      · rename_i hm
        subst hm
        rw [ext_self] at f'; cases f'
        have := (h.dom _ _ _ (old _ _ _ f hn)).2
        omega
      · rename_i hm
        exact h.inj n m u u' b k1 k2 e e' (old _ _ _ f hn) (old _ _ _ f' hm)
  · intro n b j hG e
    by_cases hn : n = s.ctr
    · subst hn; rw [ext_self] at e; cases e; have := h.base; omega
    · exact h.own n b j hG (old _ _ _ e hn)

def orOv (x y : Ov) : Ov := fun f => match x f with
  | some m => some m
  | none => y f
theorem OvOk.or {E : Env} {B : Bs} {x y : Ov} (h : OvOk E B x) (k : OvOk E B y) : OvOk E B (orOv x y) := by
  intro f m e
  unfold orOv at e
  cases hx : x f with
  | some m' => rw [hx] at e; cases e; exact h f m hx
  | none => rw [hx] at e; exact k f m e

/-- What a run answers. -/
def ansOf (r : Option (Except Chain Value × St)) : Option Value := match r with
  | some (.ok v, _) => some v
  | _ => none
/-- A leaf, or leaves beside one another. -/
def flatT (v : Value) : Bool := leaf v || (match v with | .agg c => c.toList.all leaf | .tuple c => c.toList.all leaf | _ => false)
theorem leaves_eq {p : Rn} {c c' : Array Value} (h : c.toList.all leaf = true) (k : Arr (VR p) c c') : c' = c := by
  refine Array.ext k.1.symm fun i a b => ?_
  refine leaf_eq (List.all_eq_true.1 h _ ?_) (k.2 i _ _ (Array.getElem?_eq_getElem b) (Array.getElem?_eq_getElem a))
  exact List.mem_of_getElem? (l := c.toList) (i := i) (by simp [b])
theorem flatT_eq {p : Rn} {v v' : Value} (h : flatT v = true) (k : VR p v v') : v' = v := by
  unfold flatT at h
  rw [Bool.or_eq_true] at h
  rcases h with h | h
  · exact leaf_eq h k
  · split at h
    · obtain ⟨c', rfl, hc⟩ := k.inv; exact congrArg _ (leaves_eq h hc)
    · obtain ⟨c', rfl, hc⟩ := k.inv; exact congrArg _ (leaves_eq h hc)
    · cases h
/-- A call at given plain arguments answers what the plain run answers, and turns nothing that was there. -/
theorem closedV {P : Program} {G : Nat} {gs : Gs} {xt : Xt} {o : Ov} {n : Nat} {f : FuncId} {w : World} {args : Array Value} {v : Value} (hE : Good (envOf P G (glOf gs) xt)) (hm : P.follows .mixedOrders = true) (hf : fits G gs = true) (hw : Held gs w)
    (ho : OvOk (envOf P G (glOf gs) xt) (bs0 G w) o) (hfn : (fnOf P f).isSome = true) (ha : args.toList.all flat1 = true) (hv : flatT v = true) (h : ansOf (acall (envOf P G (glOf gs) xt) o n f args (st0 G gs)) = some v) : Calls P f args w fun e w' => e = .returned v ∧ Below w.heap.size w w' := by
  cases e : acall (envOf P G (glOf gs) xt) o n f args (st0 G gs) with
  | none => rw [e] at h; cases h
  | some x =>
    obtain ⟨r, s'⟩ := x
    rw [e] at h
    cases r with
    | error _ => cases h
    | ok u =>
      cases h
      have harg : Arr (VR (rn0 gs)) args args := AL.arr (fun p x hx => VR.of_flat (List.all_eq_true.1 ha x hx)) _
      refine (call_sound hE ho hm n f args _ _ _ e hfn (bs0 G w).lo (bs0 G w).old (rn0 gs) w args (we0 hf hw) harg).mono fun e w' hp => ?_
      obtain ⟨q, _, hw', he⟩ := hp
      cases e <;> first | exact he.elim | skip
      have := flatT_eq hv he
      subst this
      exact ⟨rfl, hw'.wr.below⟩
end Go.Ex

/-
  A region that draws its order, walked by an invariant of what has been done so far: each operation is looked at once, whatever order is drawn.
  Conditions: as each theorem says. (No program is named here.)
-/
import Derived.WalkKit
import Derived.RegionTactic
import Derived.Deep.RegionLaw
namespace Go.Proofs.YtpgbfkdknggceaaGreatDoor
set_option linter.unusedVariables false
theorem ready_spec {md : Region.Mode} {ops : Array Oper} {listed : Array Bool} {i : Nat} (h : i ∈ Region.ready md ops listed) : i < ops.size ∧ listed.getD i true = false := by
  simp only [Region.ready, List.mem_filter, List.mem_range, Bool.and_eq_true, Bool.not_eq_true'] at h
  exact ⟨h.1, h.2.1⟩
theorem wpAny_inv {P : Program} {md : Region.Mode} {ops : Array Oper} {Q : Exit → Act → World → Prop} {I : Array Bool → Act → World → Prop}
    (hstep : ∀ (listed : Array Bool) (a : Act) (w : World) (i : Nat), listed.size = ops.size → I listed a w → i ∈ Region.ready md ops listed → ∀ K : Act → World → Prop, (∀ a' w', I (listed.setIfInBounds i true) a' w' → K a' w') → wpOp P ops Q i K a w)
    (hend : ∀ (listed : Array Bool) (a : Act) (w : World), listed.size = ops.size → I listed a w → Region.ready md ops listed = [] → Q .normal a w) :
    ∀ (fuel : Nat) (listed : Array Bool) (a : Act) (w : World), listed.size = ops.size → ops.size ≤ listed.toList.count true + fuel → I listed a w → wpAny P md ops Q fuel listed a w := by
  intro fuel
  induction fuel with
  | zero =>
    intro listed a w hs hc hI
    have hall : ∀ b ∈ listed.toList, true = b := List.count_eq_length.1 (Nat.le_antisymm List.count_le_length (by rw [Array.length_toList]; omega))
    have hr : Region.ready md ops listed = [] := by
      apply List.eq_nil_iff_forall_not_mem.2
      intro i hi
      obtain ⟨h1, h2⟩ := ready_spec hi
      have h3 : listed[i]? = some listed[i] := Array.getElem?_eq_getElem (by omega)
      have h4 := hall listed[i] (by simp)
      rw [Array.getD_eq_getD_getElem?, h3, ← h4] at h2
      simp at h2
    exact ⟨hr, hend listed a w hs hI hr⟩
  | succ fuel ih =>
    intro listed a w hs hc hI
    refine ⟨fun hr => hend listed a w hs hI hr, fun i hi => hstep listed a w i hs hI hi _ fun a' w' hI' => ih _ a' w' (by simpa using hs) ?_ hI'⟩
    obtain ⟨h1, h2⟩ := ready_spec hi
    have h3 : listed[i]? = some listed[i] := Array.getElem?_eq_getElem (by omega)
    rw [Array.getD_eq_getD_getElem?, h3] at h2
    simp only [Option.getD_some] at h2
    have h5 : listed.toList[i]'(by simp; omega) = false := by simpa using h2
    rw [Array.toList_setIfInBounds, List.count_set (by simp; omega), h5, if_neg (by simp), if_pos (by simp)]
    omega
/-- A call of one argument, by a contract, as one step of a region. -/
theorem step_callR {P : Program} {ops : Array Oper} {o : Oper} {a : Act} {w : World} {K : Act → World → Prop} {Q : Exit → Act → World → Prop} {E : Prop} {R : World → Prop}
    (hg : o.guard = none) (s : Operand) (f t : Nat) (hop : o.op = Op.call { callee := Callee.value (.func f), args := #[s], argTypes := #[t] })
    (x v : Value) (hs : a.eval s = x) (eg : ∀ (args : Array Value) (w : World), (callFunc f args).run P w = .ok (.enter f args) w) (hc : Calls P f #[x] w fun e w' => e = .returned v ∧ R w')
    (hK : ∀ w', R w' → K (a.put o.dst v) w') :
    if Region.wanted o (yielded ops a.tmps) = true then Oper.wp P o a w K Q else E := by
  have hw : Region.wanted o (yielded ops a.tmps) = true := by simp [Region.wanted, hg]
  rw [if_pos hw]
  unfold Oper.wp
  have e1 : ∀ w, (Deferred.ofValue (a.eval (Operand.func f)) #[x]).run P w = .ok ⟨.fn (.func f) #[], #[x]⟩ w := fun w => rfl
  simp [execOp, hop, resolve, invoke, builtin, hs, Result.andThen, e1, eg]
  rw [Oper.upon_enter]
  refine hc.mono ?_
  rintro e w' ⟨rfl, hR⟩
  exact hK w' hR
end Go.Proofs.YtpgbfkdknggceaaGreatDoor

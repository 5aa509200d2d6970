/-
 Inv, Rgn, joined.
 Conditions: as each theorem says.
-/
import Derived.WalkKit
import Derived.Deep.RegionLaw
set_option linter.unusedVariables false
namespace Go.Proofs.YtpboencfnjmmbaaGreatDoor
theorem ready_spec {md : Region.Mode} {ops : Array Oper} {listed : Array Bool} {i : Nat} (h : i ∈ Region.ready md ops listed) : i < ops.size ∧ listed.getD i true = false := by
 simp only [Region.ready, List.mem_filter, List.mem_range, Bool.and_eq_true, Bool.not_eq_true'] at h
 exact ⟨h.1, h.2.1⟩
theorem wpAny_inv {P : Program} {md : Region.Mode} {ops : Array Oper} {Q : Exit → Act → World → Prop} {I : Array Bool → Act → World → Prop}
 (hstep : ∀ (listed : Array Bool) (a : Act) (w : World) (i : Nat), listed.size = ops.size → I listed a w → i ∈ Region.ready md ops listed → ∀ K : Act → World → Prop, (∀ a' w', I (listed.setIfInBounds i true) a' w' → K a' w') → wpOp P ops Q i K a w)
 (hend : ∀ (listed : Array Bool) (a : Act) (w : World), listed.size = ops.size → I listed a w → Region.ready md ops listed = [] → Q .normal a w) :
 ∀ (fuel : Nat) (listed : Array Bool) (a : Act) (w : World), listed.size = ops.size → ops.size ≤ listed.toList.count true + fuel → I listed a w → wpAny P md ops Q fuel listed a w := by
 intro fuel
 induction fuel with
 | zero =>
  intro listed a w hs hc hI
  have hall : ∀ b ∈ listed.toList, true = b := List.count_eq_length.1 (Nat.le_antisymm List.count_le_length (by rw [Array.length_toList]; omega))
  have hr : Region.ready md ops listed = [] := by
   apply List.eq_nil_iff_forall_not_mem.2
   intro i hi
   obtain ⟨h1, h2⟩ := ready_spec hi
   have h3 : listed[i]? = some listed[i] := Array.getElem?_eq_getElem (by omega)
   have h4 := hall listed[i] (by simp)
   rw [Array.getD_eq_getD_getElem?, h3, ← h4] at h2
   simp at h2
  exact ⟨hr, hend listed a w hs hI hr⟩
 | succ fuel ih =>
  intro listed a w hs hc hI
  refine ⟨fun hr => hend listed a w hs hI hr, fun i hi => hstep listed a w i hs hI hi _ fun a' w' hI' => ih _ a' w' (by simpa using hs) ?_ hI'⟩
  obtain ⟨h1, h2⟩ := ready_spec hi
  have h3 : listed[i]? = some listed[i] := Array.getElem?_eq_getElem (by omega)
  rw [Array.getD_eq_getD_getElem?, h3] at h2
  simp only [Option.getD_some] at h2
  have h5 : listed.toList[i]'(by simp; omega) = false := by simpa using h2
  rw [Array.toList_setIfInBounds, List.count_set (by simp; omega), h5, if_neg (by simp), if_pos (by simp)]
  omega
end Go.Proofs.YtpboencfnjmmbaaGreatDoor
namespace Go.Proofs.YtpboencfnjmmbaaGreatDoor
def more (l : Nat → Bool) (i : Nat) : Nat → Bool := fun j => decide (j = i) || l j
theorem more_self (l : Nat → Bool) (i : Nat) : more l i i = true := by simp [more]
theorem more_ne (l : Nat → Bool) {i j : Nat} (h : j ≠ i) : more l i j = l j := by simp [more, h]
theorem more_of (l : Nat → Bool) {i j : Nat} (h : l j = true) : more l i j = true := by simp [more, h]
def Closed (ops : Array Oper) (l : Nat → Bool) : Prop := ∀ (i : Nat) (o : Oper), ops[i]? = some o → l i = true → ∀ e ∈ o.after, Region.binds .any e = true → l e.on = true
def Behind (ops : Array Oper) (l : Nat → Bool) (i : Nat) : Prop := ∀ (o : Oper), ops[i]? = some o → ∀ e ∈ o.after, Region.binds .any e = true → l e.on = true
def ordered (ops : Array Oper) : Bool := (List.range ops.size).all fun i => ((ops[i]?).map fun o => o.after.all fun e => !Region.binds .any e || decide (e.on < i)).getD true
theorem getD_set (listed : Array Bool) (i j : Nat) (hi : i < listed.size) : (listed.setIfInBounds i true).getD j false = (decide (j = i) || listed.getD j false) := by
 rw [Array.getD_eq_getD_getElem?, Array.getD_eq_getD_getElem?, Array.getElem?_setIfInBounds]
 by_cases h : i = j
 ·subst h; simp [hi]
 ·simp [h, Ne.symm h]
theorem region_inv {P : Program} {ops : Array Oper} {Q : Exit → Act → World → Prop} {id : Nat} {a : Act} {w : World} (I : (Nat → Bool) → Act → World → Prop)
 (hm : P.follows .mixedOrders = true) (hord : ordered ops = true)
 (h0 : I (fun _ => false) a w.drew)
 (hstep : ∀ (i : Nat), i < ops.size → ∀ (l : Nat → Bool) (a : Act) (w : World), Closed ops l → l i = false → Behind ops l i → I l a w → ∀ K : Act → World → Prop, (∀ a' w', I (more l i) a' w' → K a' w') → wpOp P ops Q i K a w)
 (hend : ∀ (l : Nat → Bool) (a : Act) (w : World), (∀ i, i < ops.size → l i = true) → I l a w → Q .normal a w) : (Code.region id ops true).wp P Q a w := by
 refine wp_region_any hm ?_
 refine wpAny_inv (I := fun listed a W => Closed ops (fun j => listed.getD j false) ∧ I (fun j => listed.getD j false) a W) ?_ ?_ _ _ _ _ (by simp) (by simp) ?_
 ·rintro listed a w i hs ⟨hC, hI⟩ hi K hK
  obtain ⟨h1, h2⟩ := ready_spec hi
  have hls : i < listed.size := by omega
  have hun : listed.getD i false = false := by
   rw [Array.getD_eq_getD_getElem?] at h2 ⊢
   rw [Array.getElem?_eq_getElem hls] at h2 ⊢
   simpa using h2
  have hB : Behind ops (fun j => listed.getD j false) i := by
   intro o ho e he hb
   simp only [Region.ready, List.mem_filter, List.mem_range, Bool.and_eq_true, ho, Option.map_some, Option.getD_some] at hi
   have := Array.all_eq_true_iff_forall_mem.1 hi.2.2 e he
   simpa [hb] using this
  have hl : (fun j => (listed.setIfInBounds i true).getD j false) = more (fun j => listed.getD j false) i := funext fun j => getD_set listed i j hls
  refine hstep i h1 _ a w hC hun hB hI K fun a' w' hI' => hK a' w' ⟨?_, by rw [hl]; exact hI'⟩
  rw [hl]
  intro j o ho hj e he hb
  by_cases hji : j = i
  ·subst hji
   exact more_of _ (hB o ho e he hb)
  ·rw [more_ne _ hji] at hj
   exact more_of _ (hC j o ho hj e he hb)
 ·rintro listed a w hs ⟨hC, hI⟩ hr
  refine hend _ a w (fun i hi => ?_) hI
  induction i using Nat.strongRecOn with
  | ind i ih =>
   have ho : ops[i]? = some ops[i] := Array.getElem?_eq_getElem hi
   have hls : listed[i]? = some listed[i] := Array.getElem?_eq_getElem (by omega)
   cases hx : listed[i] with
   | true => show listed.getD i false = true; rw [Array.getD_eq_getD_getElem?, hls, hx]; rfl
   | false =>
    have hin : i ∈ Region.ready .any ops listed := by
     simp only [Region.ready, List.mem_filter, List.mem_range, Bool.and_eq_true, ho, Option.map_some, Option.getD_some]
     refine ⟨hi, by rw [Array.getD_eq_getD_getElem?, hls, hx]; rfl, ?_⟩
     rw [Array.all_eq_true_iff_forall_mem]
     intro e he
     cases hb : Region.binds .any e with
     | false => rfl
     | true =>
      have h2 := List.all_eq_true.1 hord i (List.mem_range.2 hi)
      rw [ho] at h2
      simp only [Option.map_some, Option.getD_some] at h2
      have h3 := Array.all_eq_true_iff_forall_mem.1 h2 e he
      rw [hb] at h3
      simp only [Bool.not_true, Bool.false_or, decide_eq_true_eq] at h3
      simpa using ih e.on h3 (by omega)
    rw [hr] at hin
    simp at hin
 ·refine ⟨?_, ?_⟩
  ·intro i o ho hi
   simp only at hi
   rw [Array.getD_eq_getD_getElem?, Array.getElem?_replicate] at hi
   split at hi <;> simp at hi
  ·have e : (fun j => (Array.replicate ops.size false).getD j false) = fun _ => false := by
    funext j
    rw [Array.getD_eq_getD_getElem?, Array.getElem?_replicate]
    split <;> rfl
   rw [e]
   exact h0
theorem eval_put (a : Act) (d k : Nat) (v : Value) (hd : d < a.tmps.size) : (a.put (some d) v).eval (.tmp k) = if k = d then v else a.eval (.tmp k) := by
 simp only [Act.put, Act.eval]
 by_cases h : k = d
 ·subst h; simp [hd]
 ·rw [if_neg h]
  simp [Ne.symm h]
theorem put_size (a : Act) (d : Option Nat) (v : Value) : (a.put d v).tmps.size = a.tmps.size := by
 cases d <;> simp [Act.put]
theorem put_defers (a : Act) (d : Option Nat) (v : Value) : (a.put d v).defers = a.defers := by
 cases d <;> simp [Act.put]
structure Sh (ops : Array Oper) (val : Nat → Option Value) (a0 : Act) (l : Nat → Bool) (a : Act) : Prop where
 size : a.tmps.size = a0.tmps.size
 defers : a.defers = a0.defers
 keep : ∀ k, (∀ (i : Nat) (o : Oper), ops[i]? = some o → o.dst ≠ some k) → a.eval (.tmp k) = a0.eval (.tmp k)
 val : ∀ (i : Nat) (o : Oper) (d : Nat) (v : Value), ops[i]? = some o → o.dst = some d → val i = some v → l i = true → a.eval (.tmp d) = v
def onceIn (ops : Array Oper) (n : Nat) : Bool := (List.range ops.size).all fun i => (((ops[i]?).bind (·.dst)).map fun d => decide (d < n) && (List.range ops.size).all fun j => decide (i = j) || decide (((ops[j]?).bind (·.dst)) ≠ some d)).getD true
theorem onceIn_lt {ops : Array Oper} {n i d : Nat} {o : Oper} (h : onceIn ops n = true) (ho : ops[i]? = some o) (hd : o.dst = some d) : d < n ∧ ∀ (j : Nat) (p : Oper), ops[j]? = some p → p.dst = some d → i = j := by
 have hi : i < ops.size := by
  rcases Nat.lt_or_ge i ops.size with h | h
  ·exact h
  ·rw [Array.getElem?_eq_none h] at ho; cases ho
 have h1 := List.all_eq_true.1 h i (List.mem_range.2 hi)
 rw [ho] at h1
 simp only [Option.bind_some, hd, Option.map_some, Option.getD_some, Bool.and_eq_true, decide_eq_true_eq] at h1
 refine ⟨h1.1, fun j p hj hp => ?_⟩
 have hjl : j < ops.size := by
  rcases Nat.lt_or_ge j ops.size with h | h
  ·exact h
  ·rw [Array.getElem?_eq_none h] at hj; cases hj
 have h2 := List.all_eq_true.1 h1.2 j (List.mem_range.2 hjl)
 rw [hj] at h2
 simp only [Option.bind_some, hp, ne_eq, not_true_eq_false, decide_false, Bool.or_false, decide_eq_true_eq] at h2
 exact h2
theorem Sh.put {ops : Array Oper} {val : Nat → Option Value} {a0 : Act} {l : Nat → Bool} {a : Act} (h : Sh ops val a0 l a) {i d : Nat} {o : Oper} {v : Value} (hon : onceIn ops a0.tmps.size = true) (ho : ops[i]? = some o) (hd : o.dst = some d) (hv : ∀ u, val i = some u → u = v) : Sh ops val a0 (more l i) (a.put (some d) v) := by
 obtain ⟨h1, h2⟩ := onceIn_lt hon ho hd
 rw [← h.size] at h1
 refine ⟨(put_size _ _ _).trans h.size, (put_defers _ _ _).trans h.defers, fun k hk => ?_, fun j p dj u hj hdj hu hl => ?_⟩
 ·rw [eval_put _ _ _ _ h1, if_neg (fun e => hk i o ho (by rw [e]; exact hd))]
  exact h.keep k hk
 ·rw [eval_put _ _ _ _ h1]
  by_cases e : dj = d
  ·rw [if_pos e]
   have := h2 j p hj (by rw [hdj, e])
   subst this
   exact (hv u hu).symm
  ·rw [if_neg e]
   have hne : j ≠ i := by
    rintro rfl
    rw [ho] at hj
    cases hj
    rw [hd] at hdj
    cases hdj
    exact e rfl
   rw [more_ne _ hne] at hl
   exact h.val j p dj u hj hdj hu hl
theorem Sh.none {ops : Array Oper} {val : Nat → Option Value} {a0 : Act} {l : Nat → Bool} {a : Act} (h : Sh ops val a0 l a) {i : Nat} {o : Oper} (ho : ops[i]? = some o) (hd : o.dst = none) : Sh ops val a0 (more l i) a := by
 refine ⟨h.size, h.defers, h.keep, fun j p dj u hj hdj hu hl => ?_⟩
 have hne : j ≠ i := by
  rintro rfl
  rw [ho] at hj
  cases hj
  rw [hd] at hdj
  cases hdj
 rw [more_ne _ hne] at hl
 exact h.val j p dj u hj hdj hu hl
theorem eval_other {a : Act} {d k : Nat} {v : Value} (h : k ≠ d) : (a.put (some d) v).eval (.tmp k) = a.eval (.tmp k) := by
 simp only [Act.put, Act.eval]
 simp [Ne.symm h]
theorem wpOp_run {P : Program} {ops : Array Oper} {Q : Exit → Act → World → Prop} {i : Nat} {K : Act → World → Prop} {a : Act} {w : World} {o : Oper} {v : Value} {w' : World} (ho : ops[i]? = some o) (hg : o.guard = none) (hr : (execOp a.eval o).run P w = .ok (.value v) w') (hK : K (a.put o.dst v) w') : wpOp P ops Q i K a w := by
 unfold wpOp
 rw [ho]
 simp only
 have hw : Region.wanted o (yielded ops a.tmps) = true := by simp [Region.wanted, hg]
 rw [if_pos hw]
 left
 unfold Oper.wp
 rw [hr]
 exact hK
theorem wpOp_call {P : Program} {ops : Array Oper} {Q : Exit → Act → World → Prop} {i : Nat} {K : Act → World → Prop} {a : Act} {w : World} {o : Oper} {f : Nat} {args : Array Value} {R : Value → World → Prop} (ho : ops[i]? = some o) (hg : o.guard = none) (hr : (execOp a.eval o).run P w = .ok (.enter f args) w) (hc : Calls P f args w fun e w' => ∃ v, e = .returned v ∧ R v w') (hK : ∀ v w', R v w' → K (a.put o.dst v) w') : wpOp P ops Q i K a w := by
 unfold wpOp
 rw [ho]
 simp only
 have hw : Region.wanted o (yielded ops a.tmps) = true := by simp [Region.wanted, hg]
 rw [if_pos hw]
 left
 unfold Oper.wp
 rw [hr, Oper.upon_enter]
 refine hc.mono ?_
 rintro e w' ⟨v, rfl, hR⟩
 exact hK v w' hR
def over (t : Array Value) (f : Nat → Value) : List Nat → Array Value
 | [] => t
 | d :: l => over (t.setIfInBounds d (f d)) f l
theorem over_size (f : Nat → Value) (D : List Nat) (t : Array Value) : (over t f D).size = t.size := by
 induction D generalizing t with
 | nil => rfl
 | cons d D ih => simp [over, ih]
theorem over_get (f : Nat → Value) (D : List Nat) (t : Array Value) (k : Nat) (hk : k < t.size) : (over t f D)[k]? = if k ∈ D then some (f k) else t[k]? := by
 induction D generalizing t with
 | nil => simp [over]
 | cons d D ih =>
  rw [over, ih _ (by simpa using hk)]
  by_cases h : k ∈ D
  ·simp [h]
  ·by_cases e : k = d
   ·subst e; simp [h, hk]
   ·simp [h, e, Ne.symm e]
theorem Sh.frame {ops : Array Oper} {val : Nat → Option Value} {a0 : Act} {l : Nat → Bool} {a : Act} (h : Sh ops val a0 l a) (D : List Nat) (hD : ops.toList.filterMap (·.dst) = D) : a = { tmps := over a0.tmps (fun k => a.eval (.tmp k)) D, defers := a0.defers } := by
 have hsz := h.size
 have hdf := h.defers
 have hk := h.keep
 clear h
 obtain ⟨tmps, defers⟩ := a
 simp only at hsz hdf
 subst hdf
 congr 1
 apply Array.ext'
 apply List.ext_getElem?
 intro k
 rw [Array.getElem?_toList, Array.getElem?_toList]
 rcases Nat.lt_or_ge k tmps.size with hlt | hge
 ·rw [over_get _ _ _ _ (by omega)]
  split
  ·simp [Act.eval, hlt]
  ·rename_i hn
   have := hk k (fun i o ho hd => hn (by rw [← hD]; exact List.mem_filterMap.2 ⟨o, by simpa using Array.mem_of_getElem? ho, hd⟩))
   simp only [Act.eval, Array.getD_eq_getD_getElem?] at this
   rw [Array.getElem?_eq_getElem hlt, Array.getElem?_eq_getElem (by omega)] at this ⊢
   simpa using this
 ·rw [Array.getElem?_eq_none hge, Array.getElem?_eq_none (by rw [over_size]; omega)]
theorem eval_tmp (a : Act) (k : Nat) : a.eval (.tmp k) = a.tmps[k]?.getD undef := by simp [Act.eval]
def notDst (ops : Array Oper) (k : Nat) : Bool := ops.all fun o => o.dst != some k
theorem Sh.kept {ops : Array Oper} {val : Nat → Option Value} {a0 : Act} {l : Nat → Bool} {a : Act} (h : Sh ops val a0 l a) (k : Nat) (hk : notDst ops k = true) : a.eval (.tmp k) = a0.eval (.tmp k) :=
 h.keep k fun i o ho hd => by
  have := Array.all_eq_true_iff_forall_mem.1 hk o (Array.mem_of_getElem? ho)
  rw [hd] at this
  simp at this
theorem Sh.get {ops : Array Oper} {val : Nat → Option Value} {a0 : Act} {l : Nat → Bool} {a : Act} {i : Nat} (h : Sh ops val a0 l a) (hB : Behind ops l i) {o : Oper} (ho : ops[i]? = some o) (j : Nat) (hj : ⟨j, .data⟩ ∈ o.after) {p : Oper} {d : Nat} {v : Value} (hp : ops[j]? = some p) (hd : p.dst = some d) (hv : val j = some v) : a.eval (.tmp d) = v :=
 h.val j p d v hp hd hv (hB o ho ⟨j, .data⟩ hj rfl)
theorem region_sh {P : Program} {ops : Array Oper} {Q : Exit → Act → World → Prop} {id : Nat} {a0 : Act} {w : World} (val : Nat → Option Value) (J : (Nat → Bool) → Act → World → Prop)
 (hm : P.follows .mixedOrders = true) (hord : ordered ops = true) (hon : onceIn ops a0.tmps.size = true)
 (h0 : J (fun _ => false) a0 w.drew)
 (hstep : onceIn ops a0.tmps.size = true → ∀ (i : Nat), i < ops.size → ∀ (l : Nat → Bool) (a : Act) (w : World), Closed ops l → l i = false → Behind ops l i → Sh ops val a0 l a → J l a w → ∀ K : Act → World → Prop, (∀ a' w', Sh ops val a0 (more l i) a' → J (more l i) a' w' → K a' w') → wpOp P ops Q i K a w)
 (hend : ∀ (l : Nat → Bool) (a : Act) (w : World), (∀ i, i < ops.size → l i = true) → Sh ops val a0 l a → J l a w → Q .normal a w) : (Code.region id ops true).wp P Q a0 w :=
 region_inv (fun l a w => Sh ops val a0 l a ∧ J l a w) hm hord ⟨⟨rfl, rfl, fun _ _ => rfl, fun _ _ _ _ _ _ _ h => by simp at h⟩, h0⟩
  (fun i hi l a w hC hl hB hI K hK => hstep hon i hi l a w hC hl hB hI.1 hI.2 K fun a' w' h1 h2 => hK a' w' ⟨h1, h2⟩)
  (fun l a w hl hI => hend l a w hl hI.1 hI.2)
theorem closed_not {ops : Array Oper} {l : Nat → Bool} (hC : Closed ops l) {i j : Nat} (hj : l j = false) {o : Oper} (ho : ops[i]? = some o) {g : Ground} (he : ⟨j, g⟩ ∈ o.after) (hb : Region.binds .any ⟨j, g⟩ = true) : l i = false := by
 cases h : l i with
 | false => rfl
 | true => exact absurd (hC i o ho h ⟨j, g⟩ he hb) (by simp [hj])
end Go.Proofs.YtpboencfnjmmbaaGreatDoor

/-
  SweepCollects: the cache's copy; Collect behind the laws' Make: what is there, how many went, what the cache has.
  Conditions: as each theorem says.
-/
import Derived.Test.YtebcojkeblpbjaaSwKeep
import Derived.Test.YtebcojkeblpbjaaForget
import Derived.Test.YtebcojkeblpbjaaCollectW
namespace Go.Proofs.Ytebcojkeblpbjaa
open Go.ChangeShapes Go.WideShapes Go.ChangeAt Go.RowKit Go.Maps Go.Sort Go.Lib
set_option linter.unusedVariables false
set_option maxRecDepth 100000 in
theorem clone_cache (b : Nat) (es : Array MapEntry) (clock : Nat) (w : World) (hb : w.heap[b]? = some (.map es clock)) :
    Calls Try.prog 25 #[.map (some b)] w fun e w' => e = .returned (.map (some w.heap.size)) ∧ w' = w.alloc (.map es clock) := by
  have hq : ∀ (w : World) (r : Option Nat), (binOp .eql 55 (.map r) (.map none)).run Try.prog w = .ok (.bool r.isNone) w := fun w r => run_eql_map_nil w _ _ _ r Try.underlying55
  go_enter Try.func25, Try.ntmps25
  go_wp2
  rw [run_callFunc_extern Try.func48 (by kernel_rfl) (by kernel_rfl) (by kernel_rfl) (e := Extern.MapsClone.clone) (by kernel_rfl), run_maps_clone_sl w 55 hb]
  simp only [Result.andThen]
  rw [Oper.upon_value]
  go_wp2
  rw [run_typeAssert_map_sl _ 55 20 _ _ _ Try.underlying55]
  simp only [Result.andThen]
  rw [Oper.upon_value]
  go_wp2
  go_ret
  exact ⟨rfl, rfl⟩
/-- The copy, and what it was made of. -/
theorem clone_ch {w : World} {c n : Nat} {f : Int → Int → Option Int} {D : DataW Unit} (h : ChD w c n f D) :
    Calls Try.prog 25 #[.map (some c)] w fun e w' => e = .returned (.map (some w.heap.size)) ∧ ChD w' w.heap.size n f D ∧ ChD w' c n f D ∧ Below w.heap.size w w' := by
  have hlt := h.own.lt
  obtain ⟨es, clock, hb, F, hs, hD⟩ := h.own
  refine (clone_cache c es clock w hb).mono fun e w' ⟨he, hw⟩ => ?_
  subst hw
  exact ⟨he, ⟨⟨es, clock, heap_alloc_new w _, F, hs, hD⟩, h.rng, h.hit, h.all⟩, h.kept (Below.heap_alloc _ _ c hlt), (Below.refl _ w).alloc (Nat.le_refl _) _⟩
theorem nodup_len {α : Type} : ∀ {l m : List α}, l.Nodup → (∀ x ∈ l, x ∈ m) → l.length ≤ m.length
  | [], m, _, _ => by simp
  | x :: l, m, h, hs => by
    obtain ⟨h1, h2⟩ := List.nodup_cons.1 h
    obtain ⟨a, b, rfl⟩ := List.append_of_mem (hs x (by simp))
    have := nodup_len (l := l) (m := a ++ b) h2 (fun y hy => by
      have hy2 := hs y (by simp [hy])
      simp only [List.mem_append, List.mem_cons] at hy2 ⊢
      rcases hy2 with h3 | h3 | h3
      · exact .inl h3
      · subst h3; exact absurd hy h1
      · exact .inr h3)
    simp at this ⊢
    omega
theorem size_sub {w w' : World} {c c' n n' : Nat} {f f' : Int → Int → Option Int} {D D' : DataW Unit} (h : ChD w c n f D) (h' : ChD w' c' n' f' D') (hs : ∀ m t p, f' m t = some p → f m t = some p) : Maps.size D' ≤ Maps.size D := by
  have hh : ∀ kl, Maps.has D' kl = true → Maps.has D kl = true := fun kl hk => by
    obtain ⟨m, t, p, rfl, hp⟩ := h'.all kl hk
    exact (h.hit m t p (hs m t p hp)).1
  obtain ⟨es, rfl, hp, hk⟩ := h.own.entries keyedE
  obtain ⟨es', rfl, hp', hk'⟩ := h'.own.entries keyedE
  show es'.length ≤ es.length
  have := nodup_len (l := es'.map Prod.fst) (m := es.map Prod.fst) (List.pairwise_map.2 hp') (fun x hx => by
    obtain ⟨p, hpm, rfl⟩ := List.mem_map.1 hx
    have h1 : Maps.has (.map es') p.1 = true := List.any_eq_true.2 ⟨p, hpm, WideAt.sameKey_self (hk' p hpm)⟩
    obtain ⟨q, hq, hqs⟩ := List.any_eq_true.1 (hh _ h1)
    exact List.mem_map.2 ⟨q, hq, WideAt.sameKey_eq hqs⟩)
  simpa using this
theorem stay_sub {s : St} {dd : Int → Bool} {f : Int → Int → Option Int} (m t p : Int) (h : stayF s dd f m t = some p) : f m t = some p := (Option.filter_eq_some_iff.1 h).1
/-- How many of the first k are not marked. -/
def goneTo (F : Nat → Bool) (k : Nat) : Nat := (List.range k).countP fun i => !F i
theorem goneTo_succ (F : Nat → Bool) (k : Nat) : (goneTo F (k + 1) : Int) = goneTo F k + (1 - b01 (F k)) := by
  unfold goneTo
  rw [List.range_succ, List.countP_append]
  cases h : F k <;> simp [h, b01]
theorem goneTo_le (F : Nat → Bool) (k : Nat) : goneTo F k ≤ k := by
  have := List.countP_le_length (p := fun i => !F i) (l := List.range k)
  simpa [goneTo] using this
theorem refN_one (i : Nat) : refN 1 i = refI i := by unfold refN refI; omega
theorem allFrom_refs : ∀ {l : List Sl} {i : Nat}, (∀ (j : Nat) (sl : Sl), l[j]? = some sl → sl.uses = 1 ∧ sl.obj.isSome = true) → allFrom i l = (List.range' i l.length).map refI
  | [], i, _ => rfl
  | s :: l, i, h => by
    obtain ⟨h1, h2⟩ := h 0 s rfl
    rw [allFrom, if_pos h2, allFrom_refs (fun j sl hj => h (j + 1) sl (by simpa using hj)), h1, refN_one]
    simp [List.range'_succ]
theorem Mk.allOf {w0 w : World} {ab : Nat} {L : List OO} {done : Nat → List Int} {B M : Nat → Nat} {s : St} (h : Mk w0 w ab L done B M s L.length) : allOf s = (List.range L.length).map refI := by
  rw [allOf_eq, allFrom_refs (fun j sl hj => by obtain ⟨oo, _, _, rfl⟩ := h.row hj; exact ⟨rfl, rfl⟩), h.len, List.range_eq_range']
theorem gone_count {S : List Int} {F : Nat → Bool} {n : Nat} (h : ∀ i, i < n → S.contains (refI i) = F i) : ((List.range n).map refI).countP (outOf S) = goneTo F n := by
  rw [List.countP_map]
  unfold goneTo
  refine List.countP_congr (fun i hi => ?_)
  have := h i (List.mem_range.1 hi)
  simp only [Function.comp, outOf, this]
theorem gone_look {w0 w : World} {ab : Nat} {L : List OO} {done : Nat → List Int} {B M : Nat → Nat} {s s' : St} {S : List Int} {F : Nat → Bool} {p q : Int} (h : Mk w0 w ab L done B M s L.length) (hg : Gone s s' (allOf s) S p q) (hl : L.length ≤ 1000) (hF : ∀ i, i < L.length → S.contains (refI i) = F i) {i : Nat} (hi : i < L.length) : (look s'.slots (refI i)).isSome = F i := by
  obtain ⟨oo, hoo⟩ : ∃ oo, L[i]? = some oo := ⟨_, List.getElem?_eq_getElem hi⟩
  have h1 := hg.slot i _ (h.slot i oo hi hoo)
  have e1 : (refI i % 4294967296).toNat = i := by unfold refI; omega
  have e2 : refI i / 4294967296 = 1 := by unfold refI; omega
  have hm : (allOf s).contains (refI i) = true := by rw [h.allOf]; simp; exact ⟨i, hi, rfl⟩
  simp only [refN_one, hm, hF i hi, Bool.true_and] at h1
  rw [look, e1, e2, h1]
  cases F i <;> simp
/-- Collect behind Make. -/
theorem collected_any {w w0 W : World} {bd rg cr : Nat} {d : Int} {ov rv : Value} {lr : List Int} {ab cb n : Nat} {L : List OO} {done : Nat → List Int} {B M : Nat → Nat} {s : St} {f : Int → Int → Option Int} {fv : Value} (h : Jr w w0 W bd rg cr d ov rv lr ab L done B M s) (hC : Ch W cb n f) (hr : RootsAt W fv (picks L.length lr)) :
    Calls Try.prog 27 #[.pointer (some ⟨ab, 0, none⟩), fv, .map (some cb), .func (.func 26) #[] #[.pointer (some ⟨bd, 0, none⟩)]] W fun e w' => ∃ s' F, F = rnds (nmL L (ddOf d)) L.length L.length (fun j => (nums L.length lr).contains j) ∧ e = .returned (.int .i64 (goneTo F L.length : Nat)) ∧ Arn w0.heap.size ab w' s' ∧ Ch w' cb n (stayF s' (ddOf d) f) ∧ (∀ i, i < L.length → (look s'.slots (refI i)).isSome = F i) ∧ s'.accs = [((L.length : Int) - (goneTo F L.length : Nat), (L.length : Int))] ∧ ∃ V, Fr isA w0.heap.size W V ∧ V.grownBy w' (some cb) := by
  have hl : L.length ≤ 1000 := Nat.le_trans h.l1 (by decide)
  obtain ⟨es, clock, hm⟩ := hC.block
  have hlb := lt_of_block h.boxd
  refine (collect_any (RF := fun V s' w' => Ch w' cb n (stayF s' (ddOf d) f) ∧ V.grownBy w' (some cb)) h.made.arn (h.made.objs h.hd hl (fun j oo hj => ⟨Nat.le_trans (h.hn j oo hj).1 (by decide), (h.hn j oo hj).2⟩)) (by rw [h.made.len]; exact Nat.le_trans hl (by decide)) h.made.uses hr (picks_range h.l0 hl) (dead_FC h.boxd h.d0 h.d1) h.made.accs (by have := h.l1; omega) (by rw [h.made.un]; simp) h.made.owner hm (fun V s' hA hF => forget_any hA (hC.kept ((hF.map hm).trans hm.symm)) (fun X hg => dead_FC (bd := bd) (d := d) ?_ h.d0 h.d1))).mono ?_
  · have hb1 := hF.block h.boxd (by decide)
    refine (hg.block _ (lt_of_block hb1) (fun e => ?_)).trans hb1
    cases e
    rw [h.boxd] at hm; cases hm
  · rintro e w' ⟨S, rfl, hin, V, s', hA, hF, hG, hC', hg⟩
    obtain ⟨m1, m2⟩ := set_marks (roots := picks L.length lr) (lr := lr) h.made h.hd h.l1 h.l0 (fun x hx _ => hx) (fun x hx => hx) hin
    have hcnt : (allOf s).countP (outOf S) = goneTo (rnds (nmL L (ddOf d)) L.length L.length (fun j => (nums L.length lr).contains j)) L.length := by rw [h.made.allOf]; exact gone_count m1
    refine ⟨s', _, rfl, by rw [hcnt], ?_, hC', fun i hi => gone_look h.made hG hl m1 hi, by rw [hG.accs, hcnt], V, hF, hg⟩
    have hmV := hF.map hm
    exact hA.kept fun j cs t hj ht => hg.block j (lt_of_block hj) (fun e => by cases e; rw [hmV] at hj; cases hj)
end Go.Proofs.Ytebcojkeblpbjaa

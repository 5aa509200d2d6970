/-
  SweepJoins: what is reached from two rows of roots is what is reached from the one, or the other; roots that are there are reached.
  Conditions: as each theorem says.
-/
import Derived.Test.YtebcojkeblpbjaaSwDead
import Derived.Test.YtebcojkeblpbjaaAwake4
namespace Go.Proofs.Ytebcojkeblpbjaa
open Go.ChangeShapes Go.WideShapes Go.ChangeAt Go.RowKit Go.Maps Go.Sort Go.Lib
set_option linter.unusedVariables false
theorem rch_join {lv : Int → Bool} {nm : Int → List Int} {a b : List Int} {x : Int} : Rch lv nm (a ++ b) x ↔ Rch lv nm a x ∨ Rch lv nm b x := by
  constructor
  · intro h
    induction h with
    | root x hx hl => 
      rcases List.mem_append.1 hx with hx | hx
      · exact .inl (.root x hx hl)
      · exact .inr (.root x hx hl)
    | step x y _ hy hl ih =>
      rcases ih with ih | ih
      · exact .inl (.step x y ih hy hl)
      · exact .inr (.step x y ih hy hl)
  · rintro (h | h)
    · induction h with
      | root x hx hl => exact .root x (List.mem_append.2 (.inl hx)) hl
      | step x y _ hy hl ih => exact .step x y ih hy hl
    · induction h with
      | root x hx hl => exact .root x (List.mem_append.2 (.inr hx)) hl
      | step x y _ hy hl ih => exact .step x y ih hy hl
theorem has_join {lv : Int → Bool} {nm : Int → List Int} {a b S1 S2 S3 : List Int} (h1 : ∀ x, x ∈ S1 ↔ Rch lv nm a x) (h2 : ∀ x, x ∈ S2 ↔ Rch lv nm b x) (h3 : ∀ x, x ∈ S3 ↔ Rch lv nm (a ++ b) x) (x : Int) : S3.contains x = (S1.contains x || S2.contains x) := by
  rw [Bool.eq_iff_iff]
  simp [h1, h2, h3, rch_join]
theorem light_facts {L : List OO} {r : List Int} (h : lightB L r = true) : (∀ (j : Nat) (oo : OO), L[j]? = some oo → oo.names.length ≤ 10) ∧ L.length ≤ 30 ∧ 0 < L.length ∧ r.length ≤ 10 := by
  simp [lightB] at h
  exact ⟨fun j oo hj => h.1 oo (List.mem_of_getElem? hj), h.2.1.1, h.2.1.2, h.2.2⟩
theorem ORowU.below {w w' : World} {v : Value} {L : List OO} (h : ORowU w v L) (hb : Below w.heap.size w w') : ORowU w' v L := by
  obtain ⟨b, off, cap, h1, h2, h3, h4⟩ := h
  exact ⟨b, off, cap, h1, h2, h3, fun i oo hi => (h4 i oo hi).below hb⟩
theorem ORowU.row {w : World} {v : Value} {L : List OO} (h : ORowU w v L) (hn : ∀ (j : Nat) (oo : OO), L[j]? = some oo → oo.names.length ≤ 10) : ORow w v L := by
  obtain ⟨b, off, cap, h1, h2, h3, h4⟩ := h
  exact ⟨b, off, cap, h1, h2, h3, fun i oo hi => ⟨h4 i oo hi, Nat.le_trans (hn i oo hi) (by decide)⟩⟩
/-- append(v, u...) of two rows of Refs, the first its own. -/
theorem wpList_append_refs {ops : Array Oper} {rest : List Oper} {o : Oper} {a : Act} {w : World} {Q : Exit → Act → World → Prop} (hgd : o.guard = none) (s x : Operand)
    (ho : o.op = .call { callee := .builtin .append, args := #[s, x], argTypes := #[44, 44] }) (base : Nat) (v u : Value) (xs ys : List Int)
    (hs : a.eval s = v) (hown : w.ownsRow base 28 1 v xs.length (refRow xs)) (hx : a.eval x = u) (hu : RootsAt w u ys) (hl1 : xs.length ≤ 1000) (hl2 : ys.length ≤ 1000) (hbase : base ≤ w.heap.size)
    (h : ∀ v' w', w'.ownsRow base 28 1 v' (xs ++ ys).length (refRow (xs ++ ys)) → Below base w w' → wpList Try.prog ops Q rest (a.put o.dst v') w') : wpList Try.prog ops Q (o :: rest) a w := by
  obtain ⟨ti, hti, hz0, hz1, hz2⟩ := info_parts Try.info28
  have key : ∃ v' w', (Builtin.append_ #[44, 44] o.type #[v, u]).run Try.prog w = .ok v' w' ∧ w'.ownsRow base 28 1 v' (xs ++ ys).length (refRow (xs ++ ys)) ∧ Below base w w' := by
    rcases hu with ⟨rfl, rfl⟩ | ⟨g, off, cap, rfl, hc1, hc2, hg, hc⟩
    · refine ⟨v, w, run_append_owned_none (P := Try.prog) w base 44 o.type 28 ti 1 Try.underlying44 hti v xs.length (refRow xs) hown, ?_, Below.refl _ _⟩
      simpa using hown
    · obtain ⟨v', w', hr, h1, h2, _⟩ := run_append_own (P := Try.prog) w base 44 o.type 28 ti (.int .u64 0) 1 8 Try.underlying44 hti hz0 hz1 hz2 rfl (by decide) v xs.length (refRow xs) hown ⟨g, off, none⟩ ys.length cap (refRow ys) (by simp [refRow]) (fun j u hj => by
        simp [refRow] at hj
        obtain ⟨y, hy, rfl⟩ := hj
        have := hc j y hy
        by_cases h0 : j = 0
        · subst h0; simpa [Addr.add] using this
        · simpa [Addr.add, h0] using this) (by intro u hu; simp [refRow] at hu; obtain ⟨y, _, rfl⟩ := hu; rfl) (by unfold maxLen; omega) (by omega) hbase
      refine ⟨v', w', hr, ?_, (Below.refl base w).grown h2 hbase (fun j e => (hown.lt j e).1)⟩
      simpa [refRow] using h1
  obtain ⟨v', w', hr, h1, h2⟩ := key
  refine wpList_plain hgd fun K' hK' => ?_
  unfold Oper.wp
  simp [execOp, ho, resolve, invoke, builtin, hs, hx, hr, Result.andThen]
  exact hK' _ _ (h v' w' h1 h2)
theorem row_later {w w' : World} {base : Nat} {e : TypeId} {size n : Nat} {v : Value} {xs : List Value} (h : w.ownsRow base e size v n xs) (hb : Below w.heap.size w w') : w'.ownsRow base e size v n xs := by
  refine ⟨h.1, h.2.imp id ?_⟩
  rintro ⟨g, cap, cur, rfl, hbg, hg, rest⟩
  exact ⟨g, cap, cur, rfl, hbg, (hb.block g (lt_of_block hg)).trans hg, rest⟩
theorem picks_range {n : Nat} {l : List Int} (hn : 0 < n) (hn2 : n ≤ 1000) : ∀ x ∈ picks n l, 0 ≤ x ∧ x ≤ 18446744073709551615 := by
  intro x hx
  simp [picks] at hx
  obtain ⟨b, _, rfl⟩ := hx
  exact refI_range _ (by have := atN_lt n b hn; omega)
theorem row_roots {W : World} {base : Nat} {v : Value} {l : List Int} (h : W.ownsRow base 28 1 v l.length (refRow l)) : RootsAt W v l := by
  rcases row_lies h with h | ⟨g, _, h⟩
  · exact .inl h
  · exact .inr ⟨g, h⟩
theorem one_more (x y : Value) : #[x] ++ #[y] = #[x, y] := rfl
end Go.Proofs.Ytebcojkeblpbjaa

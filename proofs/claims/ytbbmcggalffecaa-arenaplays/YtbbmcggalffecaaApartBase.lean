/-
  What ArenaApart's loop carries, and what each of its steps makes of that; the contracts of ref.Set's Has and Add.
  Conditions: as each theorem says.
-/
import Derived.Test.YtbbmcggalffecaaAwake
import Derived.Test.YtbbmcggalffecaaLive
import Derived.Test.YtbbmcggalffecaaDel
import Derived.Maps.OwnSet
import Derived.Maps.AppendAt
import Derived.WalkSpells
namespace Go.Proofs.Ytbbmcggalffecaa
open Go.ChangeShapes Go.WideShapes Go.ChangeAt Go.RowKit Go.Maps
set_option linter.unusedVariables false
theorem key51 : Keyed Try.prog 51 := int_keyed Try.underlying51
theorem zero114 (w : World) : (zeroValue 114).run Try.prog w = .ok (.agg #[]) w := by kernel_rfl
section
variable {D : DataW Unit} {B n : Nat} {w : World}
theorem has_any (b : Bool) (x : Int) (hown : w.ownsMap Try.prog 51 unitElem B n D) (h0 : 0 ≤ x) (h1 : x ≤ 18446744073709551615) (hb : Maps.has D (.int .u64 x) = b) :
    Calls Try.prog 56 #[.map (some B), .int .u64 x] w fun e w' => e = .returned (.bool b) ∧ w' = w.alloc (.cells #[] 114) := by
  have hkey : keyOf Try.prog 51 (.int .u64 x) = some (.int .u64 x) := keyOf_int_mk Try.underlying51 (WalkArith.wf_u64 ⟨h0, h1⟩)
  go_enter Try.func56, Try.ntmps56
  go_wp2_with (at_lookup; refine wpList_lookup_own_unit _ rfl _ _ 75 rfl 51 114 key51 Try.underlying75 (zero114 _) B n D rfl hown _ _ rfl hkey ?_)
  go_ret
  exact ⟨rfl, rfl⟩
theorem add_new (x : Int) (hown : w.ownsMap Try.prog 51 unitElem B n D) (hn : n < maxLen) (h0 : 0 ≤ x) (h1 : x ≤ 18446744073709551615) (hb : Maps.has D (.int .u64 x) = false) :
    Calls Try.prog 27 #[.map (some B), .int .u64 x] w fun e w' => e = .returned (.bool true) ∧ w'.ownsMap Try.prog 51 (unitElem (H := Unit)) B (n + 1) (D.put (.int .u64 x) (.agg [])) ∧ (w.alloc (.cells #[] 114)).grownBy w' (some B) := by
  have hkey : keyOf Try.prog 51 (.int .u64 x) = some (.int .u64 x) := keyOf_int_mk Try.underlying51 (WalkArith.wf_u64 ⟨h0, h1⟩)
  have hnn : ∀ (w : World) (r : Option Nat), (binOp .neq 75 (.map r) (.map none)).run Try.prog w = .ok (.bool (!r.isNone)) w := fun w r => run_neq_map_nil w _ _ _ r Try.underlying75
  go_enter Try.func27, Try.ntmps27
  go_wp2_with (first
    | (go_at_call 56; refine (has_any false x hown h0 h1 hb).mono ?_; rintro e w' ⟨rfl, rfl⟩)
    | (at_mapUpdate; refine wpList_mapUpdate_own _ rfl _ _ _ 75 rfl 51 114 key51 Try.underlying75 (unitElem (H := Unit)) B n D rfl (hown.alloc _) hn _ _ _ rfl rfl hkey _ [] unitElem_mk ?_; intro w1 hown1 hgrow1))
  go_ret
  exact ⟨rfl, hown1, hgrow1⟩
end
theorem isKey64 {z : Int} : WideAt.IsKeyLit (.int .u64 z) := by
  simp [WideAt.IsKeyLit]
theorem Fr.map {T : Nat → Bool} {base : Nat} {w w' : World} (h : Fr T base w w') {B n : Nat} {D : DataW Unit} (hm : w.ownsMap Try.prog 51 unitElem B n D) : w'.ownsMap Try.prog 51 unitElem B n D := by
  have hlt := hm.lt
  obtain ⟨es, clock, hb, F, hs, hD⟩ := hm
  refine ⟨es, clock, (h.keep B hlt (fun ⟨_, cs, t, fz, h2, _⟩ => ?_)).trans hb, F, hs, hD⟩
  rw [hb] at h2; simp at h2
/-- A map's block is none of an arena's, nor a row's. -/
theorem map_ne {w : World} {B n k : Nat} {D : DataW Unit} {cs : Array Value} {t : TypeId} {fz : Nat × Nat} (hm : w.ownsMap Try.prog 51 unitElem B n D) (h : w.heap[k]? = some (.cells cs t fz)) : k ≠ B := by
  rintro rfl
  obtain ⟨es, clock, hb, _⟩ := hm
  rw [hb] at h; simp at h
def refN (u n : Nat) : Int := (u : Int) * 4294967296 + n
theorem refN_inj {u n u' n' : Nat} (h : refN u n = refN u' n') (hn : n < 4294967296) (hn' : n' < 4294967296) : u = u' ∧ n = n' := by
  unfold refN at h; omega
def refL (L : List Lv) : List Int := L.map fun p => refN p.u p.n
structure AS (s : St) (L : List Lv) (k : Nat) : Prop where
  live : Live s L
  accs : s.accs = [((L.length : Int), 8)]
  le : L.length ≤ 8
  sl : s.slots.length ≤ k
  us : ∀ (n : Nat) (sl : Sl), s.slots[n]? = some sl → sl.uses ≤ k
  un : s.unused.length ≤ k
  ok : ∀ p ∈ L, p.ow = 0 ∧ p.fu = p.mo + 1 ∧ 0 ≤ p.mo ∧ p.mo ≤ k
theorem AS.more {s : St} {L : List Lv} {k : Nat} (h : AS s L k) : AS s L (k + 1) :=
  ⟨h.live, h.accs, h.le, Nat.le_succ_of_le h.sl, fun n sl e => Nat.le_succ_of_le (h.us n sl e), Nat.le_succ_of_le h.un, fun p hp => by have := h.ok p hp; omega⟩
theorem AS.drop {s : St} {L : List Lv} {k : Nat} (h : AS s L k) (i : Nat) (p : Lv) (hp : L[i]? = some p) :
    AS ⟨s.accs.set 0 ((L.length : Int) - 1, 8), s.slots.set p.n ⟨p.u, none⟩, s.unused ++ [p.n]⟩ (L.eraseIdx i) (k + 1) := by
  have hi := lt_of_get hp
  have hl : (L.eraseIdx i).length = L.length - 1 := by simp [List.length_eraseIdx, hi]
  obtain ⟨b, kk, hb⟩ := h.live.at_ p (List.mem_of_getElem? hp)
  refine ⟨(h.live.drop i p hp _).1, ?_, by have := h.le; omega, by have := h.sl; simp; omega, fun n sl e => ?_, by have := h.un; simp; omega, fun q hq => by have := h.ok q (List.mem_of_mem_eraseIdx hq); omega⟩
  · simp only [h.accs, List.set_cons_zero, hl]
    congr 2; omega
  · simp only at e
    rw [List.getElem?_set] at e
    split at e
    · simp [lt_of_get hb] at e; subst e
      have := h.us _ _ hb; simp at this ⊢; omega
    · have := h.us n sl e; omega
theorem AS.put {s : St} {L : List Lv} {k n u : Nat} {l : List Sl} {un : List Nat} (h : AS s L k) (hlt : L.length < 8) (hf : Frees s n u l un) (B : Nat)
    (hB : ∀ (i : Nat) (sl : Sl) (b : Nat) (o : Ob), s.slots[i]? = some sl → sl.obj = some (b, o) → b ≠ B) :
    let s1 : St := ⟨s.accs.set 0 ((L.length : Int) + 1, 8), l.set n ⟨u + 1, some (B, ⟨0, 0, k, 0⟩)⟩, un⟩
    Live s1 (L ++ [⟨n, u + 1, 0, k, 0⟩]) ∧ AS ⟨s1.accs, s1.slots.set n ⟨u + 1, some (B, ⟨0, 0, k, (k : Int) + 1⟩)⟩, s1.unused⟩ (L ++ [⟨n, u + 1, 0, k, (k : Int) + 1⟩]) (k + 1) ∧ s1.slots[n]? = some ⟨u + 1, some (B, ⟨0, 0, k, 0⟩)⟩ ∧ u ≤ k ∧ n ≤ k ∧
      (∀ g, Past s g → g ≠ (n, u + 1) ∧ Past ⟨s1.accs, s1.slots.set n ⟨u + 1, some (B, ⟨0, 0, k, (k : Int) + 1⟩)⟩, s1.unused⟩ g) ∧ Past ⟨s1.accs, s1.slots.set n ⟨u + 1, some (B, ⟨0, 0, k, (k : Int) + 1⟩)⟩, s1.unused⟩ (n, u + 1) := by
  intro s1
  obtain ⟨h1, h2, h3⟩ := h.live.put hf (s.accs.set 0 ((L.length : Int) + 1, 8)) B 0 0 k 0 hB
  have hn : n < l.length := lt_of_get hf.at_
  have hs1 : s1.slots[n]? = some ⟨u + 1, some (B, ⟨0, 0, k, 0⟩)⟩ := by simp [s1, hn]
  obtain ⟨m1, m2⟩ := h1.mark L.length ⟨n, u + 1, 0, k, 0⟩ (by simp) B 0 k ((k : Int) + 1) hs1
  have hset : (L ++ [(⟨n, u + 1, 0, k, 0⟩ : Lv)]).set L.length ⟨n, u + 1, 0, k, (k : Int) + 1⟩ = L ++ [⟨n, u + 1, 0, k, (k : Int) + 1⟩] := by simp
  rw [hset] at m1
  have hll : l.length ≤ k + 1 := by
    have := h.sl
    rcases hf with ⟨_, _, _, rfl, _⟩ | ⟨_, _, rfl⟩
    · simp; omega
    · omega
  have huk : u ≤ k := by
    rcases hf with ⟨_, _, rfl, _, _⟩ | ⟨_, hu, _⟩
    · omega
    · exact h.us _ _ hu
  have hun : un.length ≤ k := by
    have := h.un
    rcases hf with ⟨_, _, _, _, rfl⟩ | ⟨h0, _, _⟩
    · simp
    · rw [h0] at this; simp at this; omega
  have hold : ∀ (i : Nat) (sl : Sl), l[i]? = some sl → i ≠ n → sl.uses ≤ k := by
    intro i sl e hi
    rcases hf with ⟨_, rfl, _, rfl, _⟩ | ⟨_, _, rfl⟩
    · rw [List.getElem?_append] at e
      split at e
      · exact h.us i sl e
      · have := lt_of_get e; simp at this; omega
    · exact h.us i sl e
  refine ⟨h1, ⟨m1, by simp [s1, h.accs], by simp; omega, by simp [s1]; omega, fun i sl e => ?_, by simp [s1]; omega, fun q hq => ?_⟩, hs1, huk, by omega, fun g hg => ⟨(h2 g hg).1, m2 g (h2 g hg).2⟩, m2 _ h3⟩
  · simp only [s1, List.set_set] at e
    rw [List.getElem?_set] at e
    split at e
    · simp at e; subst e; simp; omega
    · have := hold i sl e (by omega); omega
  · rcases List.mem_append.1 hq with hq | hq
    · have := h.ok q hq; omega
    · simp at hq; subst hq; exact ⟨rfl, rfl, by simp, by simp only; omega⟩
theorem slotCells_same {l : List Sl} {n u b : Nat} {o o' : Ob} (h : l[n]? = some ⟨u, some (b, o)⟩) : slotCells (l.set n ⟨u, some (b, o')⟩) = slotCells l := by
  induction l generalizing n with
  | nil => simp at h
  | cons x l ih =>
    cases n with
    | zero => simp at h; subst h; simp [slotCells, ptrOf]
    | succ n => simp at h; simp [slotCells, ih h]
/-- An object's cell is written. -/
theorem Arn.mark {base ab n u b j : Nat} {w : World} {s : St} {L : List Lv} {o o' : Ob} {v : Value} (h : Arn base ab w s) (hL : Live s L) (hb : s.slots[n]? = some ⟨u, some (b, o)⟩) (ho : o.cells.setIfInBounds j v = o'.cells) :
    Arn base ab (w.setCell ⟨b, j, none⟩ v) ⟨s.accs, s.slots.set n ⟨u, some (b, o')⟩, s.unused⟩ ∧ Fr (only 56) base w (w.setCell ⟨b, j, none⟩ v) := by
  have hB := h.objs n _ b o hb rfl
  have hn := lt_of_get hb
  obtain ⟨vo, vs, vu, hP⟩ := h.parts
  obtain ⟨p1, h0, h1, h2, h3, h4⟩ := hP
  refine ⟨⟨p1, ⟨vo, vs, vu, block_set h0 (ne_of_types h0 hB.2 (by decide)) _, ownsRow_setCell_other h1 (own_ne h1 hB.2 (by decide)) _, ?_, ownsRow_setCell_other h3 (own_ne h3 hB.2 (by decide)) _⟩, fun i sl b' ob e1 e2 => ?_⟩, (Fr.refl _ _ _).setCell ⟨hB.1, _, _, _, hB.2, rfl⟩ _⟩
  · have := ownsRow_setCell_other (a := ⟨b, j, none⟩) h2 (own_ne h2 hB.2 (by decide)) v
    simp only [List.length_set]
    rw [slotCells_same hb]
    exact this
  · simp only at e1
    by_cases hi : i = n
    · subst hi
      simp [hn] at e1; subst e1; simp at e2
      obtain ⟨rfl, rfl⟩ := e2
      refine ⟨hB.1, ?_⟩
      rw [← ho]
      exact heap_setCell_same _ _ _ _ _ _ hB.2
    · rw [List.getElem?_set_ne (Ne.symm hi)] at e1
      have h5 := h.objs i sl b' ob e1 e2
      refine ⟨h5.1, block_set h5.2 ?_ _⟩
      intro e
      simp only at e
      subst e
      exact hi (hL.inj i n sl _ _ _ _ e1 e2 hb rfl)
end Go.Proofs.Ytbbmcggalffecaa

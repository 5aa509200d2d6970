/-
  ref.Set as a plain list of Refs: Has and Add; and plain lemmas on lists without a member twice.
  Conditions: as each theorem says.
-/
import Derived.Test.YthghjnkeofkoiaaGreatDoorZBase
import Derived.Test.YthghjnkeofkoiaaGreatDoorZMem
import Derived.Maps.OwnSet
import Derived.Maps.AppendAt
import Derived.WalkSpells
import Derived.Below
namespace Go.Proofs.YthghjnkeofkoiaaGreatDoor
open Go.ChangeShapes Go.WideShapes Go.ChangeAt Go.RowKit Go.Maps
set_option linter.unusedVariables false
theorem keyedRef : Keyed Tryz.prog 139 := int_keyed Tryz.underlying139
theorem zeroUnit (w : World) : (zeroValue 173).run Tryz.prog w = .ok (.agg #[]) w := by kernel_rfl
section
variable {D : DataW Unit} {B n : Nat} {w : World}
theorem has_any (b : Bool) (x : Int) (hown : w.ownsMap Tryz.prog 139 unitElem B n D) (h0 : 0 ≤ x) (h1 : x ≤ 18446744073709551615) (hb : Maps.has D (.int .u64 x) = b) :
    Calls Tryz.prog 80 #[.map (some B), .int .u64 x] w fun e w' => e = .returned (.bool b) ∧ w' = w.alloc (.cells #[] 173) := by
  have hkey : keyOf Tryz.prog 139 (.int .u64 x) = some (.int .u64 x) := keyOf_int_mk Tryz.underlying139 (WalkArith.wf_u64 ⟨h0, h1⟩)
  go_enter Tryz.func80, Tryz.ntmps80
  go_wp2_with (at_lookup; refine wpList_lookup_own_unit _ rfl _ _ 135 rfl 139 173 keyedRef Tryz.underlying135 (zeroUnit _) B n D rfl hown _ _ rfl hkey ?_)
  go_ret
  exact ⟨rfl, rfl⟩
theorem add_old (x : Int) (hown : w.ownsMap Tryz.prog 139 unitElem B n D) (h0 : 0 ≤ x) (h1 : x ≤ 18446744073709551615) (hb : Maps.has D (.int .u64 x) = true) :
    Calls Tryz.prog 116 #[.map (some B), .int .u64 x] w fun e w' => e = .returned (.bool false) ∧ w' = w.alloc (.cells #[] 173) := by
  go_enter Tryz.func116, Tryz.ntmps116
  go_wp2_with (go_at_call 80; refine (has_any true x hown h0 h1 hb).mono ?_; rintro e w' ⟨rfl, rfl⟩)
  go_ret
  exact ⟨rfl, rfl⟩
theorem add_new (x : Int) (hown : w.ownsMap Tryz.prog 139 unitElem B n D) (hn : n < maxLen) (h0 : 0 ≤ x) (h1 : x ≤ 18446744073709551615) (hb : Maps.has D (.int .u64 x) = false) :
    Calls Tryz.prog 116 #[.map (some B), .int .u64 x] w fun e w' => e = .returned (.bool true) ∧ w'.ownsMap Tryz.prog 139 (unitElem (H := Unit)) B (n + 1) (D.put (.int .u64 x) (.agg [])) ∧ (w.alloc (.cells #[] 173)).grownBy w' (some B) := by
  have hkey : keyOf Tryz.prog 139 (.int .u64 x) = some (.int .u64 x) := keyOf_int_mk Tryz.underlying139 (WalkArith.wf_u64 ⟨h0, h1⟩)
  have hnn : ∀ (w : World) (r : Option Nat), (binOp .neq 135 (.map r) (.map none)).run Tryz.prog w = .ok (.bool (!r.isNone)) w := fun w r => run_neq_map_nil w _ _ _ r Tryz.underlying135
  go_enter Tryz.func116, Tryz.ntmps116
  go_wp2_with (first
    | (go_at_call 80; refine (has_any false x hown h0 h1 hb).mono ?_; rintro e w' ⟨rfl, rfl⟩)
    | (at_mapUpdate; refine wpList_mapUpdate_own _ rfl _ _ _ 135 rfl 139 173 keyedRef Tryz.underlying135 (unitElem (H := Unit)) B n D rfl (hown.alloc _) hn _ _ _ rfl rfl hkey _ [] unitElem_mk ?_; intro w1 hown1 hgrow1))
  go_ret
  exact ⟨rfl, hown1, hgrow1⟩
end
def RSet (w : World) (b : Nat) (S : List Int) : Prop :=
  ∃ D : DataW Unit, w.ownsMap Tryz.prog 139 (unitElem (H := Unit)) b S.length D ∧ Maps.size D = S.length ∧ ∀ x, Maps.has D (.int .u64 x) = S.contains x
theorem isKey64 {z : Int} : WideAt.IsKeyLit (.int .u64 z) := by simp [WideAt.IsKeyLit]
theorem RSet.made (w : World) : RSet (w.alloc (.map #[] 0)) w.heap.size [] := ⟨.map [], World.ownsMap_made _ _ _ _, rfl, fun x => rfl⟩
theorem RSet.kept {w w' : World} {b : Nat} {S : List Int} (h : RSet w b S) (hk : w'.heap[b]? = w.heap[b]?) : RSet w' b S := by
  obtain ⟨D, ⟨es, clock, hb, r⟩, h2⟩ := h
  exact ⟨D, ⟨es, clock, hk.trans hb, r⟩, h2⟩
theorem RSet.block {w : World} {b : Nat} {S : List Int} (h : RSet w b S) : ∃ es clock, w.heap[b]? = some (.map es clock) ∧ es.size = S.length := by
  obtain ⟨D, ⟨es, clock, hb, F, hs, rfl⟩, h2, _⟩ := h
  refine ⟨es, clock, hb, ?_⟩
  simp only [Maps.size] at h2
  rwa [length_read] at h2
theorem RSet.lt {w : World} {b : Nat} {S : List Int} (h : RSet w b S) : b < w.heap.size := by
  obtain ⟨es, clock, hb, _⟩ := h.block
  exact lt_of_block hb
theorem rset_has {w : World} {b : Nat} {S : List Int} (h : RSet w b S) (x : Int) (h0 : 0 ≤ x) (h1 : x ≤ 18446744073709551615) :
    Calls Tryz.prog 80 #[.map (some b), .int .u64 x] w fun e w' => e = .returned (.bool (S.contains x)) ∧ w' = w.alloc (.cells #[] 173) := by
  obtain ⟨D, ho, _, hm⟩ := h
  exact has_any _ x ho h0 h1 (hm x)
theorem rset_old {w : World} {b : Nat} {S : List Int} (h : RSet w b S) (x : Int) (h0 : 0 ≤ x) (h1 : x ≤ 18446744073709551615) (hx : S.contains x = true) :
    Calls Tryz.prog 116 #[.map (some b), .int .u64 x] w fun e w' => e = .returned (.bool false) ∧ w' = w.alloc (.cells #[] 173) := by
  obtain ⟨D, ho, _, hm⟩ := h
  exact add_old x ho h0 h1 ((hm x).trans hx)
theorem rset_new {w : World} {b : Nat} {S : List Int} (h : RSet w b S) (x : Int) (h0 : 0 ≤ x) (h1 : x ≤ 18446744073709551615) (hx : S.contains x = false) (hl : S.length ≤ 1000000) :
    Calls Tryz.prog 116 #[.map (some b), .int .u64 x] w fun e w' => e = .returned (.bool true) ∧ RSet w' b (x :: S) ∧ (w.alloc (.cells #[] 173)).grownBy w' (some b) := by
  obtain ⟨D, ho, hs, hm⟩ := h
  have hT : Tidy D := ho.tidy keyedRef
  refine (add_new x ho (by unfold maxLen; omega) h0 h1 ((hm x).trans hx)).mono fun e w' ⟨he, h2, h3⟩ => ⟨he, ⟨_, h2, ?_, fun z => ?_⟩, h3⟩
  · rw [size_put hT, (hm x).trans hx, hs]; simp
  · by_cases hz : z = x
    · subst hz
      rw [has_put_same ho.isMap isKey64]; simp
    · rw [has_put_other (by simpa using hz), hm z]
      simp [hz]
theorem nodup_le : ∀ {l m : List Nat}, l.Nodup → (∀ x ∈ l, x ∈ m) → l.length ≤ m.length
  | [], m, _, _ => by simp
  | x :: l, m, h, hs => by
    have hx := hs x (by simp)
    have h2 := List.nodup_cons.1 h
    have := nodup_le (l := l) (m := m.erase x) h2.2 (fun y hy => by
      have hne : y ≠ x := fun e => h2.1 (e ▸ hy)
      exact (List.mem_erase_of_ne hne).2 (hs y (by simp [hy])))
    rw [List.length_erase_of_mem hx] at this
    have := List.length_pos_of_mem hx
    simp only [List.length_cons]
    omega
end Go.Proofs.YthghjnkeofkoiaaGreatDoor

/-
 ref.Set as a plain list of Refs: Has and Add; and plain lemmas on lists without a member twice.
 Conditions: as each theorem says.
-/
import Derived.Test.YtenfphbhofibjaaGreatDoorZArena
set_option linter.unusedVariables false
namespace Go.Proofs.YtenfphbhofibjaaGreatDoor
open Go.ChangeShapes Go.WideShapes Go.ChangeAt Go.RowKit Go.Maps
theorem keyedRef : Keyed Tryz.prog 157 := int_keyed Tryz.underlying157
theorem zeroUnit (w : World) : (zeroValue 189).run Tryz.prog w = .ok (.agg #[]) w := by kernel_rfl
section
variable {D : DataW Unit} {B n : Nat} {w : World}
theorem has_any (b : Bool) (x : Int) (hown : w.ownsMap Tryz.prog 157 unitElem B n D) (h0 : 0 ≤ x) (h1 : x ≤ 18446744073709551615) (hb : Maps.has D (.int .u64 x) = b) :
 Calls Tryz.prog 97 #[.map (some B), .int .u64 x] w fun e w' => e = .returned (.bool b) ∧ w' = w.alloc (.cells #[] 189) := by
 have hkey : keyOf Tryz.prog 157 (.int .u64 x) = some (.int .u64 x) := keyOf_int_mk Tryz.underlying157 (WalkArith.wf_u64 ⟨h0, h1⟩)
 go_enter Tryz.func97, Tryz.ntmps97
 go_wp2_with (at_lookup; refine wpList_lookup_own_unit _ rfl _ _ 153 rfl 157 189 keyedRef Tryz.underlying153 (zeroUnit _) B n D rfl hown _ _ rfl hkey ?_)
 go_ret
 exact ⟨rfl, rfl⟩
theorem add_old (x : Int) (hown : w.ownsMap Tryz.prog 157 unitElem B n D) (h0 : 0 ≤ x) (h1 : x ≤ 18446744073709551615) (hb : Maps.has D (.int .u64 x) = true) :
 Calls Tryz.prog 127 #[.map (some B), .int .u64 x] w fun e w' => e = .returned (.bool false) ∧ w' = w.alloc (.cells #[] 189) := by
 go_enter Tryz.func127, Tryz.ntmps127
 go_wp2_with (go_at_call 97; refine (has_any true x hown h0 h1 hb).mono ?_; rintro e w' ⟨rfl, rfl⟩)
 go_ret
 exact ⟨rfl, rfl⟩
theorem add_new (x : Int) (hown : w.ownsMap Tryz.prog 157 unitElem B n D) (hn : n < maxLen) (h0 : 0 ≤ x) (h1 : x ≤ 18446744073709551615) (hb : Maps.has D (.int .u64 x) = false) :
 Calls Tryz.prog 127 #[.map (some B), .int .u64 x] w fun e w' => e = .returned (.bool true) ∧ w'.ownsMap Tryz.prog 157 (unitElem (H := Unit)) B (n + 1) (D.put (.int .u64 x) (.agg [])) ∧ (w.alloc (.cells #[] 189)).grownBy w' (some B) := by
 have hkey : keyOf Tryz.prog 157 (.int .u64 x) = some (.int .u64 x) := keyOf_int_mk Tryz.underlying157 (WalkArith.wf_u64 ⟨h0, h1⟩)
 have hnn : ∀ (w : World) (r : Option Nat), (binOp .neq 153 (.map r) (.map none)).run Tryz.prog w = .ok (.bool (!r.isNone)) w := fun w r => run_neq_map_nil w _ _ _ r Tryz.underlying153
 go_enter Tryz.func127, Tryz.ntmps127
 go_wp2_with (first
  | (go_at_call 97; refine (has_any false x hown h0 h1 hb).mono ?_; rintro e w' ⟨rfl, rfl⟩)
  | (at_mapUpdate; refine wpList_mapUpdate_own _ rfl _ _ _ 153 rfl 157 189 keyedRef Tryz.underlying153 (unitElem (H := Unit)) B n D rfl (hown.alloc _) hn _ _ _ rfl rfl hkey _ [] unitElem_mk ?_; intro w1 hown1 hgrow1))
 go_ret
 exact ⟨rfl, hown1, hgrow1⟩
end
def RSet (w : World) (b : Nat) (S : List Int) : Prop :=
 ∃ D : DataW Unit, w.ownsMap Tryz.prog 157 (unitElem (H := Unit)) b S.length D ∧ Maps.size D = S.length ∧ ∀ x, Maps.has D (.int .u64 x) = S.contains x
theorem isKey64 {z : Int} : WideAt.IsKeyLit (.int .u64 z) := by simp [WideAt.IsKeyLit]
theorem RSet.made (w : World) : RSet (w.alloc (.map #[] 0)) w.heap.size [] := ⟨.map [], World.ownsMap_made _ _ _ _, rfl, fun x => rfl⟩
theorem RSet.kept {w w' : World} {b : Nat} {S : List Int} (h : RSet w b S) (hk : w'.heap[b]? = w.heap[b]?) : RSet w' b S := by
 obtain ⟨D, ⟨es, clock, hb, r⟩, h2⟩ := h
 exact ⟨D, ⟨es, clock, hk.trans hb, r⟩, h2⟩
theorem RSet.block {w : World} {b : Nat} {S : List Int} (h : RSet w b S) : ∃ es clock, w.heap[b]? = some (.map es clock) ∧ es.size = S.length := by
 obtain ⟨D, ⟨es, clock, hb, F, hs, rfl⟩, h2, _⟩ := h
 refine ⟨es, clock, hb, ?_⟩
 simp only [Maps.size] at h2
 rwa [length_read] at h2
theorem RSet.lt {w : World} {b : Nat} {S : List Int} (h : RSet w b S) : b < w.heap.size := by
 obtain ⟨es, clock, hb, _⟩ := h.block
 exact lt_of_block hb
theorem rset_has {w : World} {b : Nat} {S : List Int} (h : RSet w b S) (x : Int) (h0 : 0 ≤ x) (h1 : x ≤ 18446744073709551615) :
 Calls Tryz.prog 97 #[.map (some b), .int .u64 x] w fun e w' => e = .returned (.bool (S.contains x)) ∧ w' = w.alloc (.cells #[] 189) := by
 obtain ⟨D, ho, _, hm⟩ := h
 exact has_any _ x ho h0 h1 (hm x)
theorem rset_old {w : World} {b : Nat} {S : List Int} (h : RSet w b S) (x : Int) (h0 : 0 ≤ x) (h1 : x ≤ 18446744073709551615) (hx : S.contains x = true) :
 Calls Tryz.prog 127 #[.map (some b), .int .u64 x] w fun e w' => e = .returned (.bool false) ∧ w' = w.alloc (.cells #[] 189) := by
 obtain ⟨D, ho, _, hm⟩ := h
 exact add_old x ho h0 h1 ((hm x).trans hx)
theorem rset_new {w : World} {b : Nat} {S : List Int} (h : RSet w b S) (x : Int) (h0 : 0 ≤ x) (h1 : x ≤ 18446744073709551615) (hx : S.contains x = false) (hl : S.length ≤ 1000000) :
 Calls Tryz.prog 127 #[.map (some b), .int .u64 x] w fun e w' => e = .returned (.bool true) ∧ RSet w' b (x :: S) ∧ (w.alloc (.cells #[] 189)).grownBy w' (some b) := by
 obtain ⟨D, ho, hs, hm⟩ := h
 have hT : Tidy D := ho.tidy keyedRef
 refine (add_new x ho (by unfold maxLen; omega) h0 h1 ((hm x).trans hx)).mono fun e w' ⟨he, h2, h3⟩ => ⟨he, ⟨_, h2, ?_, fun z => ?_⟩, h3⟩
 ·rw [size_put hT, (hm x).trans hx, hs]; simp
 ·by_cases hz : z = x
  ·subst hz
   rw [has_put_same ho.isMap isKey64]; simp
  ·rw [has_put_other (by simpa using hz), hm z]
   simp [hz]
theorem nodup_le : ∀ {l m : List Nat}, l.Nodup → (∀ x ∈ l, x ∈ m) → l.length ≤ m.length
 | [], m, _, _ => by simp
 | x :: l, m, h, hs => by
  have hx := hs x (by simp)
  have h2 := List.nodup_cons.1 h
  have := nodup_le (l := l) (m := m.erase x) h2.2 (fun y hy => by
   have hne : y ≠ x := fun e => h2.1 (e ▸ hy)
   exact (List.mem_erase_of_ne hne).2 (hs y (by simp [hy])))
  rw [List.length_erase_of_mem hx] at this
  have := List.length_pos_of_mem hx
  simp only [List.length_cons]
  omega
end Go.Proofs.YtenfphbhofibjaaGreatDoor
namespace Go.Proofs.YtenfphbhofibjaaGreatDoor
open Go.RowKit
theorem nodup_rev {l : List Int} (h : l.Nodup) : l.reverse.Nodup := by
 rw [List.nodup_iff_pairwise_ne, List.pairwise_reverse]
 exact (List.nodup_iff_pairwise_ne.1 h).imp fun h => Ne.symm h
def visit1 (lv : Int → Bool) (p : List Int × List Int) (r : Int) : List Int × List Int := if lv r && !p.1.contains r then (r :: p.1, p.2 ++ [r]) else p
def visit (lv : Int → Bool) (l : List Int) (p : List Int × List Int) : List Int × List Int := l.foldl (visit1 lv) p
theorem visit_succ (lv : Int → Bool) (l : List Int) (p : List Int × List Int) (k : Nat) (r : Int) (h : l[k]? = some r) : visit lv (l.take (k + 1)) p = visit1 lv (visit lv (l.take k) p) r := by
 unfold visit
 rw [List.take_add_one, h, List.foldl_append]; rfl
theorem visit_all (lv : Int → Bool) (l : List Int) (p : List Int × List Int) (k : Nat) (h : l.length ≤ k) : visit lv (l.take k) p = visit lv l p := by rw [List.take_of_length_le h]
theorem visit_spec (lv : Int → Bool) : ∀ (l : List Int) (S wk : List Int), ∃ add : List Int, visit lv l (S, wk) = (add.reverse ++ S, wk ++ add) ∧ (∀ x ∈ add, x ∈ l ∧ lv x = true ∧ x ∉ S) ∧ add.Nodup ∧ (∀ x ∈ l, lv x = true → x ∈ add ∨ x ∈ S)
 | [], S, wk => ⟨[], by simp [visit], by simp, by simp, by simp⟩
 | r :: l, S, wk => by
  by_cases h : (lv r && !S.contains r) = true
  ·obtain ⟨add, h1, h2, h3, h4⟩ := visit_spec lv l (r :: S) (wk ++ [r])
   have hv : visit lv (r :: l) (S, wk) = visit lv l (r :: S, wk ++ [r]) := by
    show List.foldl (visit1 lv) (visit1 lv (S, wk) r) l = _
    rw [visit1, if_pos h]; rfl
   simp only [Bool.and_eq_true, Bool.not_eq_true', List.contains_eq_mem, decide_eq_false_iff_not] at h
   refine ⟨r :: add, by rw [hv, h1]; simp, fun x hx => ?_, ?_, fun x hx hl => ?_⟩
   ·rcases List.mem_cons.1 hx with rfl | hx
    ·exact ⟨by simp, h.1, h.2⟩
    ·obtain ⟨a1, a2, a3⟩ := h2 x hx
     exact ⟨by simp [a1], a2, fun e => a3 (by simp [e])⟩
   ·exact List.nodup_cons.2 ⟨fun e => (h2 r e).2.2 (by simp), h3⟩
   ·rcases List.mem_cons.1 hx with rfl | hx
    ·simp
    ·rcases h4 x hx hl with e | e
     ·simp [e]
     ·rcases List.mem_cons.1 e with rfl | e
      ·simp
      ·exact .inr e
  ·obtain ⟨add, h1, h2, h3, h4⟩ := visit_spec lv l S wk
   have hv : visit lv (r :: l) (S, wk) = visit lv l (S, wk) := by
    show List.foldl (visit1 lv) (visit1 lv (S, wk) r) l = _
    rw [visit1, if_neg h]; rfl
   refine ⟨add, by rw [hv, h1], fun x hx => ?_, h3, fun x hx hl => ?_⟩
   ·obtain ⟨a1, a2, a3⟩ := h2 x hx
    exact ⟨by simp [a1], a2, a3⟩
   ·rcases List.mem_cons.1 hx with rfl | hx
    ·right
     rw [hl] at h
     simpa using h
    ·exact h4 x hx hl
def lives (s : St) (r : Int) : Bool := (look s.slots r).isSome
theorem lives_slot {s : St} {r : Int} (h : lives s r = true) : ∃ sl : Sl, s.slots[(r % 4294967296).toNat]? = some sl ∧ (sl.uses : Int) = r / 4294967296 ∧ sl.obj = look s.slots r := by
 unfold lives at h
 unfold look at h ⊢
 split at h
 ·rename_i sl hsl
  split at h
  ·rename_i hu
   exact ⟨sl, hsl, hu, by rw [if_pos hu]⟩
  ·simp at h
 ·simp at h
theorem lives_bound {s : St} {S : List Int} (hn : S.Nodup) (hl : ∀ x ∈ S, lives s x = true) : S.length ≤ s.slots.length := by
 have := nodup_le (l := S.map fun x => (x % 4294967296).toNat) (m := List.range s.slots.length) ?_ ?_
 ·simpa using this
 ·rw [List.nodup_iff_pairwise_ne, List.pairwise_map]
  refine List.Pairwise.imp_of_mem ?_ (List.nodup_iff_pairwise_ne.1 hn)
  intro a b ha hb hne e
  obtain ⟨sa, h1, h2, _⟩ := lives_slot (hl a ha)
  obtain ⟨sb, h3, h4, _⟩ := lives_slot (hl b hb)
  rw [e, h3] at h1
  simp at h1
  subst h1
  omega
 ·intro n hx
  obtain ⟨x, hx', rfl⟩ := List.mem_map.1 hx
  obtain ⟨sl, h1, _⟩ := lives_slot (hl x hx')
  rw [List.mem_range]
  obtain ⟨hh, _⟩ := List.getElem?_eq_some_iff.1 h1
  exact hh
inductive Rch (lv : Int → Bool) (nm : Int → List Int) (roots : List Int) : Int → Prop
 | root (x : Int) : x ∈ roots → lv x = true → Rch lv nm roots x
 | step (x y : Int) : Rch lv nm roots x → y ∈ nm x → lv y = true → Rch lv nm roots y
theorem Rch.live {lv : Int → Bool} {nm : Int → List Int} {roots : List Int} {x : Int} (h : Rch lv nm roots x) : lv x = true := by
 cases h <;> assumption
structure Going (lv : Int → Bool) (nm : Int → List Int) (roots S wk : List Int) : Prop where
 nodup : S.Nodup
 sound : ∀ x ∈ S, Rch lv nm roots x
 roots : ∀ x ∈ roots, lv x = true → x ∈ S
 wait : ∀ x ∈ wk, x ∈ S
 nodupW : wk.Nodup
 closed : ∀ x ∈ S, x ∉ wk → ∀ y ∈ nm x, lv y = true → y ∈ S
theorem Going.start (lv : Int → Bool) (nm : Int → List Int) (roots : List Int) : Going lv nm roots (visit lv roots ([], [])).1 (visit lv roots ([], [])).2 := by
 obtain ⟨add, h1, h2, h3, h4⟩ := visit_spec lv roots [] []
 rw [h1]
 simp only [List.append_nil, List.nil_append]
 refine ⟨nodup_rev h3, fun x hx => ?_, fun x hx hl => ?_, fun x hx => by simpa using hx, h3, fun x hx hn => ?_⟩
 ·obtain ⟨a1, a2, _⟩ := h2 x (by simpa using hx)
  exact .root x a1 a2
 ·rcases h4 x hx hl with e | e
  ·simpa using e
  ·simp at e
 ·exact absurd (by simpa using hx) hn
theorem Going.next {lv : Int → Bool} {nm : Int → List Int} {roots S wk : List Int} {x : Int} (h : Going lv nm roots S (wk ++ [x])) : Going lv nm roots (visit lv (nm x) (S, wk)).1 (visit lv (nm x) (S, wk)).2 := by
 obtain ⟨add, h1, h2, h3, h4⟩ := visit_spec lv (nm x) S wk
 rw [h1]
 simp only
 have hx : x ∈ S := h.wait x (by simp)
 refine ⟨?_, fun y hy => ?_, fun y hy hl => ?_, fun y hy => ?_, ?_, fun y hy hn z hz hl => ?_⟩
 ·rw [List.nodup_append]
  exact ⟨nodup_rev h3, h.nodup, fun a ha b hb e => (h2 a (by simpa using ha)).2.2 (e ▸ hb)⟩
 ·rcases List.mem_append.1 hy with hy | hy
  ·obtain ⟨a1, a2, _⟩ := h2 y (by simpa using hy)
   exact .step x y (h.sound x hx) a1 a2
  ·exact h.sound y hy
 ·exact List.mem_append_right _ (h.roots y hy hl)
 ·rcases List.mem_append.1 hy with hy | hy
  ·exact List.mem_append_right _ (h.wait y (by simp [hy]))
  ·exact List.mem_append_left _ (by simpa using hy)
 ·have hw := (List.nodup_append.1 h.nodupW).1
  exact List.nodup_append.2 ⟨hw, h3, fun a ha b hb e => (h2 b hb).2.2 (e ▸ h.wait a (by simp [ha]))⟩
 ·simp only [List.mem_append, not_or] at hn
  rcases List.mem_append.1 hy with hy | hy
  ·exact absurd (by simpa using hy) hn.2
  ·by_cases e : y = x
   ·subst e
    rcases h4 z hz hl with e | e
    ·exact List.mem_append_left _ (by simpa using e)
    ·exact List.mem_append_right _ e
   ·exact List.mem_append_right _ (h.closed y hy (by simp [hn.1, e]) z hz hl)
theorem Going.skip {lv : Int → Bool} {nm : Int → List Int} {roots S wk : List Int} {x : Int} (h : Going lv nm roots S (wk ++ [x])) (hx : nm x = []) : Going lv nm roots S wk := by
 have := h.next
 rw [hx] at this
 exact this
theorem Going.bound {s : St} {nm : Int → List Int} {roots S wk : List Int} (h : Going (lives s) nm roots S wk) : S.length ≤ s.slots.length ∧ wk.length ≤ s.slots.length :=
 ⟨lives_bound h.nodup (fun x hx => (h.sound x hx).live), lives_bound h.nodupW (fun x hx => (h.sound x (h.wait x hx)).live)⟩
theorem Going.done {lv : Int → Bool} {nm : Int → List Int} {roots S : List Int} (h : Going lv nm roots S []) (x : Int) : x ∈ S ↔ Rch lv nm roots x := by
 refine ⟨h.sound x, fun hr => ?_⟩
 induction hr with
 | root x hx hl => exact h.roots x hx hl
 | step x y _ hy hl ih => exact h.closed x ih (by simp) y hy hl
end Go.Proofs.YtenfphbhofibjaaGreatDoor

/-
  sweep.Reach over an arena: the set of what is reached from roots by what objects name; nothing that was there is turned.
  Conditions: as the theorem says.
-/
import Derived.Test.YtpgbfkdknggceaaGreatDoorReachC
namespace Go.Proofs.YtpgbfkdknggceaaGreatDoor
open Go.ChangeShapes Go.WideShapes Go.ChangeAt Go.RowKit Go.Maps Go.Sort Go.Lib
set_option linter.unusedVariables false
/-- What an arena's objects hold: their fields, by slots; nothing else is held. -/
def Objs (w : World) (s : St) (fl : Nat → List (Vl × Vl)) : Prop :=
  ∀ (i : Nat) (sl : Sl) (b : Nat) (o : Ob), s.slots[i]? = some sl → sl.obj = some (b, o) → FldsO w o.fm (fl i) ∧ o.hd = .slice none 0 0 ∧ (fl i).length ≤ 1000 ∧ 0 ≤ o.br ∧ o.br ≤ 18446744073709551615 ∧ 0 ≤ o.ta ∧ o.ta ≤ 18446744073709551615 ∧ 0 ≤ o.me ∧ o.me ≤ 3
theorem FldsO.below {w w' : World} {r : Option Nat} {m : List (Vl × Vl)} (h : FldsO w r m) (hb : Below w.heap.size w w') : FldsO w' r m :=
  h.kept fun b hb2 => by
    rcases h with ⟨h1, _⟩ | ⟨c, h1, h2⟩
    · rw [h1] at hb2; cases hb2
    · rw [h1] at hb2; cases hb2; exact hb.block _ h2.lt
theorem Objs.below {w w' : World} {s : St} {fl : Nat → List (Vl × Vl)} (h : Objs w s fl) (hb : Below w.heap.size w w') : Objs w' s fl :=
  fun i sl b o h1 h2 => ⟨(h i sl b o h1 h2).1.below hb, (h i sl b o h1 h2).2⟩
/-- The Refs that an object names; none, if it is a proxy of a dead membrane. -/
def nmOf (s : St) (fl : Nat → List (Vl × Vl)) (dd : Int → Bool) (r : Int) : List Int :=
  match look s.slots r with
  | none => []
  | some (_, o) => if o.k == 6 && dd o.me then [] else (namesOf (fl (r % 4294967296).toNat) [] o.br ⟨o.ck, o.cn, o.cs⟩ o.ta).filter fun x => !(x == 0)
/-- A function that says which membranes are dead. -/
def DeadF (w : World) (g : Nat) (lb : Array Value) (dd : Int → Bool) : Prop :=
  (∀ args w, (callFunc g args).run Tryz.prog w = .ok (.enter g args) w) ∧ ∀ (W : World) (x : Int), Below w.heap.size w W → 0 ≤ x → x ≤ 3 → Calls Tryz.prog g (#[.int .i64 x] ++ lb) W fun e w' => e = .returned (.bool (dd x)) ∧ ∃ q, w' = W.drewN q
def mapSize (w : World) (b : Nat) : Nat := match w.heap[b]? with | some (.map es _) => es.size | _ => 0
def boxLen (w : World) (b : Nat) : Nat := match w.heap[b]? with | some (Obj.cells cs _ _) => (match (cs[0]? : Option Value) with | some (.slice _ n _) => n | _ => 0) | _ => 0
theorem RI.sizes {w0 w : World} {ab ba br bw sb : Nat} {p : List Int × List Int} (h : RI w0 ab ba br bw sb p w) : mapSize w sb = p.1.length ∧ boxLen w bw = p.2.length := by
  obtain ⟨es, clock, h1, h2⟩ := h.M.block
  obtain ⟨v, h3, h4⟩ := h.W
  obtain ⟨ao, cap, rfl, _, _⟩ := row_shape h4
  exact ⟨by simp [mapSize, h1, h2], by simp [boxLen, h3]⟩
set_option maxRecDepth 100000 in
theorem orNone_some (g : Nat) (lb : Array Value) (w : World) : Calls Tryz.prog 69 #[.func (.func g) #[] lb] w fun e w' => e = .returned (.func (.func g) #[] lb) ∧ w' = w := by
  have hrun : ∀ w : World, (binOp .neq 88 (.func (.func g) #[] lb) .nilFunc).run Tryz.prog w = .ok (.bool true) w := fun w => by kernel_rfl
  go_enter Tryz.func69, Tryz.ntmps69
  go_wp2
  go_ret
  exact ⟨rfl, rfl⟩
set_option maxRecDepth 100000 in
theorem reach_none {w0 w : World} {ba br bw : Nat} : Calls Tryz.prog 70 #[.slice none 0 0, .pointer (some ⟨ba, 0, none⟩), .pointer (some ⟨br, 0, none⟩), .pointer (some ⟨bw, 0, none⟩)] w fun e w' => e = .returned (.tuple #[]) ∧ w' = w := by
  go_enter Tryz.func70, Tryz.ntmps70
  go_wp2_with fail
  refine wp_loop_rounds 1 ?_
  rw [rounds_succ]
  go_wp2
  go_end0
  exact ⟨rfl, rfl⟩
theorem RI.pop {w0 w : World} {ab ba br bw sb g cap : Nat} {S wk : List Int} {x : Int} (h : RI w0 ab ba br bw sb (S, wk ++ [x]) w) (hv : w.heap[bw]? = some (.cells #[.slice (some ⟨g, 0, none⟩) (wk.length + 1) cap] 80 (0, 0))) :
    RI w0 ab ba br bw sb (S, wk) (w.setCell ⟨bw, 0, none⟩ (.slice (some ⟨g, 0, none⟩) wk.length cap)) := by
  obtain ⟨v, h1, h2⟩ := h.W
  rw [hv] at h1
  simp at h1
  subst h1
  have r3 : w.ownsRow w0.heap.size 94 1 (.slice (some ⟨g, 0, none⟩) wk.length cap) wk.length (refRow wk) := by
    obtain ⟨e1, e2⟩ := h2
    refine ⟨by simp [refRow], ?_⟩
    rcases e2 with ⟨e2, _⟩ | ⟨g', cap', cur, e2, e3, e4, e5, e6, e7, e8⟩
    · simp at e2
    · simp at e2
      obtain ⟨rfl, rfl⟩ := e2
      refine .inr ⟨g, cap, cur, rfl, e3, e4, by simp at e5; omega, e6, e7, ?_⟩
      have := congrArg (List.take wk.length) e8
      simp [List.take_take, refRow] at this
      simpa [refRow] using this
  obtain ⟨es, clock, hm, _⟩ := h.M.block
  refine ⟨h.gb, block_set h.A (ne_of_types h.A hv (by decide)) _, block_set h.R (ne_of_types h.R hv (by decide)) _, ⟨_, heap_setCell_same _ _ _ _ _ _ hv, ownsRow_setCell_other r3 (own_ne r3 hv (by decide)) _⟩, h.M.kept (Below.heap_setCell _ _ _ _ ?_), ?_⟩
  · rintro rfl
    rw [hv] at hm; cases hm
  · exact h.B.trans ⟨rfl, rfl, rfl, by simp [World.setCell], fun k hk => Below.heap_setCell _ _ _ _ (by have := h.gb.1; show k ≠ bw; omega)⟩
theorem row_lies {w : World} {base : Nat} {v : Value} {l : List Int} (h : w.ownsRow base 94 1 v l.length (l.map (Value.int .u64))) : (v = .slice none 0 0 ∧ l = []) ∨ ∃ g, base ≤ g ∧ LiesAt w v l g := by
  rcases h.2 with ⟨rfl, h0⟩ | ⟨g, cap, cur, rfl, hb, hg, r1, r2, r3, r4⟩
  · exact .inl ⟨rfl, List.length_eq_zero_iff.1 h0⟩
  · refine .inr ⟨g, hb, 0, cap, rfl, r1, r2, lt_of_block hg, fun j x hj => ?_⟩
    have hjl : j < l.length := by obtain ⟨hh, _⟩ := List.getElem?_eq_some_iff.1 hj; exact hh
    rw [Nat.zero_add, h.cellAt j (by omega)]
    simp [hj]
theorem Objs.at {w : World} {s : St} {fl : Nat → List (Vl × Vl)} (h : Objs w s fl) {r : Int} {b : Nat} {o : Ob} (hl : look s.slots r = some (b, o)) :
    FldsO w o.fm (fl (r % 4294967296).toNat) ∧ o.hd = .slice none 0 0 ∧ (fl (r % 4294967296).toNat).length ≤ 1000 ∧ 0 ≤ o.br ∧ o.br ≤ 18446744073709551615 ∧ 0 ≤ o.ta ∧ o.ta ≤ 18446744073709551615 ∧ 0 ≤ o.me ∧ o.me ≤ 3 := by
  obtain ⟨sl, h1, h2, h3⟩ := lives_slot (s := s) (r := r) (by simp [lives, hl])
  exact h _ sl b o h1 (h3.trans hl)
theorem Arn.at {base ab : Nat} {w : World} {s : St} (h : Arn base ab w s) {r : Int} {b : Nat} {o : Ob} (hl : look s.slots r = some (b, o)) : w.heap[b]? = some (.cells o.cells 114 (0, 0)) := by
  obtain ⟨sl, h1, h2, h3⟩ := lives_slot (s := s) (r := r) (by simp [lives, hl])
  exact (h.objs _ sl b o h1 (h3.trans hl)).2
/-- What an object names are Refs. -/
theorem nm_bound {w : World} {s : St} {fl : Nat → List (Vl × Vl)} (h : Objs w s fl) (dd : Int → Bool) (r : Int) : ∀ x ∈ nmOf s fl dd r, 0 ≤ x ∧ x ≤ 18446744073709551615 := by
  intro x hx
  unfold nmOf at hx
  split at hx
  · simp at hx
  · rename_i b o hl
    have ho := h.at hl
    split at hx
    · simp at hx
    · have hx := (List.mem_filter.1 hx).1
      simp only [namesOf, List.mem_append, List.mem_map, List.mem_cons, List.not_mem_nil, or_false] at hx
      rcases hx with (⟨y, _, rfl⟩ | ⟨y, hy, rfl⟩) | rfl | rfl | rfl
      · exact refOf_bound _
      · exact refOf_bound _
      · exact ⟨ho.2.2.2.1, ho.2.2.2.2.1⟩
      · exact refOf_bound _
      · exact ⟨ho.2.2.2.2.2.1, ho.2.2.2.2.2.2.1⟩
theorem ob_kind {w : World} {b : Nat} {o : Ob} (h : w.heap[b]? = some (.cells o.cells 114 (0, 0))) : w.cell? ⟨b, 0, none⟩ = some (.int .u8 o.k) ∧ w.cell? ⟨b, 11, none⟩ = some (.int .i64 o.me) := by
  refine ⟨?_, ?_⟩ <;> (rw [cell_of_row _ _ _ _ _ _ h]; rfl)
/-- Holds, then the closure: what the object names is looked at. -/
theorem reach_named {base ab ba br bw sb b : Nat} {w0 w : World} {s : St} {fl : Nat → List (Vl × Vl)} {dd : Int → Bool} {roots S wk : List Int} {x : Int} {o : Ob} {v : Value} (hA : Arn base ab w0 s) (hO : Objs w0 s fl) (hl : s.slots.length ≤ 100000) (hR : RI w0 ab ba br bw sb (S, wk) w) (hx : look s.slots x = some (b, o)) (hk : (o.k == 6 && dd o.me) = false) (hG : Going (lives s) (nmOf s fl dd) roots S (wk ++ [x]))
    {wh : World} (hb : Below w.heap.size w wh) (hv : wh.ownsRow w.heap.size 94 1 v ((namesOf (fl (x % 4294967296).toNat) [] o.br ⟨o.ck, o.cn, o.cs⟩ o.ta).filter fun x => !(x == 0)).length (((namesOf (fl (x % 4294967296).toNat) [] o.br ⟨o.ck, o.cn, o.cs⟩ o.ta).filter fun x => !(x == 0)).map (Value.int .u64))) :
    Calls Tryz.prog 70 #[v, .pointer (some ⟨ba, 0, none⟩), .pointer (some ⟨br, 0, none⟩), .pointer (some ⟨bw, 0, none⟩)] wh fun e w' => e = .returned (.tuple #[]) ∧ ∃ S' wk', RI w0 ab ba br bw sb (S', wk') w' ∧ Going (lives s) (nmOf s fl dd) roots S' wk' ∧ S'.length + wk.length = S.length + wk'.length := by
  have hnm : nmOf s fl dd x = (namesOf (fl (x % 4294967296).toNat) [] o.br ⟨o.ck, o.cn, o.cs⟩ o.ta).filter fun x => !(x == 0) := by
    unfold nmOf
    rw [hx]
    simp only [hk]
    rfl
  rw [← hnm] at hv
  have hN := hG.next
  have hR2 := hR.grow hb
  have hbd := hG.bound
  have hsz : (visit (lives s) (nmOf s fl dd x) (S, wk)).1.length + wk.length = S.length + (visit (lives s) (nmOf s fl dd x) (S, wk)).2.length := by
    obtain ⟨add, h1, _⟩ := visit_spec (lives s) (nmOf s fl dd x) S wk
    rw [h1]; simp; omega
  rcases row_lies hv with ⟨rfl, h0⟩ | ⟨g, hg, hg2⟩
  · refine (reach_none (w0 := w0)).mono ?_
    rintro e w' ⟨rfl, rfl⟩
    rw [h0] at hN
    exact ⟨rfl, S, wk, hR2, hN, rfl⟩
  · refine (reach_row hA hR2 hg2 (fun u hu => ?_) (nm_bound hO dd x) hG.nodup (fun y hy => (hG.sound y hy).live) hl (by simp at hbd; omega)).mono ?_
    · obtain ⟨u', h1, h2⟩ := hR.W
      have h3 := (hb.block _ (lt_of_block h1)).trans h1
      rw [hu] at h3
      simp at h3
      subst h3
      intro e
      have := (h2.lt g e).2
      omega
    · rintro e w' ⟨rfl, h1⟩
      exact ⟨rfl, _, _, h1, hN, hsz⟩
end Go.Proofs.YtpgbfkdknggceaaGreatDoor

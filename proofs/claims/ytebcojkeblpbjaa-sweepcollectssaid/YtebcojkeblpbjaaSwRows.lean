/-
  slices.Equal over two rows of Refs that hold the same: true.
  Conditions: as each theorem says.
-/
import Derived.Test.YtebcojkeblpbjaaSwDead2
namespace Go.Proofs.Ytebcojkeblpbjaa
open Go.ChangeShapes Go.WideShapes Go.ChangeAt Go.RowKit Go.Maps Go.Sort Go.Lib
set_option linter.unusedVariables false
theorem RootsAt.shape {w : World} {v : Value} {l : List Int} (h : RootsAt w v l) : ∃ a cap, v = .slice a l.length cap ∧ l.length ≤ cap ∧ cap ≤ maxLen ∧ (l ≠ [] → ∃ g off, a = some ⟨g, off, none⟩ ∧ g < w.heap.size ∧ ∀ j x, l[j]? = some x → w.cell? ⟨g, off + j, none⟩ = some (.int .u64 x)) := by
  rcases h with ⟨rfl, rfl⟩ | ⟨g, off, cap, rfl, h1, h2, h3, h4⟩
  · exact ⟨none, 0, rfl, Nat.le_refl _, by simp [maxLen], fun h => absurd rfl h⟩
  · exact ⟨_, cap, rfl, h1, h2, fun _ => ⟨g, off, rfl, h3, h4⟩⟩
set_option maxRecDepth 100000 in
set_option maxHeartbeats 1000000 in
theorem equal_same {w : World} {v u : Value} {l : List Int} (hv : RootsAt w v l) (hu : RootsAt w u l) (hl : l.length ≤ 1000) :
    Calls Try.prog 14 #[v, u] w fun e w' => e = .returned (.bool true) ∧ ∃ q, w' = w.drewN q := by
  obtain ⟨a, ca, rfl, a1, a2, a3⟩ := hv.shape
  obtain ⟨b, cb, rfl, b1, b2, b3⟩ := hu.shape
  unfold maxLen at a2 b2
  have HA : Hid (l ≠ [] → ∃ g off, a = some ⟨g, off, none⟩ ∧ g < w.heap.size ∧ ∀ j x, l[j]? = some x → w.cell? ⟨g, off + j, none⟩ = some (.int .u64 x)) := a3
  have HB : Hid (l ≠ [] → ∃ g off, b = some ⟨g, off, none⟩ ∧ g < w.heap.size ∧ ∀ j x, l[j]? = some x → w.cell? ⟨g, off + j, none⟩ = some (.int .u64 x)) := b3
  clear hv hu a3 b3
  go_enter Try.func14, Try.ntmps14
  go_wp2_with fail
  go_loopw [13] (fun i wr => ∃ k : Nat, k ≤ l.length ∧ i = .int .i64 k ∧ ∃ q, wr = w.drewN q)
    (fun i _ => l.length - (intOf i).toNat)
  case atStart => exact ⟨0, Nat.zero_le _, rfl, 0, rfl⟩
  case round =>
    obtain ⟨k, hk, rfl, q, hq⟩ := hrel
    have HQ : Hid (wr = w.drewN q) := hq
    by_cases hlt : k < l.length
    · obtain ⟨x, hx⟩ : ∃ x, l[k]? = some x := ⟨_, List.getElem?_eq_getElem hlt⟩
      obtain ⟨g, off, hga, hgl, hgc⟩ := HA.out (by rintro e; rw [e] at hlt; simp at hlt)
      obtain ⟨g', off', hga', hgl', hgc'⟩ := HB.out (by rintro e; rw [e] at hlt; simp at hlt)
      subst hga
      subst hga'
      have q0 : wr.cell? ⟨g, off + k, none⟩ = some (.int .u64 x) := by rw [hq]; exact hgc k x hx
      have q1 : wr.cell? ⟨g', off' + k, none⟩ = some (.int .u64 x) := by rw [hq]; exact hgc' k x hx
      have hidx : 0 ≤ (k : Int) ∧ (k : Int) < (l.length : Int) := ⟨by omega, by omega⟩
      clear hgc hgc' hx hq
      go_wp2_with fail
      go_region
      go_wp2_with fail
      go_roundw
      case rel => exact ⟨k + 1, by omega, by go_num, q + 1, by rw [HQ.out]; rfl⟩
      case measure => simp [intOf]; omega
    · obtain rfl : k = l.length := by omega
      clear hq
      go_wp2
      go_ret
      exact ⟨rfl, q, HQ.out⟩
set_option maxRecDepth 100000 in
set_option maxHeartbeats 1000000 in
theorem clone_refs {w : World} {v : Value} {l : List Int} (hv : RootsAt w v l) (hl : l.length ≤ 1000) :
    Calls Try.prog 19 #[v] w fun e w' => ∃ rv, e = .returned rv ∧ w'.ownsRow w.heap.size 28 1 rv l.length (refRow l) ∧ Below w.heap.size w w' := by
  rcases hv with ⟨rfl, rfl⟩ | ⟨g, off, cap, rfl, h1, h2, h3, h4⟩
  · have hrun : ∀ w : World, (binOp .eql 44 (.slice none 0 0) (.slice none 0 0)).run Try.prog w = .ok (.bool true) w := fun w => by kernel_rfl
    go_enter Try.func19, Try.ntmps19
    go_wp2
    go_ret
    exact ⟨_, rfl, World.ownsRow_nil _ _ _ _, Below.refl _ _⟩
  · have HR : Hid (RootsAt (w.alloc (.cells #[] 28)) (.slice (some ⟨g, off, none⟩) l.length cap) l) := .inr ⟨g, off, cap, rfl, h1, h2, Nat.lt_of_lt_of_le h3 (by simp), fun j x hj => (((Below.refl _ w).alloc (Nat.le_refl _) _).cell (p := ⟨g, off + j, none⟩) h3).trans (h4 j x hj)⟩
    have HO : Hid ((w.alloc (.cells #[] 28)).ownsRow w.heap.size 28 1 (.slice (some ⟨w.heap.size, 0, none⟩) 0 0) ([] : List Int).length (refRow [])) := World.ownsRow_lit w #[] 0 (Nat.le_refl _) (by simp [maxLen]) rfl
    clear h4
    have hrun : ∀ w : World, (binOp .eql 44 (.slice (some ⟨g, off, none⟩) l.length cap) (.slice none 0 0)).run Try.prog w = .ok (.bool false) w := fun w => by kernel_rfl
    go_enter Try.func19, Try.ntmps19
    go_wp2_with (at_builtin; refine wpList_append_refs rfl (.tmp 5) (.tmp 6) rfl w.heap.size _ _ [] l rfl HO.out rfl HR.out (by simp) hl (by simp) ?_)
    intro v' w' r b
    have R : Hid (w'.ownsRow w.heap.size 28 1 v' l.length (refRow l)) := by show World.ownsRow _ _ _ _ _ _ _; simpa using r
    have B : Hid (Below w.heap.size w w') := ((Below.refl _ w).alloc (Nat.le_refl _) _).trans b
    clear r b
    go_wp2
    go_ret
    exact ⟨_, rfl, R.out, B.out⟩
end Go.Proofs.Ytebcojkeblpbjaa

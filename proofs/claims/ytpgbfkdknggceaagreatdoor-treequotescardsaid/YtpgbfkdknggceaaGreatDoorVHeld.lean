/-
  slices.SortedFunc(maps.Keys(m), arena.Order), value.Ref and slices.DeleteFunc of the Refs that are None, as arena.Holds calls them.
  Conditions: as each theorem says.
-/
import Derived.Test.YtpgbfkdknggceaaGreatDoorVSort
import Derived.Test.YtpgbfkdknggceaaGreatDoorShelfDelFRefs
import Derived.Lib.OwnBridge
namespace Go.Proofs.YtpgbfkdknggceaaGreatDoor
open Go.ChangeShapes Go.WideShapes Go.ChangeAt Go.RowKit Go.Maps Go.Sort Go.Shelf Go.Lib
set_option linter.unusedVariables false
theorem keys_call (mb : Option Nat) (w : World) :
    Calls Tryz.prog 99 #[.map mb] w fun e w' => e = .returned (.func (.func 116) #[] #[.pointer (some ⟨w.heap.size, 0, none⟩)]) ∧ w' = w.alloc (.cells #[.map mb] 108) :=
  (callsIn_wide (n := 9)).1 (vkeys_in 9 mb w)
theorem entersKeys (args : Array Value) (w : World) : (callFunc 116 args).run Tryz.prog w = .ok (.enter 116 args) w := by kernel_rfl
/-- An object's fields: none, or a map's. -/
def FldsO (w : World) (r : Option Nat) (m : List (Vl × Vl)) : Prop := (r = none ∧ m = []) ∨ ∃ b, r = some b ∧ Flds w b m
theorem FldsO.kept {w w' : World} {r : Option Nat} {m : List (Vl × Vl)} (h : FldsO w r m) (hk : ∀ b, r = some b → w'.heap[b]? = w.heap[b]?) : FldsO w' r m := by
  rcases h with h | ⟨b, h1, h2⟩
  · exact .inl h
  · exact .inr ⟨b, h1, h2.kept (hk b h1)⟩
theorem collect_call {w : World} {r : Option Nat} {m : List (Vl × Vl)} {Bm : Nat} (h : FldsO w r m) (hl : m.length ≤ 1000000) (hB : Bm < w.heap.size) (hm : w.cell? ⟨Bm, 0, none⟩ = some (.map r)) :
    Calls Tryz.prog 114 #[.func (.func 116) #[] #[.pointer (some ⟨Bm, 0, none⟩)]] w fun e w' => ∃ (v : Value) (ss : List Vl), e = .returned v ∧ ss.Perm (m.map Prod.fst) ∧ w'.ownsRow w.heap.size 112 3 v ss.length (flat ss) ∧ Below w.heap.size w w' := by
  rcases h with ⟨rfl, rfl⟩ | ⟨b, rfl, h⟩
  · refine Calls.mono ((callsIn_wide (n := 9)).1 (collect_in 9 (by omega) _ _ entersKeys (fun ss => ss = []) 0 (by omega) w (vkeys_none 7 (by omega) Bm w hB hm))) ?_
    rintro e w' ⟨v, ss, rfl, rfl, h1, _, h2⟩
    exact ⟨v, [], rfl, List.Perm.refl _, h1, h2⟩
  · refine Calls.mono ((callsIn_wide (n := 9)).1 (collect_in 9 (by omega) _ _ entersKeys (fun ss => ss.Perm (m.map Prod.fst)) m.length hl w (vkeys_gives 7 (by omega) Bm b m w hB hm h))) ?_
    rintro e w' ⟨v, ss, rfl, hp, h1, _, h2⟩
    exact ⟨v, ss, rfl, hp, h1, h2⟩
theorem sorted_call {w : World} {r : Option Nat} {m : List (Vl × Vl)} {Bm : Nat} (h : FldsO w r m) (hl : m.length ≤ 1000000) (hB : Bm < w.heap.size) (hm : w.cell? ⟨Bm, 0, none⟩ = some (.map r)) :
    Calls Tryz.prog 98 #[.func (.func 116) #[] #[.pointer (some ⟨Bm, 0, none⟩)], .func (.func 100) #[] #[]] w fun e w' => ∃ v, e = .returned v ∧ w'.ownsRow w.heap.size 112 3 v m.length (flat (sortK (m.map Prod.fst))) ∧ Below w.heap.size w w' := by
  have HC : Hid (∀ w', w' = w → Calls Tryz.prog 114 #[.func (.func 116) #[] #[.pointer (some ⟨Bm, 0, none⟩)]] w' fun e w' => ∃ (v : Value) (ss : List Vl), e = .returned v ∧ ss.Perm (m.map Prod.fst) ∧ w'.ownsRow w.heap.size 112 3 v ss.length (flat ss) ∧ Below w.heap.size w w') := fun w' e => by rw [e]; exact collect_call h hl hB hm
  clear h hm
  go_enter Tryz.func98, Tryz.ntmps98
  go_wp2_with fail
  refine (HC.out _ rfl).mono ?_
  rintro e w1 ⟨v, ss, rfl, hp, h1, hb1⟩
  have hls : ss.length = m.length := by simpa using hp.length_eq
  go_wp2_with fail
  refine (sort_vals h1 (by omega)).mono ?_
  rintro e w2 ⟨rfl, h2, hg⟩
  rw [hls, sortK_perm hp] at h2
  have hb2 : Below w.heap.size w w2 := hb1.grown hg hb1.size (fun k e => (h1.lt k e).1)
  clear hg h1
  go_wp2
  go_ret
  exact ⟨v, rfl, h2, hb2⟩
/-- The Ref that a value is; None of others. -/
def refOf (v : Vl) : Int := if v.k == 5 then v.n % 18446744073709551616 else 0
theorem ref_any (k n : Int) (s : ByteArray) (w : World) : Calls Tryz.prog 101 #[.agg #[.int .u8 k, .int .i64 n, .string s]] w fun e w' => e = .returned (.int .u64 (refOf ⟨k, n, s⟩)) ∧ w' = w.alloc (.cells #[.int .u8 k, .int .i64 n, .string s] 112) := by
  unfold refOf
  cases h : (k == 5)
  · simpa [h] using ref_none k n s w h
  · obtain rfl : k = 5 := by simpa using h
    simpa using ref_obj n s w
theorem refOf_bound (v : Vl) : 0 ≤ refOf v ∧ refOf v ≤ 18446744073709551615 := by
  unfold refOf
  split <;> omega
theorem isNone_any (x : Int) (w : World) : Calls Tryz.prog 103 #[.int .u64 x] w fun e w' => e = .returned (.bool (x == 0)) ∧ w' = w := by
  go_enter Tryz.func103, Tryz.ntmps103
  go_wp2
  go_ret
  exact ⟨rfl, rfl⟩
theorem isNone_q (x : Int) (w : World) : FnGives Tryz.prog 103 #[] #[.int .u64 x] (.bool (x == 0)) w :=
  (isNone_any x w).mono fun e w' ⟨h1, h2⟩ => ⟨h1, 0, by rw [h2]; rfl⟩
theorem entersNone (args : Array Value) (w : World) : (callFunc 103 args).run Tryz.prog w = .ok (.enter 103 args) w := by kernel_rfl
theorem grown_putRow {α : Type} [Inhabited α] {enc : α → Value} {w : World} {g q : Nat} {d : Array α} : w.grownBy (putRow enc (Sort.ahead w q) g 0 d) (some g) :=
  ⟨rfl, rfl, rfl, by simp [putRow, mapBlock, Sort.ahead], fun k hk hne => by
    simp [putRow, mapBlock, Sort.ahead, Array.getElem?_modify, show g ≠ k from fun e => hne (by rw [e])]⟩
theorem zeroRef (w : World) : (zeroValue 94).run Tryz.prog w = .ok (.int .u64 0) w := by kernel_rfl
/-- What isn't None stays. -/
theorem delNone {base : Nat} {w : World} {v : Value} {zs : List Int} (h : w.ownsRow base 94 1 v zs.length (zs.map (Value.int .u64))) (hl : zs.length ≤ 10000000) (h0 : zs ≠ []) :
    Calls Tryz.prog 102 #[v, .func (.func 103) #[] #[]] w fun e w' => ∃ v', e = .returned v' ∧ w'.ownsRow base 94 1 v' (zs.filter fun x => !(x == 0)).length ((zs.filter fun x => !(x == 0)).map (Value.int .u64)) ∧ w.grownBy w' v.ownBlock := by
  obtain ⟨g, cap, rfl, hb, hlt, hn, hm, _, hH⟩ := holds_of_ownsRow h (by rintro rfl; rcases h.2 with ⟨_, h1⟩ | ⟨g, cap, cur, h1, _⟩; exact h0 (List.length_eq_zero_iff.1 h1); simp at h1)
  have hc := AnyE.slices_DeleteFunc Tryz.delFRefs (Value.int .u64) (fun _ => rfl) (fun x => x == 0) 103 #[] entersNone 0 zeroRef g 0 cap zs.toArray w (fun W x _ => isNone_q x W) (fun n os dk x _ => isNone_q x _) hH (by simp; omega) (by simpa using hn)
  refine Calls.mono hc ?_
  rintro e w' ⟨rfl, q, rfl⟩
  have hfl : (zs.filter fun x => !(x == 0)).length ≤ zs.length := List.length_filter_le _ _
  have := ownsRow_putRow (q := q) (k := (zs.filter fun x => !(x == 0)).length) (ys := (zs.filter fun x => !(x == 0)) ++ List.replicate (zs.length - (zs.filter fun x => !(x == 0)).length) 0) h (by simp only [List.length_append, List.length_replicate]; omega) hfl
  rw [List.take_left'  rfl] at this
  exact ⟨_, rfl, by simpa using this, grown_putRow⟩
end Go.Proofs.YtpgbfkdknggceaaGreatDoor

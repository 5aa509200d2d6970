/-
  Contracts of slices.Index, slices.Contains (over numbers of 8 bits), ref.Set.Has and ref.Set.Add: what each returns and what it leaves of the world.
  Conditions: as each theorem says.
-/
import Derived.Test.YtiianjnjjginiaaBase
import Derived.Maps.OwnSet
import Derived.Maps.AppendAt
import Derived.WalkSpells
import Derived.Below
namespace Go.Proofs.Ytiianjnjjginiaa
open Go.ChangeShapes Go.WideShapes Go.ChangeAt Go.RowKit Go.Maps
set_option linter.unusedVariables false

theorem key25 : Keyed Try.prog 25 := int_keyed Try.underlying25
theorem zero38 (w : World) : (zeroValue 38).run Try.prog w = .ok (.agg #[]) w := by kernel_rfl

/-- x is among the first k of zs. -/
def among (zs : List Int) (k : Nat) (x : Int) : Bool := (zs.take k).contains x
theorem among_zero (zs : List Int) (x : Int) : among zs 0 x = false := by simp [among]
theorem among_succ (zs : List Int) (k : Nat) (x : Int) (h : k < zs.length) : among zs (k + 1) x = (among zs k x || x == zs.getD k 0) := by
  unfold among
  rw [List.take_succ_eq_append_getElem h, List.contains_eq_any_beq, List.any_append, ← List.contains_eq_any_beq]
  simp [List.getD_eq_getElem?_getD, h]
theorem among_mono (zs : List Int) (k d : Nat) (x : Int) (h : k + d ≤ zs.length) (hx : among zs k x = true) : among zs (k + d) x = true := by
  induction d with
  | zero => exact hx
  | succ d ih => rw [← Nat.add_assoc, among_succ zs (k + d) x (by omega), ih (by omega)]; rfl

set_option maxHeartbeats 400000 in
theorem index_none (cap : Nat) (a : Option Addr) (x : Int) (w : World) :
    Calls Try.prog 14 #[.slice a 0 cap, .int .u8 x] w fun e w' => e = .returned (.int .i64 (-1)) ∧ w' = w := by
  go_enter Try.func14, Try.ntmps14
  go_wp2
  refine wp_loop_rounds 1 ?_
  rw [rounds_succ]
  go_wp2
  go_ret
  exact ⟨rfl, rfl⟩

set_option maxHeartbeats 400000 in
theorem index_any (b off len cap : Nat) (zs : List Int) (x : Int) (w : World) (hl : len ≤ zs.length) (hm : len ≤ 1000000)
    (hc : ∀ j, j < zs.length → w.cell? ⟨b, off + j, none⟩ = some (.int .u8 (zs.getD j 0))) :
    Calls Try.prog 14 #[.slice (some ⟨b, off, none⟩) len cap, .int .u8 x] w fun e w' => (∃ i : Int, e = .returned (.int .i64 i) ∧ (decide (0 ≤ i)) = among zs len x) ∧ w' = w := by
  go_enter Try.func14, Try.ntmps14
  go_wp2
  go_loop [8] (fun i => ∃ k : Nat, k ≤ len ∧ i = .int .i64 k ∧ among zs k x = false) (fun i => len - (intOf i).toNat)
  case atStart => exact ⟨0, Nat.zero_le _, rfl, among_zero _ _⟩
  case round =>
    obtain ⟨k, hk, rfl, hn⟩ := hrel
    by_cases hlt : k < len
    · have hck := hc k (by omega)
      have hs := among_succ zs k x (by omega)
      rw [hn, Bool.false_or] at hs
      have hmo := among_mono zs (k + 1) (len - (k + 1)) x (by omega)
      rw [show k + 1 + (len - (k + 1)) = len from by omega] at hmo
      generalize zs.getD k 0 = z at hck hs
      have HS : Hid (among zs (k + 1) x = (x == z)) := hs
      have HM : Hid (among zs (k + 1) x = true → among zs len x = true) := hmo
      clear hs hmo hc hn
      cases hx : (x == z)
      · go_wp2
        go_round
        case rel => exact ⟨k + 1, by omega, by go_num, HS.out.trans hx⟩
        case measure => simp [intOf]; omega
      · go_wp2
        go_ret
        exact ⟨⟨_, rfl, (decide_eq_true (by omega)).trans (HM.out (HS.out.trans hx)).symm⟩, rfl⟩
    · have : k = len := by omega
      subst this
      have HN : Hid (among zs k x = false) := hn
      clear hn
      go_wp2
      go_ret
      exact ⟨⟨_, rfl, (decide_eq_false (by omega)).trans HN.out.symm⟩, rfl⟩

theorem contains_none (cap : Nat) (a : Option Addr) (x : Int) (w : World) :
    Calls Try.prog 11 #[.slice a 0 cap, .int .u8 x] w fun e w' => e = .returned (.bool false) ∧ w' = w := by
  go_enter Try.func11, Try.ntmps11
  go_wp2_with (go_at_call 14; refine (index_none _ _ _ _).mono ?_; rintro e w' ⟨rfl, rfl⟩)
  go_ret
  exact ⟨rfl, rfl⟩

theorem ret_bool {a b : Bool} (h : a = b) : Ending.returned (.bool a) = .returned (.bool b) := by rw [h]

theorem contains_any (b off len cap : Nat) (zs : List Int) (x : Int) (w : World) (hl : len ≤ zs.length) (hm : len ≤ 1000000)
    (hc : ∀ j, j < zs.length → w.cell? ⟨b, off + j, none⟩ = some (.int .u8 (zs.getD j 0))) :
    Calls Try.prog 11 #[.slice (some ⟨b, off, none⟩) len cap, .int .u8 x] w fun e w' => e = .returned (.bool (among zs len x)) ∧ w' = w := by
  go_enter Try.func11, Try.ntmps11
  go_wp2_with (go_at_call 14; refine (index_any b off len cap zs x _ hl hm hc).mono ?_; rintro e w' ⟨⟨i, rfl, hi⟩, rfl⟩)
  go_ret
  exact ⟨rfl, rfl⟩

section
variable {D : DataW Unit} {B n : Nat} {w : World}

theorem has_any (b : Bool) (x : Int) (hown : w.ownsMap Try.prog 25 unitElem B n D) (h0 : 0 ≤ x) (h1 : x ≤ 18446744073709551615) (hb : Maps.has D (.int .u64 x) = b) :
    Calls Try.prog 12 #[.map (some B), .int .u64 x] w fun e w' => e = .returned (.bool b) ∧ w' = w.alloc (.cells #[] 38) := by
  have hkey : keyOf Try.prog 25 (.int .u64 x) = some (.int .u64 x) := keyOf_int_mk Try.underlying25 (WalkArith.wf_u64 ⟨h0, h1⟩)
  go_enter Try.func12, Try.ntmps12
  go_wp2_with (at_lookup; refine wpList_lookup_own_unit _ rfl _ _ 32 rfl 25 38 key25 Try.underlying32 (zero38 _) B n D rfl hown _ _ rfl hkey ?_)
  go_ret
  exact ⟨rfl, rfl⟩

theorem add_old (x : Int) (hown : w.ownsMap Try.prog 25 unitElem B n D) (h0 : 0 ≤ x) (h1 : x ≤ 18446744073709551615) (hb : Maps.has D (.int .u64 x) = true) :
    Calls Try.prog 13 #[.map (some B), .int .u64 x] w fun e w' => e = .returned (.bool false) ∧ w' = w.alloc (.cells #[] 38) := by
  go_enter Try.func13, Try.ntmps13
  go_wp2_with (go_at_call 12; refine (has_any true x hown h0 h1 hb).mono ?_; rintro e w' ⟨rfl, rfl⟩)
  go_ret
  exact ⟨rfl, rfl⟩

theorem add_new (x : Int) (hown : w.ownsMap Try.prog 25 unitElem B n D) (hn : n < maxLen) (h0 : 0 ≤ x) (h1 : x ≤ 18446744073709551615) (hb : Maps.has D (.int .u64 x) = false) :
    Calls Try.prog 13 #[.map (some B), .int .u64 x] w fun e w' => e = .returned (.bool true) ∧ w'.ownsMap Try.prog 25 (unitElem (H := Unit)) B (n + 1) (D.put (.int .u64 x) (.agg [])) ∧ (w.alloc (.cells #[] 38)).grownBy w' (some B) := by
  have hkey : keyOf Try.prog 25 (.int .u64 x) = some (.int .u64 x) := keyOf_int_mk Try.underlying25 (WalkArith.wf_u64 ⟨h0, h1⟩)
  have hnn : ∀ (w : World) (r : Option Nat), (binOp .neq 32 (.map r) (.map none)).run Try.prog w = .ok (.bool (!r.isNone)) w := fun w r => run_neq_map_nil w _ _ _ r Try.underlying32
  go_enter Try.func13, Try.ntmps13
  go_wp2_with (first
    | (go_at_call 12; refine (has_any false x hown h0 h1 hb).mono ?_; rintro e w' ⟨rfl, rfl⟩)
    | (at_mapUpdate; refine wpList_mapUpdate_own _ rfl _ _ _ 32 rfl 25 38 key25 Try.underlying32 (unitElem (H := Unit)) B n D rfl (hown.alloc _) hn _ _ _ rfl rfl hkey _ [] unitElem_mk ?_; intro w1 hown1 hgrow1))
  go_ret
  exact ⟨rfl, hown1, hgrow1⟩
end

end Go.Proofs.Ytiianjnjjginiaa

/-
  The walk of RefSets (promise P1.2): it returns true for every slice of 8-bit numbers and every other number, and writes nothing that was there before the call.
  Conditions: as each theorem says (the argument's cells, read before the call).
-/
import Derived.Test.YtiianjnjjginiaaSets
namespace Go.Proofs.Ytiianjnjjginiaa
open Go.ChangeShapes Go.WideShapes Go.ChangeAt Go.RowKit Go.Maps
set_option linter.unusedVariables false

theorem contains_is (b off len cap : Nat) (zs : List Int) (x : Int) (w : World) (r : Bool) (hl : len ≤ zs.length) (hm : len ≤ 1000000)
    (hc : ∀ j, j < zs.length → w.cell? ⟨b, off + j, none⟩ = some (.int .u8 (zs.getD j 0))) (hr : among zs len x = r) :
    Calls Try.prog 11 #[.slice (some ⟨b, off, none⟩) len cap, .int .u8 x] w fun e w' => e = .returned (.bool r) ∧ w' = w := by
  subst hr
  exact contains_any b off len cap zs x w hl hm hc
theorem isKey64 {z : Int} : WideAt.IsKeyLit (.int .u64 z) := by
  simp [WideAt.IsKeyLit]

theorem sets_long (a : Option Addr) (len cap : Nat) (x : Int) (w : World) (hl : 60 < len) (hm : len ≤ maxLen) :
    Calls Try.prog 5 #[.slice a len cap, .int .u8 x] w fun e w' => e = .returned (.bool true) ∧ Below w.heap.size w w' := by
  unfold maxLen at hm
  go_enter Try.func5, Try.ntmps5
  go_wp2_with (go_at_call 7; refine (awake_any _).mono ?_; rintro e w ⟨rfl, rfl⟩)
  go_ret
  exact ⟨rfl, Below.refl _ _⟩

theorem sets_none (a : Option Addr) (cap : Nat) (x : Int) (w : World) (h0 : 0 ≤ x) (h1 : x ≤ 255) :
    Calls Try.prog 5 #[.slice a 0 cap, .int .u8 x] w fun e w' => e = .returned (.bool true) ∧ Below w.heap.size w w' := by
  have hmm := @run_makeMap Try.prog
  go_enter Try.func5, Try.ntmps5
  go_wp2_with (go_at_call 7; refine (awake_any _).mono ?_; rintro e w ⟨rfl, rfl⟩)
  refine wp_loop_rounds 1 ?_
  rw [rounds_succ]
  go_wp2_with (first
    | (go_at_call 12; refine (has_any (D := .map []) (B := w.heap.size) (n := 0) false x (World.ownsMap_made _ _ _ _) (by omega) (by omega) rfl).mono ?_; rintro e w' ⟨rfl, rfl⟩)
    | (go_at_call 11; refine (contains_none _ _ _ _).mono ?_; rintro e w' ⟨rfl, rfl⟩))
  go_ret
  exact ⟨rfl, ((Below.refl _ _).alloc (Nat.le_refl _) _).alloc (by simp) _⟩

set_option maxHeartbeats 1000000 in
theorem sets_any (b off len cap : Nat) (zs : List Int) (x : Int) (w : World) (h0 : 0 ≤ x) (h1 : x ≤ 255) (hl : len ≤ zs.length) (hm : len ≤ 60) (hb : b < w.heap.size) (hcap : len ≤ cap) (hcap2 : cap ≤ maxLen)
    (hc : ∀ j, j < zs.length → w.cell? ⟨b, off + j, none⟩ = some (.int .u8 (zs.getD j 0))) (hwz : ∀ n ∈ zs, (Lit.int .u8 n).wf = true) :
    Calls Try.prog 5 #[.slice (some ⟨b, off, none⟩) len cap, .int .u8 x] w fun e w' => e = .returned (.bool true) ∧ Below w.heap.size w w' := by
  have hmm := @run_makeMap Try.prog
  unfold maxLen at hcap2
  go_enter Try.func5, Try.ntmps5
  go_wp2_with (go_at_call 7; refine (awake_any _).mono ?_; rintro e w ⟨rfl, rfl⟩)
  go_loopw [17] (fun i wr => ∃ k : Nat, k ≤ len ∧ i = .int .i64 k ∧ (∃ D : DataW Unit, wr.ownsMap Try.prog 25 unitElem w.heap.size k D ∧ IsMap D ∧ ∀ y : Int, Maps.has D (.int .u64 y) = among zs k y) ∧ Below w.heap.size w wr ∧ w.heap.size + 1 ≤ wr.heap.size)
    (fun i _ => len - (intOf i).toNat)
  case atStart => exact ⟨0, Nat.zero_le _, rfl, ⟨.map [], World.ownsMap_made _ _ _ _, ⟨_, rfl⟩, fun y => (among_zero zs y).symm⟩, (Below.refl _ _).alloc (Nat.le_refl _) _, by simp⟩
  case round =>
    obtain ⟨k, hk, rfl, ⟨D, hown, hD, hhas⟩, hnx, hws⟩ := hrel
    have hcr : ∀ (w1 : World), Below w.heap.size w w1 → ∀ j, j < zs.length → w1.cell? ⟨b, off + j, none⟩ = some (.int .u8 (zs.getD j 0)) := fun w1 hb1 j hj => (hb1.cell (by exact hb)).trans (hc j hj)
    by_cases hlt : k < len
    · have hz := range_u8 hwz k
      have hck := hcr _ hnx k (by omega)
      have HC : Hid (∀ (w1 : World), Below w.heap.size w w1 → ∀ j, j < zs.length → w1.cell? ⟨b, off + j, none⟩ = some (.int .u8 (zs.getD j 0))) := hcr
      have hs := among_succ zs k
      have hhk := hhas (zs.getD k 0)
      rw [← List.getD_eq_getElem?_getD] at hz
      generalize zs.getD k 0 = z at hck hz hs hhk
      have HS : Hid (∀ y, k < zs.length → among zs (k + 1) y = (among zs k y || y == z)) := hs
      have HA : Hid (∀ y : Int, Maps.has D (.int .u64 y) = among zs k y) := hhas
      clear hcr hc hwz hs hhas
      cases hold : among zs k z
      · have HO : Hid (among zs k z = false) := hold
        have HK : Hid (Maps.has D (.int .u64 z) = false) := hhk.trans hold
        clear hold hhk
        go_wp2_with fail
        refine (contains_is b off k cap zs z _ false (by omega) (by omega) (HC.out _ hnx) HO.out).mono ?_
        rintro e wr ⟨rfl, rfl⟩
        go_wp2_with fail
        refine (has_any false z hown (by omega) (by omega) HK.out).mono ?_
        rintro e w' ⟨rfl, rfl⟩
        go_wp2_with fail
        refine (add_new z (hown.alloc _) (by unfold maxLen; omega) (by omega) (by omega) HK.out).mono ?_
        rintro e w1 ⟨rfl, hown1, hgrow1⟩
        go_wp2_with fail
        refine (has_any true z hown1 (by omega) (by omega) (Maps.has_put_same hD isKey64 _)).mono ?_
        rintro e w' ⟨rfl, rfl⟩
        go_wp2
        have s1 := hgrow1.size
        simp at s1
        go_roundw
        case rel =>
          refine ⟨k + 1, by omega, by go_num, ⟨_, hown1.alloc _, hD.put _ _, fun y => ?_⟩, ?_, by simp; omega⟩
          · rw [HS.out y (by omega), ← HA.out y]
            by_cases hy : y = z
            · subst hy
              rw [Maps.has_put_same hD isKey64]; simp
            · rw [Maps.has_put_other (by simpa using hy)]
              simp [hy]
          · exact ((((hnx.alloc hnx.size _).alloc (by simp; omega) _).grown hgrow1 (by simp; omega) (fun j hj => by cases hj; exact Nat.le_refl _)).alloc (by omega) _)
        case measure => simp [intOf]; omega
      · have HO : Hid (among zs k z = true) := hold
        have HK : Hid (Maps.has D (.int .u64 z) = true) := hhk.trans hold
        clear hold hhk
        go_wp2_with fail
        refine (contains_is b off k cap zs z _ true (by omega) (by omega) (HC.out _ hnx) HO.out).mono ?_
        rintro e wr ⟨rfl, rfl⟩
        go_wp2_with fail
        refine (has_any true z hown (by omega) (by omega) HK.out).mono ?_
        rintro e w' ⟨rfl, rfl⟩
        go_wp2_with fail
        refine (add_old z (hown.alloc _) (by omega) (by omega) HK.out).mono ?_
        rintro e w1 ⟨rfl, rfl⟩
        go_wp2_with fail
        refine (has_any true z ((hown.alloc _).alloc _) (by omega) (by omega) HK.out).mono ?_
        rintro e w' ⟨rfl, rfl⟩
        go_wp2
        go_roundw
        case rel =>
          refine ⟨k + 1, by omega, by go_num, ⟨D, (((hown.alloc _).alloc _).alloc _).mono (Nat.le_succ _), hD, fun y => ?_⟩, ?_, by simp; omega⟩
          · rw [HS.out y (by omega), HA.out y]
            by_cases hy : y = z
            · subst hy
              rw [HO.out]; rfl
            · simp [hy]
          · exact ((hnx.alloc hnx.size _).alloc (by simp; omega) _).alloc (by simp; omega) _
        case measure => simp [intOf]; omega
    · have : k = len := by omega
      subst this
      have hh := hhas x
      have HC : Hid (∀ (w1 : World), Below w.heap.size w w1 → ∀ j, j < zs.length → w1.cell? ⟨b, off + j, none⟩ = some (.int .u8 (zs.getD j 0))) := hcr
      have HH : Hid (Maps.has D (.int .u64 x) = among zs k x) := hh
      clear hcr hc hwz hhas hh
      generalize hg : among zs k x = r at HH
      have HG : Hid (among zs k x = r) := hg
      clear hg
      go_wp2_with (first
        | (go_at_call 12; refine (has_any r x hown (by omega) (by omega) HH.out).mono ?_; rintro e w' ⟨rfl, rfl⟩)
        | (go_at_call 11; refine (contains_any b off k cap zs x _ hl (by omega) (HC.out _ (hnx.alloc hnx.size _))).mono ?_; rintro e w' ⟨rfl, rfl⟩))
      go_ret
      exact ⟨ret_bool (by rw [HG.out]; exact beq_self_eq_true r), hnx.alloc hnx.size _⟩
end Go.Proofs.Ytiianjnjjginiaa

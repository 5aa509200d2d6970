/-
  The walk of ValueSames (promise P2.1) where the second value takes the first one's kind, and where a text is too long; and the walk at every input.
  Conditions: the library's tables as they are laid (Tabs); numbers that fit their kinds.
-/
import Derived.Test.YtgdjdbbjfnhdeaaDoorSames
namespace Go.Proofs.YtgdjdbbjfnhdeaaDoor
open Go.RowKit Go.Sort
set_option linter.unusedVariables false
set_option maxHeartbeats 4000000 in
theorem sames_t (k n k' n' : Int) (s s' : ByteArray) (w : World) (hk0 : 0 ≤ k) (hk1 : k ≤ 255) (hn0 : -9223372036854775808 ≤ n) (hn1 : n ≤ 9223372036854775807)
    (hk0' : 0 ≤ k') (hk1' : k' ≤ 255) (hn0' : -9223372036854775808 ≤ n') (hn1' : n' ≤ 9223372036854775807) (hs : s.size ≤ 100) (hs' : s'.size ≤ 100) (hT : Tabs w) :
    Calls Tryd.prog 4 #[.agg #[.int .u8 k, .int .i64 n, .string s], .agg #[.int .u8 k', .int .i64 n', .string s'], .bool true] w fun e w' => e = .returned (.bool true) ∧ Below w.heap.size w w' := by
  go_enter Tryd.func4, Tryd.ntmps4
  go_wp2_with fail
  refine (awake_any _).mono ?_
  rintro e w' ⟨rfl, rfl⟩
  go_upto_region 8 with fail
  go_cut [8, 9] (fun x y wc => ∃ b8 b9 : Nat, x = .pointer (some ⟨b8, 0, none⟩) ∧ y = .pointer (some ⟨b9, 0, none⟩) ∧ Below w.heap.size w wc ∧
     (wc.cell? ⟨b8, 0, none⟩ = some (.int .u8 (k % 5)) ∧ wc.cell? ⟨b8, 1, none⟩ = some (.int .i64 (mkN k n)) ∧ wc.cell? ⟨b8, 2, none⟩ = some (.string (mkS k s))) ∧
     (wc.cell? ⟨b9, 0, none⟩ = some (.int .u8 (k % 5)) ∧ wc.cell? ⟨b9, 1, none⟩ = some (.int .i64 (mkN k n')) ∧ wc.cell? ⟨b9, 2, none⟩ = some (.string (mkS k s'))))
  case first =>
    go_region_held3 (fun w' => w'.cell? ⟨w.heap.size, 0, none⟩ = some (.int .u8 k) ∧ w'.cell? ⟨w.heap.size, 1, none⟩ = some (.int .i64 n) ∧ w'.cell? ⟨w.heap.size, 2, none⟩ = some (.string s) ∧ w'.cell? ⟨w.heap.size + 1, 0, none⟩ = some (.int .u8 k) ∧ w'.cell? ⟨w.heap.size + 1, 1, none⟩ = some (.int .i64 n') ∧ w'.cell? ⟨w.heap.size + 1, 2, none⟩ = some (.string s'))
      (go_simp) (first | (go_at_call 8; refine (make_any _ _ _ _ (by omega) (by omega) (by omega) (by omega)).mono ?_; rintro e w' ⟨rfl, rfl⟩))
    all_goals
      go_wp2_with fail
      go_meet
      case rel =>
        refine ⟨_, _, rfl, rfl, ?_, ⟨by go_simp, by go_simp, by go_simp⟩, by go_simp, by go_simp, by go_simp⟩
        refine Below.drew ?_
        repeat (first | exact Below.refl _ _ | (refine Below.alloc ?_ (by simp <;> omega) _))
  case rest =>
    obtain ⟨b8, b9, rfl, rfl, hb, ⟨x0, x1, x2⟩, y0, y1, y2⟩ := hcut
    have hC := canon_make k n s hn0 hn1 (by omega)
    have hC' := canon_make k n' s' hn0' hn1' (by omega)
    generalize k % 5 = c at *
    generalize mkN k n = m at *
    generalize mkS k s = t at *
    generalize mkN k n' = m' at *
    generalize mkS k s' = t' at *
    have hTc := hT.below hb
    have k0 := cell_regrown x0
    have k1 := cell_regrown x1
    have k2 := cell_regrown x2
    have j0 := cell_regrown y0
    have j1 := cell_regrown y1
    have j2 := cell_regrown y2
    have cA : ∀ d os, Calls Tryd.prog 11 #[.agg #[.int .u8 c, .int .i64 m, .string t], .func (.func 13) #[] #[]] (grow (redrawn wc d) os) fun e w'' => e = .returned (.string (vtext c m t)) ∧ ∃ p : Regrown, w'' = grow (redrawn wc p.d) p.os := fun d os => Calls.regrown_of (str_val c m t _ hC _ (hTc.below (below_regrown wc d os)))
    have cB : ∀ d os, Calls Tryd.prog 11 #[.agg #[.int .u8 c, .int .i64 m', .string t'], .func (.func 13) #[] #[]] (grow (redrawn wc d) os) fun e w'' => e = .returned (.string (vtext c m' t')) ∧ ∃ p : Regrown, w'' = grow (redrawn wc p.d) p.os := fun d os => Calls.regrown_of (str_val c m' t' _ hC' _ (hTc.below (below_regrown wc d os)))
    have CA := Lib.hid cA
    have CB := Lib.hid cB
    clear cA cB
    · by_cases hm : m = m'
      · subst hm
        by_cases ht : t = t'
        · subst ht
          go_wp2_with fail
          refine wp_region_quiet_below (by kernel_rfl) (by kernel_rfl) ?_
          repeat (first | go_big_quiet_step (exact CA.out _ _) | quiet_step (exact CA.out _ _))
          refine wpQuiet_nil ?_
          intro _ hw'
          obtain ⟨⟨dq, osq⟩, hw''⟩ := hw'
          subst hw''
          go_wp2
          go_ret
          exact ⟨rfl, hb.trans ((below_regrown wc dq osq).mono hb.size)⟩
        · have htb : (t.toList == t'.toList) = false := bytes_ne ht
          have hv : vtext c m t ≠ vtext c m t' := fun e => ht (vtext_inj c m m t t' hC hC' e).2
          have hvb : (vtext c m t).toList ≠ (vtext c m t').toList := fun e => by have := bytes_ne hv; simp [e] at this
          have hv1 : ((vtext c m t).toList == (vtext c m t').toList) = false := bytes_ne hv
          have hv2 : (vtext c m t == vtext c m t') = false := by rw [beq_toListBytes]; exact hv1
          clear ht
          go_wp2_with fail
          refine wp_region_quiet_below (by kernel_rfl) (by kernel_rfl) ?_
          repeat (first | go_big_quiet_step (first | (go_at_call_of 11 (Value.string t); exact CA.out _ _) | (go_at_call_of 11 (Value.string t'); exact CB.out _ _)) | quiet_step (first | (go_at_call_of 11 (Value.string t); exact CA.out _ _) | (go_at_call_of 11 (Value.string t'); exact CB.out _ _)))
          refine wpQuiet_nil ?_
          intro _ hw'
          obtain ⟨⟨dq, osq⟩, hw''⟩ := hw'
          subst hw''
          go_wp2
          go_ret
          exact ⟨rfl, hb.trans ((below_regrown wc dq osq).mono hb.size)⟩
      · have hmb : (m == m') = false := by simpa using hm
        have hv : vtext c m t ≠ vtext c m' t' := fun e => hm (vtext_inj c m m' t t' hC hC' e).1
        have hv1 : ((vtext c m t).toList == (vtext c m' t').toList) = false := bytes_ne hv
        have hv2 : (vtext c m t == vtext c m' t') = false := by rw [beq_toListBytes]; exact hv1
        clear hm
        go_wp2_with fail
        refine wp_region_quiet_below (by kernel_rfl) (by kernel_rfl) ?_
        repeat (first | go_big_quiet_step (first | (go_at_call_of 11 (Value.int IntKind.i64 m); exact CA.out _ _) | (go_at_call_of 11 (Value.int IntKind.i64 m'); exact CB.out _ _)) | quiet_step (first | (go_at_call_of 11 (Value.int IntKind.i64 m); exact CA.out _ _) | (go_at_call_of 11 (Value.int IntKind.i64 m'); exact CB.out _ _)))
        refine wpQuiet_nil ?_
        intro _ hw'
        obtain ⟨⟨dq, osq⟩, hw''⟩ := hw'
        subst hw''
        go_wp2
        go_ret
        exact ⟨rfl, hb.trans ((below_regrown wc dq osq).mono hb.size)⟩
theorem sames_long1 (k n k' n' : Int) (s s' : ByteArray) (b : Bool) (w : World) (hl : 100 < s.size) (hm : s.size ≤ maxLen) :
    Calls Tryd.prog 4 #[.agg #[.int .u8 k, .int .i64 n, .string s], .agg #[.int .u8 k', .int .i64 n', .string s'], .bool b] w fun e w' => e = .returned (.bool true) ∧ Below w.heap.size w w' := by
  unfold maxLen at hm
  have hl2 : (decide ((100 : Int) < (s.size : Int))) = true := decide_eq_true (by omega)
  go_enter Tryd.func4, Tryd.ntmps4
  go_wp2_with fail
  refine (awake_any _).mono ?_
  rintro e w' ⟨rfl, rfl⟩
  go_wp2_with fail
  go_ret
  exact ⟨rfl, ((((Below.refl _ _).alloc (Nat.le_refl _) _).alloc (by simp) _).alloc (by simp; omega) _).alloc (by simp; omega) _⟩
theorem sames_long2 (k n k' n' : Int) (s s' : ByteArray) (b : Bool) (w : World) (hs : s.size ≤ 100) (hl : 100 < s'.size) (hm : s'.size ≤ maxLen) :
    Calls Tryd.prog 4 #[.agg #[.int .u8 k, .int .i64 n, .string s], .agg #[.int .u8 k', .int .i64 n', .string s'], .bool b] w fun e w' => e = .returned (.bool true) ∧ Below w.heap.size w w' := by
  unfold maxLen at hm
  go_enter Tryd.func4, Tryd.ntmps4
  go_wp2_with fail
  refine (awake_any _).mono ?_
  rintro e w' ⟨rfl, rfl⟩
  go_wp2_with fail
  go_ret
  exact ⟨rfl, ((((Below.refl _ _).alloc (Nat.le_refl _) _).alloc (by simp) _).alloc (by simp; omega) _).alloc (by simp; omega) _⟩
theorem sames_any (k n k' n' : Int) (s s' : ByteArray) (b : Bool) (w : World) (hk0 : 0 ≤ k) (hk1 : k ≤ 255) (hn0 : -9223372036854775808 ≤ n) (hn1 : n ≤ 9223372036854775807)
    (hk0' : 0 ≤ k') (hk1' : k' ≤ 255) (hn0' : -9223372036854775808 ≤ n') (hn1' : n' ≤ 9223372036854775807) (hs : s.size ≤ maxLen) (hs' : s'.size ≤ maxLen) (hT : Tabs w) :
    Calls Tryd.prog 4 #[.agg #[.int .u8 k, .int .i64 n, .string s], .agg #[.int .u8 k', .int .i64 n', .string s'], .bool b] w fun e w' => e = .returned (.bool true) ∧ Below w.heap.size w w' := by
  by_cases h1 : 100 < s.size
  · exact sames_long1 k n k' n' s s' b w h1 hs
  · by_cases h2 : 100 < s'.size
    · exact sames_long2 k n k' n' s s' b w (by omega) h2 hs'
    · cases b
      · exact sames_f k n k' n' s s' w hk0 hk1 hn0 hn1 hk0' hk1' hn0' hn1' (by omega) (by omega) hT
      · exact sames_t k n k' n' s s' w hk0 hk1 hn0 hn1 hk0' hk1' hn0' hn1' (by omega) (by omega) hT
end Go.Proofs.YtgdjdbbjfnhdeaaDoor

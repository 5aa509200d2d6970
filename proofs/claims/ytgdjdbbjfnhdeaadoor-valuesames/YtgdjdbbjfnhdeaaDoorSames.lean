/-
  The walk of ValueSames (promise P2.1) where the second value keeps its own kind; and that String tells two values of one kind apart.
  Conditions: texts of at most 100 bytes; the library's tables as they are laid (Tabs); numbers that fit their kinds.
-/
import Derived.Test.YtgdjdbbjfnhdeaaDoorTextsWalk
import Derived.Test.YtgdjdbbjfnhdeaaDoorInj
import Derived.Deep.RegionHeld3
import Derived.Deep.DeepCutAuto
import Derived.Lib.QuietBelow
import Derived.BigQuiet
namespace Go.Proofs.YtgdjdbbjfnhdeaaDoor
open Go.RowKit Go.Sort
set_option linter.unusedVariables false
/-- A value as Make makes it: what its kind has no use for is zero. -/
def Canon (c m : Int) (t : ByteArray) : Prop :=
  (c = 0 ∧ m = 0 ∧ t = { data := #[] }) ∨ (c = 1 ∧ (m = 0 ∨ m = 1) ∧ t = { data := #[] }) ∨ (c = 2 ∧ (-9223372036854775808 ≤ m ∧ m ≤ 9223372036854775807) ∧ t = { data := #[] }) ∨
  (c = 3 ∧ m = 0 ∧ t.size ≤ 200) ∨ (c = 4 ∧ (-9223372036854775808 ≤ m ∧ m ≤ 9223372036854775807) ∧ t = { data := #[] })
theorem canon_make (k n : Int) (s : ByteArray) (hn0 : -9223372036854775808 ≤ n) (hn1 : n ≤ 9223372036854775807) (hs : s.size ≤ 200) : Canon (k % 5) (mkN k n) (mkS k s) := by
  have hc : k % 5 = 0 ∨ k % 5 = 1 ∨ k % 5 = 2 ∨ k % 5 = 3 ∨ k % 5 = 4 := by omega
  rcases hc with hc | hc | hc | hc | hc
  · exact .inl ⟨hc, by simp [mkN, hc], by simp [mkS, hc]⟩
  · refine .inr (.inl ⟨hc, ?_, by simp [mkS, hc]⟩)
    have : mkN k n = bits .and .i64 n 1 := by simp [mkN, hc]
    rw [this]
    exact and_bit n
  · exact .inr (.inr (.inl ⟨hc, by simp [mkN, hc]; omega, by simp [mkS, hc]⟩))
  · refine .inr (.inr (.inr (.inl ⟨hc, by simp [mkN, hc], ?_⟩)))
    have : mkS k s = s := by simp [mkS, hc]
    rw [this]
    exact hs
  · refine .inr (.inr (.inr (.inr ⟨hc, ?_, by simp [mkS, hc]⟩)))
    have : mkN k n = (wrap64 (n.tmod 6 + 6)).tmod 6 := by simp [mkN, hc]
    rw [this]
    exact bd6 _
/-- What String tells of such a value. -/
def vtext (c m : Int) (t : ByteArray) : ByteArray :=
  if c = 0 then { data := #[110, 105, 108] } else if c = 1 then ⟨(Lib.formatBool (m != 0)).toArray⟩ else if c = 2 then ⟨(Lib.itoa m).toArray⟩
  else if c = 3 then strOfNums (Lib.quoteZ Lib.goPrintTabs t) else { data := #[119, 111, 114, 100, 32] } ++ ⟨(Lib.itoa m).toArray⟩
theorem str_val (c m : Int) (t : ByteArray) (f : Value) (h : Canon c m t) (w : World) (hT : Tabs w) :
    Calls Tryd.prog 11 #[.agg #[.int .u8 c, .int .i64 m, .string t], f] w fun e w' => e = .returned (.string (vtext c m t)) ∧ Below w.heap.size w w' := by
  rcases h with ⟨rfl, rfl, rfl⟩ | ⟨rfl, hm, rfl⟩ | ⟨rfl, hm, rfl⟩ | ⟨rfl, rfl, ht⟩ | ⟨rfl, hm, rfl⟩
  · exact str_nil _ _ _ _
  · exact str_bool _ _ _ _
  · exact str_int _ _ _ hm.1 hm.2 _ hT
  · exact str_text _ _ _ ht _ hT
  · exact str_word _ _ _ hm.1 hm.2 _ hT
theorem append_left_inj {a b c : ByteArray} (h : a ++ b = a ++ c) : b = c := by
  have := congrArg (fun x : ByteArray => x.data.toList) h
  simp [ByteArray.data_append] at this
  obtain ⟨⟨b⟩⟩ := b
  obtain ⟨⟨c⟩⟩ := c
  simpa using this
theorem vtext_inj (c m m' : Int) (t t' : ByteArray) (h : Canon c m t) (h' : Canon c m' t') (e : vtext c m t = vtext c m' t') : m = m' ∧ t = t' := by
  rcases h with ⟨rfl, rfl, rfl⟩ | ⟨rfl, hm, rfl⟩ | ⟨rfl, hm, rfl⟩ | ⟨rfl, rfl, ht⟩ | ⟨rfl, hm, rfl⟩
  · rcases h' with ⟨_, rfl, rfl⟩ | ⟨g, _⟩ | ⟨g, _⟩ | ⟨g, _⟩ | ⟨g, _⟩
    · exact ⟨rfl, rfl⟩
    all_goals omega
  · rcases h' with ⟨g, _⟩ | ⟨_, hm', rfl⟩ | ⟨g, _⟩ | ⟨g, _⟩ | ⟨g, _⟩
    · omega
    · refine ⟨?_, rfl⟩
      have e' : Lib.formatBool (m != 0) = Lib.formatBool (m' != 0) := str_inj (by simpa [vtext] using e)
      rcases hm with rfl | rfl <;> rcases hm' with rfl | rfl
      · rfl
      · exact absurd e' (by decide)
      · exact absurd e' (by decide)
      · rfl
    all_goals omega
  · rcases h' with ⟨g, _⟩ | ⟨g, _⟩ | ⟨_, hm', rfl⟩ | ⟨g, _⟩ | ⟨g, _⟩
    · omega
    · omega
    · exact ⟨itoa_inj _ _ (str_inj (by simpa [vtext] using e)), rfl⟩
    all_goals omega
  · rcases h' with ⟨g, _⟩ | ⟨g, _⟩ | ⟨g, _⟩ | ⟨_, rfl, ht'⟩ | ⟨g, _⟩
    · omega
    · omega
    · omega
    · exact ⟨rfl, quote_inj Lib.goPrintTabs _ _ (by simpa [vtext] using e)⟩
    · omega
  · rcases h' with ⟨g, _⟩ | ⟨g, _⟩ | ⟨g, _⟩ | ⟨g, _⟩ | ⟨_, hm', rfl⟩
    · omega
    · omega
    · omega
    · omega
    · refine ⟨itoa_inj _ _ (str_inj (append_left_inj (a := { data := #[119, 111, 114, 100, 32] }) ?_)), rfl⟩
      simpa [vtext] using e
theorem bytes_ne {a b : ByteArray} (h : a ≠ b) : (a.toList == b.toList) = false := by
  rw [← beq_toListBytes]
  cases hb : (a == b)
  · rfl
  · refine absurd ?_ h
    obtain ⟨x⟩ := a
    obtain ⟨y⟩ := b
    have : (x == y) = true := hb
    rw [eq_of_beq this]
set_option maxHeartbeats 4000000 in
theorem sames_f (k n k' n' : Int) (s s' : ByteArray) (w : World) (hk0 : 0 ≤ k) (hk1 : k ≤ 255) (hn0 : -9223372036854775808 ≤ n) (hn1 : n ≤ 9223372036854775807)
    (hk0' : 0 ≤ k') (hk1' : k' ≤ 255) (hn0' : -9223372036854775808 ≤ n') (hn1' : n' ≤ 9223372036854775807) (hs : s.size ≤ 100) (hs' : s'.size ≤ 100) (hT : Tabs w) :
    Calls Tryd.prog 4 #[.agg #[.int .u8 k, .int .i64 n, .string s], .agg #[.int .u8 k', .int .i64 n', .string s'], .bool false] w fun e w' => e = .returned (.bool true) ∧ Below w.heap.size w w' := by
  go_enter Tryd.func4, Tryd.ntmps4
  go_wp2_with fail
  refine (awake_any _).mono ?_
  rintro e w' ⟨rfl, rfl⟩
  go_upto_region 8 with fail
  go_cut [8, 9] (fun x y wc => ∃ b8 b9 : Nat, x = .pointer (some ⟨b8, 0, none⟩) ∧ y = .pointer (some ⟨b9, 0, none⟩) ∧ Below w.heap.size w wc ∧
     (wc.cell? ⟨b8, 0, none⟩ = some (.int .u8 (k % 5)) ∧ wc.cell? ⟨b8, 1, none⟩ = some (.int .i64 (mkN k n)) ∧ wc.cell? ⟨b8, 2, none⟩ = some (.string (mkS k s))) ∧
     (wc.cell? ⟨b9, 0, none⟩ = some (.int .u8 (k' % 5)) ∧ wc.cell? ⟨b9, 1, none⟩ = some (.int .i64 (mkN k' n')) ∧ wc.cell? ⟨b9, 2, none⟩ = some (.string (mkS k' s'))))
  case first =>
    go_region_held3 (fun w' => w'.cell? ⟨w.heap.size, 0, none⟩ = some (.int .u8 k) ∧ w'.cell? ⟨w.heap.size, 1, none⟩ = some (.int .i64 n) ∧ w'.cell? ⟨w.heap.size, 2, none⟩ = some (.string s) ∧ w'.cell? ⟨w.heap.size + 1, 0, none⟩ = some (.int .u8 k') ∧ w'.cell? ⟨w.heap.size + 1, 1, none⟩ = some (.int .i64 n') ∧ w'.cell? ⟨w.heap.size + 1, 2, none⟩ = some (.string s'))
      (go_simp) (first | (go_at_call 8; refine (make_any _ _ _ _ (by omega) (by omega) (by omega) (by omega)).mono ?_; rintro e w' ⟨rfl, rfl⟩))
    all_goals
      go_wp2_with fail
      go_meet
      case rel =>
        refine ⟨_, _, rfl, rfl, ?_, ⟨by go_simp, by go_simp, by go_simp⟩, by go_simp, by go_simp, by go_simp⟩
        refine Below.drew ?_
        repeat (first | exact Below.refl _ _ | (refine Below.alloc ?_ (by simp <;> omega) _))
  case rest =>
    obtain ⟨b8, b9, rfl, rfl, hb, ⟨x0, x1, x2⟩, y0, y1, y2⟩ := hcut
    have hC := canon_make k n s hn0 hn1 (by omega)
    have hC' := canon_make k' n' s' hn0' hn1' (by omega)
    generalize k % 5 = c at *
    generalize mkN k n = m at *
    generalize mkS k s = t at *
    generalize k' % 5 = c' at *
    generalize mkN k' n' = m' at *
    generalize mkS k' s' = t' at *
    have hTc := hT.below hb
    have k0 := cell_regrown x0
    have k1 := cell_regrown x1
    have k2 := cell_regrown x2
    have j0 := cell_regrown y0
    have j1 := cell_regrown y1
    have j2 := cell_regrown y2
    have cA : ∀ d os, Calls Tryd.prog 11 #[.agg #[.int .u8 c, .int .i64 m, .string t], .func (.func 13) #[] #[]] (grow (redrawn wc d) os) fun e w'' => e = .returned (.string (vtext c m t)) ∧ ∃ p : Regrown, w'' = grow (redrawn wc p.d) p.os := fun d os => Calls.regrown_of (str_val c m t _ hC _ (hTc.below (below_regrown wc d os)))
    have cB : ∀ d os, Calls Tryd.prog 11 #[.agg #[.int .u8 c', .int .i64 m', .string t'], .func (.func 13) #[] #[]] (grow (redrawn wc d) os) fun e w'' => e = .returned (.string (vtext c' m' t')) ∧ ∃ p : Regrown, w'' = grow (redrawn wc p.d) p.os := fun d os => Calls.regrown_of (str_val c' m' t' _ hC' _ (hTc.below (below_regrown wc d os)))
    have CA := Lib.hid cA
    have CB := Lib.hid cB
    clear cA cB
    by_cases hc : c = c'
    · subst hc
      by_cases hm : m = m'
      · subst hm
        by_cases ht : t = t'
        · subst ht
          go_wp2_with fail
          refine wp_region_quiet_below (by kernel_rfl) (by kernel_rfl) ?_
          repeat (first | go_big_quiet_step (exact CA.out _ _) | quiet_step (exact CA.out _ _))
          refine wpQuiet_nil ?_
          intro _ hw'
          obtain ⟨⟨dq, osq⟩, hw''⟩ := hw'
          subst hw''
          go_wp2
          go_ret
          exact ⟨rfl, hb.trans ((below_regrown wc dq osq).mono hb.size)⟩
        · have htb : (t.toList == t'.toList) = false := bytes_ne ht
          have hv : vtext c m t ≠ vtext c m t' := fun e => ht (vtext_inj c m m t t' hC hC' e).2
          have hvb : (vtext c m t).toList ≠ (vtext c m t').toList := fun e => by have := bytes_ne hv; simp [e] at this
          have hv1 : ((vtext c m t).toList == (vtext c m t').toList) = false := bytes_ne hv
          have hv2 : (vtext c m t == vtext c m t') = false := by rw [beq_toListBytes]; exact hv1
          clear ht
          go_wp2_with fail
          refine wp_region_quiet_below (by kernel_rfl) (by kernel_rfl) ?_
          repeat (first | go_big_quiet_step (first | (go_at_call_of 11 (Value.string t); exact CA.out _ _) | (go_at_call_of 11 (Value.string t'); exact CB.out _ _)) | quiet_step (first | (go_at_call_of 11 (Value.string t); exact CA.out _ _) | (go_at_call_of 11 (Value.string t'); exact CB.out _ _)))
          refine wpQuiet_nil ?_
          intro _ hw'
          obtain ⟨⟨dq, osq⟩, hw''⟩ := hw'
          subst hw''
          go_wp2
          go_ret
          exact ⟨rfl, hb.trans ((below_regrown wc dq osq).mono hb.size)⟩
      · have hmb : (m == m') = false := by simpa using hm
        have hv : vtext c m t ≠ vtext c m' t' := fun e => hm (vtext_inj c m m' t t' hC hC' e).1
        have hv1 : ((vtext c m t).toList == (vtext c m' t').toList) = false := bytes_ne hv
        have hv2 : (vtext c m t == vtext c m' t') = false := by rw [beq_toListBytes]; exact hv1
        clear hm
        go_wp2_with fail
        refine wp_region_quiet_below (by kernel_rfl) (by kernel_rfl) ?_
        repeat (first | go_big_quiet_step (first | (go_at_call_of 11 (Value.int IntKind.i64 m); exact CA.out _ _) | (go_at_call_of 11 (Value.int IntKind.i64 m'); exact CB.out _ _)) | quiet_step (first | (go_at_call_of 11 (Value.int IntKind.i64 m); exact CA.out _ _) | (go_at_call_of 11 (Value.int IntKind.i64 m'); exact CB.out _ _)))
        refine wpQuiet_nil ?_
        intro _ hw'
        obtain ⟨⟨dq, osq⟩, hw''⟩ := hw'
        subst hw''
        go_wp2
        go_ret
        exact ⟨rfl, hb.trans ((below_regrown wc dq osq).mono hb.size)⟩
    · have hcb : (c == c') = false := by simpa using hc
      clear hc
      go_wp2_with fail
      refine wp_region_quiet_below (by kernel_rfl) (by kernel_rfl) ?_
      repeat (first | go_big_quiet_step (fail) | quiet_step (fail))
      refine wpQuiet_nil ?_
      intro _ hw'
      obtain ⟨⟨dq, osq⟩, hw''⟩ := hw'
      subst hw''
      go_wp2
      go_ret
      exact ⟨rfl, hb.trans ((below_regrown wc dq osq).mono hb.size)⟩
end Go.Proofs.YtgdjdbbjfnhdeaaDoor

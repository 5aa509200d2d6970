/-
  Package tree's addQuote and Quote, the laws' quote: a text in quotes.
  Conditions: as each theorem says (the row's bytes and the text's are at most 1000000000).
-/
import Derived.Test.YtpgbfkdknggceaaGreatDoorTrRow
import Derived.Test.YtpgbfkdknggceaaGreatDoorLx1
namespace Go.Proofs.YtpgbfkdknggceaaGreatDoor
open Go.RowKit TM
set_option linter.unusedVariables false
theorem quo_len (c : UInt8) : 1 ≤ (quo c).length ∧ (quo c).length ≤ 2 := by
  unfold quo
  split
  · simp
  · split <;> simp
theorem quoF_len : ∀ (l : Bs), l.length ≤ (l.flatMap quo).length ∧ (l.flatMap quo).length ≤ 2 * l.length
  | [] => by simp
  | c :: l => by have := quo_len c; have := quoF_len l; simp only [List.flatMap_cons, List.length_append, List.length_cons]; omega
theorem quoF_snoc {l : Bs} {k : Nat} {c : UInt8} (h : l[k]? = some c) : (l.take (k + 1)).flatMap quo = (l.take k).flatMap quo ++ quo c := by
  rw [List.take_add_one, h, List.flatMap_append]
  simp
theorem take_len (l : Bs) (k : Nat) : (l.take k).length ≤ k := by rw [List.length_take]; omega
set_option maxRecDepth 100000 in
set_option maxHeartbeats 1000000 in
theorem addQuote_any {B : Nat} {w : World} {v : Value} {l : Bs} (hR : Bt B w v l) (hB : B ≤ w.heap.size) (s : ByteArray) (hl : l.length + s.size ≤ 1000000000) :
    Calls Tryz.prog 26 #[v, .string s] w fun e w' => ∃ v', e = .returned v' ∧ Bt B w' v' (l ++ quoteT s.data.toList) ∧ Gr w w' v v' := by
  have HR : Hid (Bt B w v l) := hR
  clear hR
  go_enter Tryz.func26, Tryz.ntmps26
  go_wp2_with (at_builtin; refine wpList_app_row rfl (.tmp 7) (.tmp 8) rfl rfl HR.out hB [34] rfl rfl rfl (by decide) (by simp; omega) ?_)
  intro v1 w1 h1 k1
  have HK1 : Hid (Gr w w1 v v1) := k1
  have HR1 : Hid (Bt B w1 v1 (l ++ [34])) := h1
  have hB1 : B ≤ w1.heap.size := Nat.le_trans hB k1.size
  clear h1 k1 HR
  go_wp2_with fail
  go_loopw [12, 0] (fun i u wr => ∃ k : Nat, k ≤ s.size ∧ i = .int .i64 k ∧ Hid (Bt B wr u (l ++ [34] ++ (s.data.toList.take k).flatMap quo)) ∧ Hid (Gr w wr v u))
    (fun i _ _ => s.size - (intOf i).toNat)
  case atStart => exact ⟨0, Nat.zero_le _, rfl, by simpa using HR1, HK1⟩
  case round =>
    obtain ⟨k, hk, rfl, HB, HK⟩ := hrel
    have hBw : B ≤ wr.heap.size := Nat.le_trans hB HK.out.size
    have hlen : (l ++ [34] ++ (s.data.toList.take k).flatMap quo).length ≤ l.length + 1 + 2 * k := by
      have h1 := quoF_len (s.data.toList.take k)
      have h2 := take_len s.data.toList k
      simp only [List.length_append, List.length_cons, List.length_nil]
      omega
    obtain ⟨A, hA⟩ : ∃ A, l ++ [34] ++ (s.data.toList.take k).flatMap quo = A := ⟨_, rfl⟩
    rw [hA] at HB hlen
    have HA : Hid (l ++ [34] ++ (s.data.toList.take k).flatMap quo = A) := hA
    clear hA
    by_cases hlt : k < s.size
    · have hb := byte_at s k hlt
      have HS : Hid ((s.data.toList.take (k + 1)).flatMap quo = (s.data.toList.take k).flatMap quo ++ quo (s[k]'hlt)) := quoF_snoc hb
      have hidx : 0 ≤ (k : Int) ∧ (k : Int) < (s.size : Int) := ⟨by omega, by omega⟩
      by_cases h10 : (s[k]'hlt).toNat = 10
      · have e1 : (((s[k]'hlt).toNat : Int) == 10) = true := by rw [h10]; rfl
        have HQ : Hid (quo (s[k]'hlt) = [92, 110]) := by show _ = _; simp [quo, h10]
        clear hb h10
        go_wp2_with (at_builtin; refine wpList_app_str rfl (.tmp 25) _ rfl rfl HB.out hBw ⟨#[92, 110]⟩ rfl (by show _ + 2 ≤ _; omega) ?_)
        intro v2 w2 h2 k2
        have HB2 : Hid (Bt B w2 v2 (l ++ [34] ++ (s.data.toList.take (k + 1)).flatMap quo)) := by show Bt _ _ _ _; rw [HS.out, HQ.out, ← List.append_assoc, HA.out]; exact h2
        have HK2 : Hid (Gr w w2 v v2) := HK.out.trans k2
        clear h2 k2
        go_wp2_with fail
        go_roundw
        case rel => exact ⟨k + 1, by omega, by go_num, HB2, HK2⟩
        case measure => simp [intOf]; omega
      · have e1 : (((s[k]'hlt).toNat : Int) == 10) = false := by rw [beq_eq_false_iff_ne]; omega
        by_cases h34 : (s[k]'hlt).toNat = 34
        · have e2 : (((s[k]'hlt).toNat : Int) == 34) = true := by rw [h34]; rfl
          have HQ : Hid (quo (s[k]'hlt) = [92, s[k]'hlt]) := by show _ = _; simp [quo, h34]
          clear hb h10 h34
          go_wp2_with (at_builtin; refine wpList_app_row rfl (.tmp 30) (.tmp 32) rfl rfl HB.out hBw [92, s[k]'hlt] rfl (by rfl) rfl (by simp) (by simp only [List.length_cons, List.length_nil]; omega) ?_)
          intro v2 w2 h2 k2
          have HB2 : Hid (Bt B w2 v2 (l ++ [34] ++ (s.data.toList.take (k + 1)).flatMap quo)) := by show Bt _ _ _ _; rw [HS.out, HQ.out, ← List.append_assoc, HA.out]; exact h2
          have HK2 : Hid (Gr w w2 v v2) := HK.out.trans k2
          clear h2 k2
          go_wp2_with fail
          go_roundw
          case rel => exact ⟨k + 1, by omega, by go_num, HB2, HK2⟩
          case measure => simp [intOf]; omega
        · have e2 : (((s[k]'hlt).toNat : Int) == 34) = false := by rw [beq_eq_false_iff_ne]; omega
          by_cases h92 : (s[k]'hlt).toNat = 92
          · have e3 : (((s[k]'hlt).toNat : Int) == 92) = true := by rw [h92]; rfl
            have HQ : Hid (quo (s[k]'hlt) = [92, s[k]'hlt]) := by show _ = _; simp [quo, h92]
            clear hb h10 h34 h92
            go_wp2_with (at_builtin; refine wpList_app_row rfl (.tmp 30) (.tmp 32) rfl rfl HB.out hBw [92, s[k]'hlt] rfl (by rfl) rfl (by simp) (by simp only [List.length_cons, List.length_nil]; omega) ?_)
            intro v2 w2 h2 k2
            have HB2 : Hid (Bt B w2 v2 (l ++ [34] ++ (s.data.toList.take (k + 1)).flatMap quo)) := by show Bt _ _ _ _; rw [HS.out, HQ.out, ← List.append_assoc, HA.out]; exact h2
            have HK2 : Hid (Gr w w2 v v2) := HK.out.trans k2
            clear h2 k2
            go_wp2_with fail
            go_roundw
            case rel => exact ⟨k + 1, by omega, by go_num, HB2, HK2⟩
            case measure => simp [intOf]; omega
          · have e3 : (((s[k]'hlt).toNat : Int) == 92) = false := by rw [beq_eq_false_iff_ne]; omega
            have HQ : Hid (quo (s[k]'hlt) = [s[k]'hlt]) := by show _ = _; simp [quo, h10, h34, h92]
            clear hb h10 h34 h92
            go_wp2_with (at_builtin; refine wpList_app_row rfl (.tmp 19) (.tmp 21) rfl rfl HB.out hBw [s[k]'hlt] rfl (by rfl) rfl (by simp) (by simp only [List.length_cons, List.length_nil]; omega) ?_)
            intro v2 w2 h2 k2
            have HB2 : Hid (Bt B w2 v2 (l ++ [34] ++ (s.data.toList.take (k + 1)).flatMap quo)) := by show Bt _ _ _ _; rw [HS.out, HQ.out, ← List.append_assoc, HA.out]; exact h2
            have HK2 : Hid (Gr w w2 v v2) := HK.out.trans k2
            clear h2 k2
            go_wp2_with fail
            go_roundw
            case rel => exact ⟨k + 1, by omega, by go_num, HB2, HK2⟩
            case measure => simp [intOf]; omega
    · obtain rfl : k = s.size := by omega
      go_wp2_with (at_builtin; refine wpList_app_row rfl (.tmp 35) (.tmp 36) rfl rfl HB.out hBw [34] rfl rfl rfl (by decide) (by simp only [List.length_cons, List.length_nil]; omega) ?_)
      intro v2 w2 h2 k2
      have HB2 : Hid (Bt B w2 v2 (l ++ quoteT s.data.toList)) := by
        show Bt _ _ _ _
        rw [← HA.out, List.take_of_length_le (by rw [len_eq]; exact Nat.le_refl _)] at h2
        unfold quoteT
        simpa [List.append_assoc] using h2
      have HK2 : Hid (Gr w w2 v v2) := HK.out.trans k2
      clear h2 k2
      go_wp2
      go_ret
      exact ⟨v2, rfl, HB2.out, HK2.out⟩
set_option maxRecDepth 100000 in
theorem quote_any (s : ByteArray) (hl : s.size ≤ 1000000) (w : World) :
    Calls Tryz.prog 14 #[.string s] w fun e w' => e = .returned (.string ⟨(quoteT s.data.toList).toArray⟩) ∧ Below w.heap.size w w' := by
  go_enter Tryz.func14, Tryz.ntmps14
  go_wp2_with (go_at_call 26; refine (addQuote_any (Bt.nil _ w) (Nat.le_refl _) s (by simp; omega)).mono ?_; rintro e w1 ⟨v1, rfl, h1, k1⟩; refine Hid.out ?_)
  refine Lib.hid ?_
  have hc := run_text h1
  rw [List.nil_append] at hc
  have HK : Hid (Below w.heap.size w w1) := (Bt.nil _ w).bel k1 (Nat.le_refl _)
  clear h1 k1
  go_wp2
  go_ret
  exact ⟨rfl, HK.out⟩
end Go.Proofs.YtpgbfkdknggceaaGreatDoor

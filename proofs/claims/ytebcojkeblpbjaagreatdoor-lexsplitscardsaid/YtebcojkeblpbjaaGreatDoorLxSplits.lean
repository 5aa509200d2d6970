/-
  The laws' Split of layer 5; LexSplits: any text's tokens, or where it goes wrong, and why.
  Conditions: as each theorem says (the library's ErrRange as it is laid).
-/
import Derived.Test.YtebcojkeblpbjaaGreatDoorLxOne3
namespace Go.Proofs.YtebcojkeblpbjaaGreatDoor
open Go.ChangeShapes Go.WideShapes Go.ChangeAt Go.RowKit LM
set_option linter.unusedVariables false
theorem lex_skip {k r : Nat} {s : List UInt8} (h : gap false s = r + gap false (s.drop r)) : lexR k s = lexR (k + r) (s.drop r) := by
  rw [lexR_gap (s := s), lexR_gap (s := s.drop r), h, List.drop_drop]
  congr 1
  omega
theorem index_run : ∀ (l : List UInt8), Lib.indexByte l 10 = if runOf notNl l = l.length then -1 else (runOf notNl l : Int)
  | [] => rfl
  | b :: l => by
    have ih := index_run l
    have hle := runOf_le notNl l
    unfold Lib.indexByte
    by_cases hb : b.toNat = 10
    · have hb' : b = 10 := UInt8.toNat_inj.1 hb
      subst hb'
      have h0 : runOf notNl (10 :: l) = 0 := rfl
      rw [h0, if_pos (by decide), if_neg (by simp)]
      rfl
    · have hb' : (b == 10) = false := by
        rw [beq_eq_false_iff_ne]
        intro h; rw [h] at hb; exact hb rfl
      have h0 : runOf notNl (b :: l) = runOf notNl l + 1 := by simp [runOf, notNl, hb]
      rw [hb', h0, ih]
      simp only [Bool.false_eq_true, if_false, List.length_cons]
      by_cases hr : runOf notNl l = l.length
      · have h2 : runOf notNl l + 1 = l.length + 1 := by omega
        rw [if_pos hr, if_pos h2]; rfl
      · have h2 : ¬ runOf notNl l + 1 = l.length + 1 := by omega
        have h3 : ((runOf notNl l : Int) == -1) = false := by rw [beq_eq_false_iff_ne]; omega
        rw [if_neg hr, if_neg h2, h3]
        simp
set_option maxRecDepth 100000 in
set_option maxHeartbeats 2000000 in
theorem split5_any (s : ByteArray) (hs : s.size ≤ 8192) (w : World) :
    Calls Tryz.prog 11 #[.string s] w fun e w' => SplitAns w w' e (lexR 0 s.data.toList) := by
  generalize hS : s.data.toList = S
  have hSl : S.length = s.size := by rw [← hS]; exact len_eq s
  have HSS : Hid (s.data.toList = S) := hS
  clear hS
  go_enter Tryz.func11, Tryz.ntmps11
  have e1 : decide ((8192 : Int) < (s.size : Int)) = false := by simp; omega
  go_wp2_with fail
  go_loopw [5, 6] (fun v i wr => ∃ (k : Nat) (l : List Tok), k ≤ s.size ∧ i = .int .i64 k ∧ l.length ≤ k ∧ Hid (lexR 0 S = (lexR k (S.drop k)).pre l) ∧ Hid (wr.ownsRow w.heap.size 30 4 v l.length (tokRow l)) ∧ Hid (Below w.heap.size w wr))
    (fun _ i _ => s.size - (intOf i).toNat)
  case atStart => exact ⟨0, [], Nat.zero_le _, rfl, Nat.zero_le _, by show _ = _; rw [pre_nil]; rfl, World.ownsRow_nil _ _ _ _, Below.refl _ _⟩
  case round =>
    obtain ⟨k, l, hk, rfl, hlk, HX, HR, HB⟩ := hrel
    by_cases hlt : k < s.size
    · have hb := byte_at s k hlt
      rw [HSS.out] at hb
      have hdk := drop_at hb
      have HD : Hid (S.drop k = (s[k]'hlt) :: S.drop (k + 1)) := hdk
      have hidx : 0 ≤ (k : Int) ∧ (k : Int) < (s.size : Int) := ⟨by omega, by omega⟩
      have hbs := HB.out.size
      by_cases hbk : (s[k]'hlt).toNat = 32 ∨ (s[k]'hlt).toNat = 10
      · have HX2 : Hid (lexR 0 S = (lexR (k + 1) (S.drop (k + 1))).pre l) := by
          show _ = _
          rw [HX.out, lex_skip (k := k) (r := 1) (s := S.drop k) (by rw [HD.out, gap_blank _ hbk]; simp; omega), List.drop_drop]
        clear hdk hb
        by_cases h32 : (s[k]'hlt).toNat = 32
        · have n0 : (((s[k]'hlt).toNat : Int) == 32) = true := by rw [h32]; rfl
          clear h32 hbk
          go_wp2_with fail
          exact ⟨⟨k + 1, l, by omega, by go_num, by omega, HX2, HR, HB⟩, by simp [intOf]; omega⟩
        · have n0 : (((s[k]'hlt).toNat : Int) == 32) = false := by rw [beq_eq_false_iff_ne]; omega
          have n1 : (((s[k]'hlt).toNat : Int) == 10) = true := by rw [show (s[k]'hlt).toNat = 10 from by omega]; rfl
          clear h32 hbk
          go_wp2_with fail
          exact ⟨⟨k + 1, l, by omega, by go_num, by omega, HX2, HR, HB⟩, by simp [intOf]; omega⟩
      · have n0 : (((s[k]'hlt).toNat : Int) == 32) = false := by rw [beq_eq_false_iff_ne]; omega
        have n1 : (((s[k]'hlt).toNat : Int) == 10) = false := by rw [beq_eq_false_iff_ne]; omega
        by_cases h35 : (s[k]'hlt).toNat = 35
        · have n2 : (((s[k]'hlt).toNat : Int) == 35) = true := by rw [h35]; rfl
          have hr1 : 0 < runOf notNl (S.drop k) := by rw [HD.out]; simp [runOf, notNl, h35]
          have hr2 : k + runOf notNl (S.drop k) ≤ s.size := by
            have := runOf_le notNl (S.drop k)
            rw [List.length_drop] at this
            omega
          have HX2 : Hid (lexR 0 S = (lexR (k + runOf notNl (S.drop k)) (S.drop (k + runOf notNl (S.drop k)))).pre l) := by
            show _ = _
            rw [HX.out, lex_skip (k := k) (r := runOf notNl (S.drop k)) (s := S.drop k) (by
              have := gap_hash (S.drop (k + 1)) h35
              rw [← HD.out] at this
              exact this), List.drop_drop]
          have HIX : Hid (∀ w, Calls Tryz.prog 18 #[.string (s.extract k s.size), .int .u8 10] w fun e w' => e = .returned (.int .i64 (if runOf notNl (S.drop k) = s.size - k then -1 else (runOf notNl (S.drop k) : Int))) ∧ w' = w) := fun w => by
            have := Tryz.strings_IndexByte (s.extract k s.size) 10 w
            rw [ext_from, HSS.out, show ((10 : Int).toNat.toUInt8) = 10 from rfl, index_run, List.length_drop, hSl] at this
            exact this
          generalize runOf notNl (S.drop k) = r at *
          clear hdk hb h35 hbk
          by_cases hre : r = s.size - k
          · rw [if_pos hre] at HIX
            have hrs : (s.size : Int) - (k : Int) = (r : Int) := by omega
            go_wp2_with fail
            refine (HIX.out _).mono ?_
            rintro e wr ⟨rfl, rfl⟩
            go_wp2_with fail
            exact ⟨⟨k + r, l, by omega, by go_num, by omega, HX2, HR, HB⟩, by simp [intOf]; omega⟩
          · rw [if_neg hre] at HIX
            go_wp2_with fail
            refine (HIX.out _).mono ?_
            rintro e wr ⟨rfl, rfl⟩
            go_wp2_with fail
            exact ⟨⟨k + r, l, by omega, by go_num, by omega, HX2, HR, HB⟩, by simp [intOf]; omega⟩
        · have n2 : (((s[k]'hlt).toNat : Int) == 35) = false := by rw [beq_eq_false_iff_ne]; omega
          have HZ : Hid (gap false (S.drop k) = 0) := by show _ = _; rw [HD.out]; exact gap_other _ hbk h35
          have HDG : Hid ((S.drop k).drop (gap false (S.drop k)) = (s[k]'hlt) :: S.drop (k + 1)) := by show _ = _; rw [HZ.out, List.drop_zero]; exact hdk
          have HF : Hid (∀ w, Calls Tryz.prog 19 #[.string (s.extract k s.size)] w fun e w' => e = .returned (oneV (LM.one (S.drop k))) ∧ Below w.heap.size w w') := fun w => by
            have := one5_any (s.extract k s.size) (c := s[k]'hlt) (t := S.drop (k + 1)) (by rw [ext_from, HSS.out]; exact hdk) (by rw [ext_size]; omega) w
            rw [← hdk] at this
            exact this
          clear hb hdk h35 hbk
          cases ho : LM.one (S.drop k) with
          | bad r =>
            have HV : Hid (lexR 0 S = .bad k r) := by
              show _ = _
              have := lexR_bad (at_ := k) HDG.out (by rw [← HD.out]; exact ho)
              rw [HX.out, this, HZ.out]
              rfl
            rw [ho] at HF
            rw [oneV_bad] at HF
            obtain ⟨E, hE⟩ : ∃ E : Int, E = if r = true then (6 : Int) else 1 := ⟨_, rfl⟩
            have HE : Hid (E = if r = true then (6 : Int) else 1) := hE
            rw [← hE] at HF
            have her : (E == 0) = false := by rw [hE]; cases r <;> rfl
            have her2 : ¬ (E = 0) := by rw [hE]; cases r <;> decide
            clear hE
            go_wp2_with fail
            refine (HF.out _).mono ?_
            rintro e w2 ⟨rfl, b2⟩
            have HB2 : Hid (Below w.heap.size w w2) := HB.out.trans (b2.mono hbs)
            clear b2
            go_wp2
            refine bodyPost_ret (v := .tuple #[.slice none 0 0, .int .i64 (k : Int), .int .i64 E]) (by simp [results, Tryz.results11, go_sem]) rfl ?_
            rw [HV.out]
            exact ⟨.slice none 0 0, HB2.out.alloc HB2.out.size _, by simp only [HE.out]⟩
          | ok kd x v n =>
            have hop := one_pos ho
            have hnl : k + n ≤ s.size := by rw [List.length_drop, hSl] at hop; omega
            have HV : Hid (lexR 0 S = (lexR (k + n) (S.drop (k + n))).pre (l ++ [(⟨kd, x, v, k⟩ : Tok)])) := by
              show _ = _
              have h1 := lexR_ok (at_ := k) HDG.out (by rw [← HD.out]; exact ho)
              rw [HZ.out, Nat.add_zero, ← HD.out, List.drop_drop] at h1
              rw [HX.out, h1, pre_toks]
            have hn0 : 0 < n := hop.1
            rw [ho, oneV_ok] at HF
            obtain ⟨ti, hti, hz0, hz1, hz2⟩ := info_parts infoTok
            clear hop HX HZ HD HDG ho
            go_wp2_with fail
            refine (HF.out _).mono ?_
            rintro e w2 ⟨rfl, b2⟩
            have HB2 : Hid (Below w.heap.size w w2) := HB.out.trans (b2.mono hbs)
            have HR2 : Hid (w2.ownsRow w.heap.size 30 4 _ l.length (tokRow l)) := row_keeps HR.out b2
            have hs2 : w.heap.size ≤ w2.heap.size := HB2.out.size
            clear b2
            go_wp2_with (at_builtin; refine wpList_append_own _ rfl (.tmp 61) (.tmp 63) 23 rfl w.heap.size 30 ti _ 4 40 Tryz.underlying23 hti hz0 hz1 hz2 rfl (by decide) _ l.length _ rfl ((HR2.out.alloc _).alloc _) ⟨w2.heap.size + 1, 0, none⟩ 1 1 (tokL ⟨kd, x, v, k⟩) rfl rfl (by have h9 := @four_news (w2.alloc (.cells #[.int .i64 (kd : Int), .string ⟨x.toArray⟩, .int .i64 v, .int .i64 (k : Int)] 30)) (.int .i64 (kd : Int)) (.string ⟨x.toArray⟩) (.int .i64 v) (.int .i64 (k : Int)) 30; simpa [tokL] using h9) (by intro u hu; simp [tokL] at hu; rcases hu with rfl | rfl | rfl | rfl <;> rfl) (by unfold maxLen; omega) (by omega) (by simp; omega) ?_)
            intro v7 w7 hown7 hgr7 _
            have HR7 : Hid (w7.ownsRow w.heap.size 30 4 v7 (l ++ [(⟨kd, x, v, k⟩ : Tok)]).length (tokRow (l ++ [(⟨kd, x, v, k⟩ : Tok)]))) := by
              show World.ownsRow _ _ _ _ _ _ _
              rw [tokRow_one] at hown7
              simpa using hown7
            have HB7 : Hid (Below w.heap.size w w7) := ((HB2.out.alloc hs2 _).alloc (by simp; omega) _).grown hgr7 (by simp; omega) (fun j e => (HR2.out.lt j e).1)
            clear hown7 hgr7 HR HB HR2 HB2 HF
            go_wp2_with fail
            go_roundw
            case rel => exact ⟨k + n, l ++ [(⟨kd, x, v, k⟩ : Tok)], hnl, by go_num, by simp; omega, HV, HR7, HB7⟩
            case measure => simp [intOf]; omega
    · obtain rfl : k = s.size := by omega
      have HV : Hid (lexR 0 S = .toks (l ++ [(⟨0, [], 0, s.size⟩ : Tok)])) := by
        show _ = _
        have hnil : S.drop s.size = [] := List.drop_eq_nil_of_le (by omega)
        rw [HX.out, hnil, lexR_end (s := []) (by simp)]
        simp [Res.pre, gap]
      obtain ⟨ti, hti, hz0, hz1, hz2⟩ := info_parts infoTok
      have hbs := HB.out.size
      clear HX
      go_wp2_with (at_builtin; refine wpList_append_own _ rfl (.tmp 68) (.tmp 71) 23 rfl w.heap.size 30 ti _ 4 40 Tryz.underlying23 hti hz0 hz1 hz2 rfl (by decide) _ l.length _ rfl (HR.out.alloc _) ⟨wr.heap.size, 0, none⟩ 1 1 (tokL ⟨0, [], 0, s.size⟩) rfl rfl four_news (by intro u hu; simp [tokL] at hu; rcases hu with rfl | rfl | rfl | rfl <;> rfl) (by unfold maxLen; omega) (by omega) (by simp; omega) ?_)
      intro v7 w7 hown7 hgr7 _
      have HR7 : Hid (w7.ownsRow w.heap.size 30 4 v7 (l ++ [(⟨0, [], 0, s.size⟩ : Tok)]).length (tokRow (l ++ [(⟨0, [], 0, s.size⟩ : Tok)]))) := by
        show World.ownsRow _ _ _ _ _ _ _
        rw [tokRow_one] at hown7
        simpa using hown7
      have HB7 : Hid (Below w.heap.size w w7) := (HB.out.alloc hbs _).grown hgr7 (by simp; omega) (fun j e => (HR.out.lt j e).1)
      clear hown7 hgr7 HR HB
      go_wp2
      refine bodyPost_ret (v := .tuple #[v7, .int .i64 0, .int .i64 0]) (by simp [results, Tryz.results11, go_sem]) rfl ?_
      rw [HV.out]
      exact ⟨v7, HB7.out, rfl, HR7.out⟩
theorem split5_v (s : ByteArray) (hs : s.size ≤ 8192) (w : World) : Calls Tryz.prog 11 #[.string s] w fun e w' => ∃ ao n cap at_ er, e = .returned (.tuple #[.slice ao n cap, .int .i64 at_, .int .i64 er]) ∧ SpV w w' ao n cap at_ er (lexR 0 s.data.toList) ∧ Below w.heap.size w w' := by
  refine (split5_any s hs w).mono ?_
  rintro e w' ⟨v, hb, h⟩
  cases hR : lexR 0 s.data.toList with
  | bad a r =>
    rw [hR] at h
    simp only at h
    subst h
    exact ⟨_, _, _, _, _, rfl, .bad a r, hb⟩
  | toks l =>
    rw [hR] at h
    obtain ⟨rfl, hrow⟩ := h
    obtain ⟨t0, m0, rfl, _⟩ := lexR_ne hR
    obtain ⟨g, cap, rfl, h1, h2, h3, h4⟩ := row_toks hrow (by simp)
    exact ⟨_, _, _, _, _, rfl, .toks _ g cap (by simp) h1 h2 h4, hb⟩
set_option maxRecDepth 100000 in
set_option maxHeartbeats 2000000 in
theorem splits5_any (s : ByteArray) (w : World) (hL : Lv w) : Calls Tryz.prog 3 #[.string s] w fun e w' => e = .returned (.bool true) ∧ Below w.heap.size w w' := by
  have HL : Hid (Lv w) := hL
  clear hL
  go_enter Tryz.func3, Tryz.ntmps3
  go_wp2_with fail
  refine (awake5 _ HL.out).mono ?_
  rintro e w1 ⟨rfl, b1⟩
  have HB1 : Hid (Below w.heap.size w w1) := b1
  have HL1 : Hid (Lv w1) := HL.out.below b1
  clear b1 HL
  by_cases hs : 2000 < s.size
  · have e1 : decide ((2000 : Int) < (s.size : Int)) = true := by simp; omega
    go_wp2
    go_ret
    exact ⟨rfl, HB1.out⟩
  have e1 : decide ((2000 : Int) < (s.size : Int)) = false := by simp; omega
  go_wp2_with fail
  refine (split_v s (by omega) _ HL1.out).mono ?_
  rintro e w2 ⟨ao1, n1, cap1, at1, er1, rfl, h1, b2⟩
  have HB2 : Hid (Below w.heap.size w w2) := HB1.out.trans (b2.mono HB1.out.size)
  clear b2 HL1 HB1
  go_wp2_with fail
  refine (split5_v s (by omega) _).mono ?_
  rintro e w3 ⟨ao2, n2, cap2, at2, er2, rfl, h2, b3⟩
  have HB3 : Hid (Below w.heap.size w w3) := HB2.out.trans (b3.mono HB2.out.size)
  replace h1 := h1.later b3
  clear b3 HB2
  cases r1 : lexR 0 s.data.toList with
  | bad x r =>
    rw [r1] at h1 h2
    generalize hR : Res.bad x r = R at h1 h2
    cases h1 with
    | toks l g cap hl hc hm ht => cases hR
    | bad a r' =>
      cases h2
      clear hR r1
      obtain ⟨E, hE⟩ : ∃ E : Int, E = if r' = true then (6 : Int) else 1 := ⟨_, rfl⟩
      rw [← hE]
      clear hE
      go_wp2_with fail
      refine (equal_none _).mono ?_
      rintro e w4 ⟨rfl, b4⟩
      have HB4 : Hid (Below w.heap.size w w4) := HB3.out.trans (b4.mono HB3.out.size)
      clear b4
      go_wp2
      go_ret
      exact ⟨rfl, HB4.out⟩
  | toks l =>
    obtain ⟨g1, rfl, rfl, rfl, rfl, l1, c1, m1, t1⟩ := h1.inv_toks r1
    obtain ⟨g2, rfl, rfl, rfl, rfl, l2, c2, m2, t2⟩ := h2.inv_toks r1
    have hct := lexR_count r1
    rw [len_eq] at hct
    have HEQ : Hid (Calls Tryz.prog 12 #[.slice (some ⟨g1, 0, none⟩) l.length cap1, .slice (some ⟨g2, 0, none⟩) l.length cap2] w3 fun e w' => e = .returned (.bool true) ∧ Below w3.heap.size w3 w') := equal_toks t1 t2 c1 c2 m1 m2 (by omega)
    clear h1 h2 r1 t1 t2
    go_wp2_with fail
    refine HEQ.out.mono ?_
    rintro e w4 ⟨rfl, b4⟩
    have HB4 : Hid (Below w.heap.size w w4) := HB3.out.trans (b4.mono HB3.out.size)
    clear b4
    go_wp2
    go_ret
    exact ⟨rfl, HB4.out⟩
end Go.Proofs.YtebcojkeblpbjaaGreatDoor

/-
  The laws' one of layer 5 at texts and signs, and at every text: a text's first token.
  Conditions: as each theorem says.
-/
import Derived.Test.YtebcojkeblpbjaaGreatDoorLxOne2
namespace Go.Proofs.YtebcojkeblpbjaaGreatDoor
open Go.ChangeShapes Go.WideShapes Go.ChangeAt Go.RowKit LM
set_option linter.unusedVariables false
theorem mk_toList (x : ByteArray) : (⟨x.data.toList.toArray⟩ : ByteArray) = x := by cases x; rfl
theorem cut0 : (⟨#[34, 92, 10]⟩ : ByteArray).extract 0 1 = ⟨#[34]⟩ := rfl
theorem cut1 : (⟨#[34, 92, 10]⟩ : ByteArray).extract 1 2 = ⟨#[92]⟩ := rfl
theorem cut2 : (⟨#[34, 92, 10]⟩ : ByteArray).extract 2 3 = ⟨#[10]⟩ := rfl
theorem three_size : (⟨#[34, 92, 10]⟩ : ByteArray).size = 3 := rfl
/-- Which of the three it is. -/
def ix3 (d : UInt8) : Int := if d.toNat = 34 then 0 else if d.toNat = 92 then 1 else if d.toNat = 110 then 2 else -1
theorem ix3_eq (d : UInt8) : Lib.indexByte [34, 92, 110] d = ix3 d := by
  have h : ∀ n : Fin 256, Lib.indexByte [34, 92, 110] (UInt8.ofNat n.val) = ix3 (UInt8.ofNat n.val) := by decide +kernel
  have := h ⟨d.toNat, d.toNat_lt⟩
  rw [UInt8.ofNat_toNat] at this
  exact this
theorem ix3_call (d : UInt8) (w : World) : Calls Tryz.prog 18 #[.string ⟨#[34, 92, 110]⟩, .int .u8 (d.toNat : Int)] w fun e w' => e = .returned (.int .i64 (ix3 d)) ∧ w' = w := by
  have := Tryz.strings_IndexByte ⟨#[34, 92, 110]⟩ (d.toNat : Int) w
  rw [show ((d.toNat : Int).toNat.toUInt8) = d from by rw [Int.toNat_natCast]; exact UInt8.ofNat_toNat, show (⟨#[34, 92, 110]⟩ : ByteArray).data.toList = [34, 92, 110] from rfl, ix3_eq] at this
  exact this
theorem ext_one (s : ByteArray) (k : Nat) (h : k < s.size) : (s.extract k (k + 1)).data.toList = [s[k]'h] := by
  have hm : (s.extract k (k + 1)).data.toList = (s.data.toList.drop k).take (k + 1 - k) := by cases s with | mk d => simp
  rw [hm, drop_at (byte_at s k h), show k + 1 - k = 1 from by omega]
  rfl
theorem among_none (s : ByteArray) {c : UInt8} {t : List UInt8} (hS : s.data.toList = c :: t) (hs : s.size ≤ 100000) (T : Array UInt8) {p : UInt8 → Bool} (hp : ∀ c, T.toList.contains c = p c) (hc : p c = false) (w : World) :
    Calls Tryz.prog 41 #[.string s, .string ⟨T⟩] w fun e w' => e = .returned (.int .i64 0) ∧ w' = w := by
  have := among_any T hp s hs w
  rw [hS, show runOf p (c :: t) = 0 from by simp [runOf, hc]] at this
  exact this
set_option maxRecDepth 100000 in
set_option maxHeartbeats 2000000 in
theorem one5_txt (s : ByteArray) {c : UInt8} {t : List UInt8} (hS : s.data.toList = c :: t) (hd : isDig c = false) (hw : isWrd c = false) (hq : c.toNat = 34) (hs : s.size ≤ 100000) (w : World) :
    Calls Tryz.prog 19 #[.string s] w fun e w' => e = .returned (textV (c :: t)) ∧ Below w.heap.size w w' := by
  obtain ⟨hl0, e0⟩ := toList_head s hS
  have HAM : Hid (∀ w, Calls Tryz.prog 41 #[.string s, .string ⟨#[48, 49, 50, 51, 52, 53, 54, 55, 56, 57]⟩] w fun e w' => e = .returned (.int .i64 0) ∧ w' = w) := fun w => among_none s hS hs _ has_dig hd w
  have HAW : Hid (∀ w, Calls Tryz.prog 41 #[.string s, .string ⟨wordSigns.toArray⟩] w fun e w' => e = .returned (.int .i64 0) ∧ w' = w) := fun w => among_none s hS hs wordSigns.toArray (by simpa using has_wrd) hw w
  have HSS : Hid (s.data.toList = c :: t) := hS
  have hSl : (c :: t).length = s.size := by rw [← hS, len_eq]
  have hq1 : ((c.toNat : Int) == 34) = true := by rw [hq]; rfl
  generalize hSS : c :: t = S at *
  have hb1 : Below w.heap.size w (w.alloc (.cells #[.int .i64 0, .string { data := #[] }, .int .i64 0, .int .i64 0] 30)) := (Below.refl _ w).alloc (Nat.le_refl _) _
  have hk1 : (w.alloc (.cells #[.int .i64 0, .string { data := #[] }, .int .i64 0, .int .i64 0] 30)).heap[w.heap.size]? = some (.cells #[.int .i64 0, .string { data := #[] }, .int .i64 0, .int .i64 0] 30 (0, 0)) := heap_alloc_new w _
  clear hS hSS hq
  unfold wordSigns at HAW
  go_enter Tryz.func19, Tryz.ntmps19
  go_wp2_with fail
  refine (HAM.out _).mono ?_
  rintro e w1 ⟨rfl, hw1⟩
  rw [← hw1] at hb1 hk1
  have HB1 : Hid (Below w.heap.size w w1) := hb1
  have HK1 : Hid (w1.heap[w.heap.size]? = some (.cells #[.int .i64 0, .string { data := #[] }, .int .i64 0, .int .i64 0] 30 (0, 0))) := hk1
  obtain ⟨z0, z1, z2, z3, zf⟩ := four hk1
  have hbl : w.heap.size < w1.heap.size := lt_of_block hk1
  clear hw1 hb1 hk1 HAM
  go_wp2_with fail
  refine (HAW.out _).mono ?_
  rintro e w1 ⟨rfl, rfl⟩
  go_wp2_with fail
  go_loopw [10, 9] (fun i v wr => ∃ (k : Nat) (x : ByteArray), 1 ≤ k ∧ k ≤ s.size ∧ i = .int .i64 k ∧ v = .string x ∧ x.size ≤ k ∧ Hid (txt (S.drop 1) = (txt (S.drop k)).map fun p => (x.data.toList ++ p.1, p.2 + (k - 1))) ∧ wr = w1)
    (fun i _ _ => s.size - (intOf i).toNat)
  case atStart => exact ⟨1, ⟨#[]⟩, Nat.le_refl _, hl0, rfl, rfl, by decide, by show _ = _; simp, rfl⟩
  case round =>
    obtain ⟨k, x, hk1, hk, rfl, rfl, hxs, HT, rfl⟩ := hrel
    clear HAW
    by_cases hlt : k < s.size
    · have hb := byte_at s k hlt
      rw [HSS.out] at hb
      have HD : Hid (S.drop k = (s[k]'hlt) :: S.drop (k + 1)) := drop_at hb
      have hidx : 0 ≤ (k : Int) ∧ (k : Int) < (s.size : Int) := ⟨by omega, by omega⟩
      have hc256 : (s[k]'hlt).toNat < 256 := (s[k]'hlt).toNat_lt
      clear hb
      by_cases h34 : (s[k]'hlt).toNat = 34
      · have n0 : (((s[k]'hlt).toNat : Int) == 34) = true := by rw [h34]; rfl
        have HV : Hid (textV S = ansV 3 x.data.toList 0 (k + 1) 0) := by
          show _ = _
          unfold textV
          rw [HT.out, HD.out, txt_q _ h34]
          simp only [Option.map_some, List.append_nil, show 1 + (k - 1) + 1 = k + 1 from by omega]
          rfl
        clear h34
        go_wp2
        obtain ⟨d0, d1, d2, d3, _⟩ := four (four_set HK1.out (.int .i64 3) (.string x) (.int .i64 0) (.int .i64 0))
        exact bodyPost_ret (v := .tuple #[.agg #[.int .i64 3, .string x, .int .i64 0, .int .i64 0], .int .i64 ((k : Int) + 1), .int .i64 0]) (by simp [results, Tryz.results19, go_sem, d0, d1, d2, d3]) rfl ⟨by rw [HV.out, ansV_eq, mk_toList]; rfl, (((HB1.out.setCell (p := ⟨w.heap.size, 0, none⟩) (Nat.le_refl _) _).setCell (p := ⟨w.heap.size, 1, none⟩) (Nat.le_refl _) _).setCell (p := ⟨w.heap.size, 2, none⟩) (Nat.le_refl _) _).setCell (p := ⟨w.heap.size, 3, none⟩) (Nat.le_refl _) _⟩
      · have n0 : (((s[k]'hlt).toNat : Int) == 34) = false := by rw [beq_eq_false_iff_ne]; omega
        by_cases h92 : (s[k]'hlt).toNat = 92
        · have n1 : (((s[k]'hlt).toNat : Int) == 92) = true := by rw [h92]; rfl
          by_cases hend : k + 1 = s.size
          · have HV : Hid (textV S = ansV 0 [] 0 0 1) := by
              show _ = _
              unfold textV
              rw [HT.out, HD.out, List.drop_eq_nil_of_le (by omega), txt_b0 h92]
              rfl
            have n2 : ((k : Int) + 1 == (s.size : Int)) = true := by simp; omega
            clear h92 h34
            go_wp2
            obtain ⟨d0, d1, d2, d3, _⟩ := four (four_set HK1.out (.int .i64 0) (.string { data := #[] }) (.int .i64 0) (.int .i64 0))
            exact bodyPost_ret (v := ansV 0 [] 0 0 1) (by simp [results, Tryz.results19, go_sem, ansV, tokV, d0, d1, d2, d3]) rfl ⟨by rw [HV.out], (((HB1.out.setCell (p := ⟨w.heap.size, 0, none⟩) (Nat.le_refl _) _).setCell (p := ⟨w.heap.size, 1, none⟩) (Nat.le_refl _) _).setCell (p := ⟨w.heap.size, 2, none⟩) (Nat.le_refl _) _).setCell (p := ⟨w.heap.size, 3, none⟩) (Nat.le_refl _) _⟩
          · have hlt2 : k + 1 < s.size := by omega
            have n2 : ((k : Int) + 1 == (s.size : Int)) = false := by rw [beq_eq_false_iff_ne]; omega
            have hb2 := byte_at s (k + 1) hlt2
            rw [HSS.out] at hb2
            have HD2 : Hid (S.drop (k + 1) = (s[k + 1]'hlt2) :: S.drop (k + 2)) := drop_at hb2
            have hidx2 : 0 ≤ (k : Int) + 1 ∧ (k : Int) + 1 < (s.size : Int) := ⟨by omega, by omega⟩
            have HIX : Hid (∀ w, Calls Tryz.prog 18 #[.string ⟨#[34, 92, 110]⟩, .int .u8 ((s[k + 1]'hlt2).toNat : Int)] w fun e w' => e = .returned (.int .i64 (ix3 (s[k + 1]'hlt2))) ∧ w' = w) := ix3_call _
            have HTB : Hid (txt (S.drop k) = if (s[k + 1]'hlt2).toNat = 34 ∨ (s[k + 1]'hlt2).toNat = 92 then (txt (S.drop (k + 2))).map fun p => ((s[k + 1]'hlt2) :: p.1, p.2 + 2) else if (s[k + 1]'hlt2).toNat = 110 then (txt (S.drop (k + 2))).map fun p => (10 :: p.1, p.2 + 2) else none) := by
              show _ = _
              rw [HD.out, HD2.out, txt_b _ _ h92]
            clear hb2 h92 h34
            obtain ⟨D, hD⟩ : ∃ D : UInt8, D = s[k + 1]'hlt2 := ⟨_, rfl⟩
            have hsk : s[k + 1]'hlt2 = D := hD.symm
            rw [hsk] at HIX HTB
            clear hD
            have key : ∀ (B : UInt8), (txt (S.drop k) = (txt (S.drop (k + 2))).map fun p => (B :: p.1, p.2 + 2)) → txt (S.drop 1) = (txt (S.drop (k + 2))).map fun p => ((x ++ ⟨#[B]⟩).data.toList ++ p.1, p.2 + (k + 2 - 1)) := fun B hB => by
              rw [HT.out, hB, Option.map_map, app_toList]
              congr 1
              funext p
              simp
              omega
            have HKEY : Hid (∀ (B : UInt8), (txt (S.drop k) = (txt (S.drop (k + 2))).map fun p => (B :: p.1, p.2 + 2)) → txt (S.drop 1) = (txt (S.drop (k + 2))).map fun p => ((x ++ ⟨#[B]⟩).data.toList ++ p.1, p.2 + (k + 2 - 1))) := key
            have happ : ∀ B : UInt8, (x ++ ⟨#[B]⟩).size = x.size + 1 := fun B => app_size _ _
            have HAPP : Hid (∀ B : UInt8, (x ++ ⟨#[B]⟩).size = x.size + 1) := happ
            have ht3 := three_size
            clear key happ
            by_cases d34 : D.toNat = 34
            · have hDe : D = 34 := UInt8.toNat_inj.1 d34
              have hix : ix3 D = 0 := by rw [hDe]; rfl
              rw [hix] at HIX
              have HT3 : Hid (txt (S.drop 1) = (txt (S.drop (k + 2))).map fun p => ((x ++ ⟨#[34]⟩).data.toList ++ p.1, p.2 + (k + 2 - 1))) := HKEY.out 34 (by rw [HTB.out, if_pos (.inl d34), hDe])
              have hcut := cut0
              clear hDe hix HTB d34
              go_wp2_with fail
              refine (HIX.out _).mono ?_
              rintro e wr ⟨rfl, rfl⟩
              go_wp2_with fail
              exact ⟨⟨k + 2, _, by omega, by omega, by go_num, rfl, by rw [HAPP.out]; omega, HT3, trivial⟩, by simp [intOf]; omega⟩
            · by_cases d92 : D.toNat = 92
              · have hDe : D = 92 := UInt8.toNat_inj.1 d92
                have hix : ix3 D = 1 := by rw [hDe]; rfl
                rw [hix] at HIX
                have HT3 : Hid (txt (S.drop 1) = (txt (S.drop (k + 2))).map fun p => ((x ++ ⟨#[92]⟩).data.toList ++ p.1, p.2 + (k + 2 - 1))) := HKEY.out 92 (by rw [HTB.out, if_pos (.inr d92), hDe])
                have hcut := cut1
                clear hDe hix HTB d92
                go_wp2_with fail
                refine (HIX.out _).mono ?_
                rintro e wr ⟨rfl, rfl⟩
                go_wp2_with fail
                exact ⟨⟨k + 2, _, by omega, by omega, by go_num, rfl, by rw [HAPP.out]; omega, HT3, trivial⟩, by simp [intOf]; omega⟩
              · by_cases d110 : D.toNat = 110
                · have hDe : D = 110 := UInt8.toNat_inj.1 d110
                  have hix : ix3 D = 2 := by rw [hDe]; rfl
                  rw [hix] at HIX
                  have HT3 : Hid (txt (S.drop 1) = (txt (S.drop (k + 2))).map fun p => ((x ++ ⟨#[10]⟩).data.toList ++ p.1, p.2 + (k + 2 - 1))) := HKEY.out 10 (by rw [HTB.out, if_neg (by omega), if_pos d110])
                  have hcut := cut2
                  clear hDe hix HTB d110
                  go_wp2_with fail
                  refine (HIX.out _).mono ?_
                  rintro e wr ⟨rfl, rfl⟩
                  go_wp2_with fail
                  exact ⟨⟨k + 2, _, by omega, by omega, by go_num, rfl, by rw [HAPP.out]; omega, HT3, trivial⟩, by simp [intOf]; omega⟩
                · have hix : ix3 D = -1 := by unfold ix3; rw [if_neg d34, if_neg d92, if_neg d110]
                  rw [hix] at HIX
                  have HV : Hid (textV S = ansV 0 [] 0 0 1) := by
                    show _ = _
                    unfold textV
                    rw [HT.out, HTB.out, if_neg (by omega), if_neg d110]
                    rfl
                  clear HTB hix HKEY HAPP
                  go_wp2_with fail
                  refine (HIX.out _).mono ?_
                  rintro e wr ⟨rfl, rfl⟩
                  go_wp2
                  obtain ⟨d0, d1, d2, d3, _⟩ := four (four_set HK1.out (.int .i64 0) (.string { data := #[] }) (.int .i64 0) (.int .i64 0))
                  exact bodyPost_ret (v := ansV 0 [] 0 0 1) (by simp [results, Tryz.results19, go_sem, ansV, tokV, d0, d1, d2, d3]) rfl ⟨by rw [HV.out], (((HB1.out.setCell (p := ⟨w.heap.size, 0, none⟩) (Nat.le_refl _) _).setCell (p := ⟨w.heap.size, 1, none⟩) (Nat.le_refl _) _).setCell (p := ⟨w.heap.size, 2, none⟩) (Nat.le_refl _) _).setCell (p := ⟨w.heap.size, 3, none⟩) (Nat.le_refl _) _⟩
        · have n1 : (((s[k]'hlt).toNat : Int) == 92) = false := by rw [beq_eq_false_iff_ne]; omega
          have HTO : Hid (txt (S.drop k) = if (s[k]'hlt).toNat < 32 ∨ 126 < (s[k]'hlt).toNat then none else (txt (S.drop (k + 1))).map fun p => ((s[k]'hlt) :: p.1, p.2 + 1)) := by show _ = _; rw [HD.out, txt_o _ h34 h92]
          by_cases hlow : (s[k]'hlt).toNat < 32
          · have n2 : decide (((s[k]'hlt).toNat : Int) < 32) = true := by simp; omega
            have HV : Hid (textV S = ansV 0 [] 0 0 1) := by
              show _ = _
              unfold textV
              rw [HT.out, HTO.out, if_pos (.inl hlow)]
              rfl
            go_wp2
            obtain ⟨d0, d1, d2, d3, _⟩ := four (four_set HK1.out (.int .i64 0) (.string { data := #[] }) (.int .i64 0) (.int .i64 0))
            exact bodyPost_ret (v := ansV 0 [] 0 0 1) (by simp [results, Tryz.results19, go_sem, ansV, tokV, d0, d1, d2, d3]) rfl ⟨by rw [HV.out], (((HB1.out.setCell (p := ⟨w.heap.size, 0, none⟩) (Nat.le_refl _) _).setCell (p := ⟨w.heap.size, 1, none⟩) (Nat.le_refl _) _).setCell (p := ⟨w.heap.size, 2, none⟩) (Nat.le_refl _) _).setCell (p := ⟨w.heap.size, 3, none⟩) (Nat.le_refl _) _⟩
          · have n2 : decide (((s[k]'hlt).toNat : Int) < 32) = false := by simp; omega
            by_cases hhi : 126 < (s[k]'hlt).toNat
            · have n3 : decide ((126 : Int) < ((s[k]'hlt).toNat : Int)) = true := by simp; omega
              have HV : Hid (textV S = ansV 0 [] 0 0 1) := by
                show _ = _
                unfold textV
                rw [HT.out, HTO.out, if_pos (.inr hhi)]
                rfl
              go_wp2
              obtain ⟨d0, d1, d2, d3, _⟩ := four (four_set HK1.out (.int .i64 0) (.string { data := #[] }) (.int .i64 0) (.int .i64 0))
              exact bodyPost_ret (v := ansV 0 [] 0 0 1) (by simp [results, Tryz.results19, go_sem, ansV, tokV, d0, d1, d2, d3]) rfl ⟨by rw [HV.out], (((HB1.out.setCell (p := ⟨w.heap.size, 0, none⟩) (Nat.le_refl _) _).setCell (p := ⟨w.heap.size, 1, none⟩) (Nat.le_refl _) _).setCell (p := ⟨w.heap.size, 2, none⟩) (Nat.le_refl _) _).setCell (p := ⟨w.heap.size, 3, none⟩) (Nat.le_refl _) _⟩
            · have n3 : decide ((126 : Int) < ((s[k]'hlt).toNat : Int)) = false := by simp; omega
              have HT3 : Hid (txt (S.drop 1) = (txt (S.drop (k + 1))).map fun p => ((x ++ s.extract k (k + 1)).data.toList ++ p.1, p.2 + (k + 1 - 1))) := by
                show _ = _
                rw [HT.out, HTO.out, if_neg (by omega), Option.map_map, app_toList, ext_one s k hlt]
                congr 1
                funext p
                simp
                omega
              have hes : (s.extract k (k + 1)).size = 1 := by rw [← len_eq, ext_one s k hlt]; rfl
              have HSZ : Hid ((x ++ s.extract k (k + 1)).size ≤ k + 1) := by show _ ≤ _; rw [app_size, hes]; omega
              have hpb : 0 ≤ (k : Int) ∧ (k : Int) ≤ (k : Int) + 1 ∧ (k : Int) + 1 ≤ (s.size : Int) := ⟨by omega, by omega, by omega⟩
              go_wp2_with fail
              exact ⟨⟨k + 1, _, by omega, by omega, by go_num, rfl, HSZ.out, HT3, trivial⟩, by simp [intOf]; omega⟩
    · obtain rfl : k = s.size := by omega
      have HV : Hid (textV S = ansV 0 [] 0 0 1) := by
        show _ = _
        unfold textV
        rw [HT.out, List.drop_eq_nil_of_le (by omega : S.length ≤ s.size)]
        rfl
      go_wp2
      obtain ⟨d0, d1, d2, d3, _⟩ := four (four_set HK1.out (.int .i64 0) (.string { data := #[] }) (.int .i64 0) (.int .i64 0))
      exact bodyPost_ret (v := ansV 0 [] 0 0 1) (by simp [results, Tryz.results19, go_sem, ansV, tokV, d0, d1, d2, d3]) rfl ⟨by rw [HV.out], (((HB1.out.setCell (p := ⟨w.heap.size, 0, none⟩) (Nat.le_refl _) _).setCell (p := ⟨w.heap.size, 1, none⟩) (Nat.le_refl _) _).setCell (p := ⟨w.heap.size, 2, none⟩) (Nat.le_refl _) _).setCell (p := ⟨w.heap.size, 3, none⟩) (Nat.le_refl _) _⟩
def wordVals : Array Value := (sgnWords.map fun x => Value.string ⟨x.toArray⟩).toArray
theorem wordVals_get (k : Nat) (x : List UInt8) (h : sgnWords[k]? = some x) : wordVals[k]? = some (.string ⟨x.toArray⟩) := by simp [wordVals, h]
theorem find_hit {S : List UInt8} {k : Nat} {x : List UInt8} (h : sgnWords[k]? = some x) (hn : ∀ j, j < k → ∀ y, sgnWords[j]? = some y → Lib.hasPrefix S y = false) (hx : Lib.hasPrefix S x = true) : sgnWords.find? (fun w => Lib.hasPrefix S w) = some x := by
  obtain ⟨hk, hkx⟩ := List.getElem?_eq_some_iff.1 h
  rw [List.find?_eq_some_iff_getElem]
  refine ⟨hx, k, hk, hkx, fun j hj => ?_⟩
  have := hn j hj _ (List.getElem?_eq_getElem (by omega))
  simpa using this
theorem find_miss {S : List UInt8} (hn : ∀ j, j < 18 → ∀ y, sgnWords[j]? = some y → Lib.hasPrefix S y = false) : sgnWords.find? (fun w => Lib.hasPrefix S w) = none := by
  rw [List.find?_eq_none]
  intro y hy
  obtain ⟨j, hj⟩ := List.mem_iff_getElem?.1 hy
  have hjl : j < 18 := by obtain ⟨hh, _⟩ := List.getElem?_eq_some_iff.1 hj; exact hh
  simp [hn j hjl y hj]
set_option maxRecDepth 100000 in
set_option maxHeartbeats 2000000 in
theorem one5_sgn (s : ByteArray) {c : UInt8} {t : List UInt8} (hS : s.data.toList = c :: t) (hd : isDig c = false) (hw : isWrd c = false) (hq : c.toNat ≠ 34) (hs : s.size ≤ 100000) (w : World) :
    Calls Tryz.prog 19 #[.string s] w fun e w' => e = .returned (signV (c :: t)) ∧ Below w.heap.size w w' := by
  obtain ⟨hl0, e0⟩ := toList_head s hS
  have HAM : Hid (∀ w, Calls Tryz.prog 41 #[.string s, .string ⟨#[48, 49, 50, 51, 52, 53, 54, 55, 56, 57]⟩] w fun e w' => e = .returned (.int .i64 0) ∧ w' = w) := fun w => among_none s hS hs _ has_dig hd w
  have HAW : Hid (∀ w, Calls Tryz.prog 41 #[.string s, .string ⟨wordSigns.toArray⟩] w fun e w' => e = .returned (.int .i64 0) ∧ w' = w) := fun w => among_none s hS hs wordSigns.toArray (by simpa using has_wrd) hw w
  have HSF := sgn_find c t
  have HHP : Hid (∀ (x : List UInt8) (w : World), Calls Tryz.prog 21 #[.string s, .string ⟨x.toArray⟩] w fun e w' => e = .returned (.bool (Lib.hasPrefix (c :: t) x)) ∧ w' = w) := fun x w => by
    have := Tryz.strings_HasPrefix s ⟨x.toArray⟩ w
    rw [hS] at this
    exact this
  have hq1 : ((c.toNat : Int) == 34) = false := by rw [beq_eq_false_iff_ne]; omega
  generalize hSS : c :: t = S at *
  generalize signV S = V at HSF ⊢
  have HSF2 : Hid (V = match sgnWords.find? (fun w => Lib.hasPrefix S w) with | some x => ansV 4 x 0 x.length 0 | none => ansV 0 [] 0 0 1) := HSF
  have hb1 : Below w.heap.size w ((w.alloc (.cells #[.int .i64 0, .string { data := #[] }, .int .i64 0, .int .i64 0] 30)).alloc (.cells wordVals 9)) := ((Below.refl _ w).alloc (Nat.le_refl _) _).alloc (by simp) _
  have hk1 : ((w.alloc (.cells #[.int .i64 0, .string { data := #[] }, .int .i64 0, .int .i64 0] 30)).alloc (.cells wordVals 9)).heap[w.heap.size]? = some (.cells #[.int .i64 0, .string { data := #[] }, .int .i64 0, .int .i64 0] 30 (0, 0)) := block_alloc (heap_alloc_new w _) _
  have hv1 : ((w.alloc (.cells #[.int .i64 0, .string { data := #[] }, .int .i64 0, .int .i64 0] 30)).alloc (.cells wordVals 9)).heap[w.heap.size + 1]? = some (.cells wordVals 9 (0, 0)) := by
    have := heap_alloc_new (w.alloc (.cells #[.int .i64 0, .string { data := #[] }, .int .i64 0, .int .i64 0] 30)) (.cells wordVals 9)
    simpa using this
  have hwv : ((w.alloc (.cells #[.int .i64 0, .string { data := #[] }, .int .i64 0, .int .i64 0] 30)).alloc (.cells wordVals 9)) = ((w.alloc (.cells #[.int .i64 0, .string { data := #[] }, .int .i64 0, .int .i64 0] 30)).alloc (.cells #[.string ⟨#[61, 61]⟩, .string ⟨#[33, 61]⟩, .string ⟨#[40]⟩, .string ⟨#[41]⟩, .string ⟨#[123]⟩, .string ⟨#[125]⟩, .string ⟨#[91]⟩, .string ⟨#[93]⟩, .string ⟨#[59]⟩, .string ⟨#[44]⟩, .string ⟨#[58]⟩, .string ⟨#[46]⟩, .string ⟨#[61]⟩, .string ⟨#[60]⟩, .string ⟨#[43]⟩, .string ⟨#[45]⟩, .string ⟨#[42]⟩, .string ⟨#[33]⟩] 9)) := rfl
  rw [hwv] at hb1 hk1 hv1
  clear hS hSS hq HSF hwv
  unfold wordSigns at HAW
  go_enter Tryz.func19, Tryz.ntmps19
  go_wp2_with fail
  refine (HAM.out _).mono ?_
  rintro e w1 ⟨rfl, rfl⟩
  go_wp2_with fail
  refine (HAW.out _).mono ?_
  rintro e w1 ⟨rfl, rfl⟩
  go_wp2_with fail
  generalize ((w.alloc (.cells #[.int .i64 0, .string { data := #[] }, .int .i64 0, .int .i64 0] 30)).alloc (.cells #[.string ⟨#[61, 61]⟩, .string ⟨#[33, 61]⟩, .string ⟨#[40]⟩, .string ⟨#[41]⟩, .string ⟨#[123]⟩, .string ⟨#[125]⟩, .string ⟨#[91]⟩, .string ⟨#[93]⟩, .string ⟨#[59]⟩, .string ⟨#[44]⟩, .string ⟨#[58]⟩, .string ⟨#[46]⟩, .string ⟨#[61]⟩, .string ⟨#[60]⟩, .string ⟨#[43]⟩, .string ⟨#[45]⟩, .string ⟨#[42]⟩, .string ⟨#[33]⟩] 9)) = wA at hb1 hk1 hv1 ⊢
  have HB1 : Hid (Below w.heap.size w wA) := hb1
  have HK1 : Hid (wA.heap[w.heap.size]? = some (.cells #[.int .i64 0, .string { data := #[] }, .int .i64 0, .int .i64 0] 30 (0, 0))) := hk1
  have HV1 : Hid (wA.heap[w.heap.size + 1]? = some (.cells wordVals 9 (0, 0))) := hv1
  have hvl : w.heap.size + 1 < wA.heap.size := lt_of_block hv1
  obtain ⟨z0, z1, z2, z3, zf⟩ := four hk1
  clear hb1 hk1 hv1 HAM HAW
  go_loopw [117] (fun i wr => ∃ k : Nat, k ≤ 18 ∧ i = .int .i64 k ∧ Hid (∀ j, j < k → ∀ y, sgnWords[j]? = some y → Lib.hasPrefix S y = false) ∧ wr = wA)
    (fun i _ => 18 - (intOf i).toNat)
  case atStart => exact ⟨0, Nat.zero_le _, rfl, fun j hj => by omega, rfl⟩
  case round =>
    obtain ⟨k, hk, rfl, HN, rfl⟩ := hrel
    by_cases hlt : k < 18
    · obtain ⟨x, hx⟩ : ∃ x, sgnWords[k]? = some x := ⟨_, List.getElem?_eq_getElem (by exact hlt)⟩
      have q0 : wr.cell? ⟨w.heap.size + 1, k, none⟩ = some (.string ⟨x.toArray⟩) := by rw [cell_of_row _ _ _ _ _ _ HV1.out]; exact wordVals_get k x hx
      have hidx : 0 ≤ (k : Int) ∧ (k : Int) < 18 := ⟨by omega, by omega⟩
      have hsx : (⟨x.toArray⟩ : ByteArray).size = x.length := by show x.toArray.size = _; simp
      cases hp : Lib.hasPrefix S x with
      | true =>
        have HC : Hid (∀ w, Calls Tryz.prog 21 #[.string s, .string ⟨x.toArray⟩] w fun e w' => e = .returned (.bool true) ∧ w' = w) := fun w => by have := HHP.out x w; rw [hp] at this; exact this
        have HV : Hid (V = ansV 4 x 0 x.length 0) := by show _ = _; rw [HSF2.out, find_hit hx HN.out hp]
        clear hp hx HHP
        generalize hX : (⟨x.toArray⟩ : ByteArray) = X at *
        have HX : Hid ((⟨x.toArray⟩ : ByteArray) = X) := hX
        clear hX
        go_wp2_with fail
        refine (HC.out _).mono ?_
        rintro e wr ⟨rfl, rfl⟩
        go_wp2
        obtain ⟨d0, d1, d2, d3, _⟩ := four (four_set HK1.out (.int .i64 4) (.string X) (.int .i64 0) (.int .i64 0))
        exact bodyPost_ret (v := .tuple #[.agg #[.int .i64 4, .string X, .int .i64 0, .int .i64 0], .int .i64 (x.length : Int), .int .i64 0]) (by simp [results, Tryz.results19, go_sem, d0, d1, d2, d3]) rfl ⟨by rw [HV.out, ansV_eq, HX.out]; rfl, (((HB1.out.setCell (p := ⟨w.heap.size, 0, none⟩) (Nat.le_refl _) _).setCell (p := ⟨w.heap.size, 1, none⟩) (Nat.le_refl _) _).setCell (p := ⟨w.heap.size, 2, none⟩) (Nat.le_refl _) _).setCell (p := ⟨w.heap.size, 3, none⟩) (Nat.le_refl _) _⟩
      | false =>
        have HC : Hid (∀ w, Calls Tryz.prog 21 #[.string s, .string ⟨x.toArray⟩] w fun e w' => e = .returned (.bool false) ∧ w' = w) := fun w => by have := HHP.out x w; rw [hp] at this; exact this
        have HN2 : Hid (∀ j, j < k + 1 → ∀ y, sgnWords[j]? = some y → Lib.hasPrefix S y = false) := fun j hj y hy => by
          by_cases hjk : j = k
          · subst hjk
            rw [hx] at hy
            cases hy
            exact hp
          · exact HN.out j (by omega) y hy
        clear hp hx
        go_wp2_with fail
        refine (HC.out _).mono ?_
        rintro e wr ⟨rfl, rfl⟩
        go_wp2_with fail
        go_roundw
        case rel => exact ⟨k + 1, by omega, by go_num, HN2, trivial⟩
        case measure => simp [intOf]; omega
    · obtain rfl : k = 18 := by omega
      have HV : Hid (V = ansV 0 [] 0 0 1) := by show _ = _; rw [HSF2.out, find_miss HN.out]
      go_wp2
      obtain ⟨d0, d1, d2, d3, _⟩ := four (four_set HK1.out (.int .i64 0) (.string { data := #[] }) (.int .i64 0) (.int .i64 0))
      exact bodyPost_ret (v := ansV 0 [] 0 0 1) (by simp [results, Tryz.results19, go_sem, ansV, tokV, d0, d1, d2, d3]) rfl ⟨by rw [HV.out], (((HB1.out.setCell (p := ⟨w.heap.size, 0, none⟩) (Nat.le_refl _) _).setCell (p := ⟨w.heap.size, 1, none⟩) (Nat.le_refl _) _).setCell (p := ⟨w.heap.size, 2, none⟩) (Nat.le_refl _) _).setCell (p := ⟨w.heap.size, 3, none⟩) (Nat.le_refl _) _⟩
theorem one5_any (s : ByteArray) {c : UInt8} {t : List UInt8} (hS : s.data.toList = c :: t) (hs : s.size ≤ 100000) (w : World) :
    Calls Tryz.prog 19 #[.string s] w fun e w' => e = .returned (oneV (LM.one (c :: t))) ∧ Below w.heap.size w w' := by
  cases hd : isDig c with
  | true => rw [one_num hd]; exact one5_num s hS hd hs w
  | false =>
    cases hw : isWrd c with
    | true => rw [one_wrd hd hw]; exact one5_wrd s hS hd hw hs w
    | false =>
      by_cases hq : c.toNat = 34
      · rw [one_txt hd hw hq]; exact one5_txt s hS hd hw hq hs w
      · rw [one_sgn hd hw hq]; exact one5_sgn s hS hd hw hq hs w
end Go.Proofs.YtebcojkeblpbjaaGreatDoor

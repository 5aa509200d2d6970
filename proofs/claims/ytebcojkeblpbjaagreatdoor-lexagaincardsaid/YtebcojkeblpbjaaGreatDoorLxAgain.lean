/-
  LexAgain: the tokens, blanks between, are the same tokens.
  Conditions: as each theorem says (the library's ErrRange as it is laid).
-/
import Derived.Test.YtebcojkeblpbjaaGreatDoorLxJoins
import Derived.Test.YtebcojkeblpbjaaGreatDoorLxAgainM
import Derived.Test.YtebcojkeblpbjaaGreatDoorRgn
namespace Go.Proofs.YtebcojkeblpbjaaGreatDoor
open Go.ChangeShapes Go.WideShapes Go.ChangeAt Go.RowKit LM
set_option linter.unusedVariables false
theorem ext_mid (s : ByteArray) (i j : Nat) : (s.extract i j).data.toList = (s.data.toList.drop i).take (j - i) := by
  cases s with
  | mk d =>
    simp
set_option maxRecDepth 100000 in
set_option maxHeartbeats 2000000 in
theorem again5_any (s : ByteArray) (w : World) (hL : Lv w) : Calls Tryz.prog 7 #[.string s] w fun e w' => e = .returned (.bool true) ∧ Below w.heap.size w w' := by
  have HL : Hid (Lv w) := hL
  clear hL
  go_enter Tryz.func7, Tryz.ntmps7
  go_wp2_with fail
  refine (awake5 _ HL.out).mono ?_
  rintro e w1 ⟨rfl, b1⟩
  have HB1 : Hid (Below w.heap.size w w1) := b1
  have HL1 : Hid (Lv w1) := HL.out.below b1
  clear b1 HL
  by_cases hs : 1000 < s.size
  · have e1 : decide ((1000 : Int) < (s.size : Int)) = true := by simp; omega
    go_wp2
    go_ret
    exact ⟨rfl, HB1.out⟩
  have e1 : decide ((1000 : Int) < (s.size : Int)) = false := by simp; omega
  go_wp2_with fail
  refine (split_v s (by omega) _ HL1.out).mono ?_
  rintro e w2 ⟨ao1, n1, cap1, at1, er1, rfl, h1, b2⟩
  have HB2 : Hid (Below w.heap.size w w2) := HB1.out.trans (b2.mono HB1.out.size)
  have HL2 : Hid (Lv w2) := HL1.out.below b2
  clear b2 HL1 HB1
  have hSl : s.data.toList.length = s.size := len_eq s
  cases r1 : lexR 0 s.data.toList with
  | bad x r =>
    obtain ⟨rfl, rfl, rfl, he1⟩ := h1.inv_bad r1
    have n1 : (er1 == 0) = false := by rw [he1]; exact err_ne r
    have n1' : ¬ er1 = 0 := by simpa using n1
    clear h1 r1 he1
    go_wp2
    go_ret
    exact ⟨rfl, HB2.out⟩
  | toks l =>
    obtain ⟨g1, rfl, rfl, rfl, rfl, l1, c1, m1, t1⟩ := h1.inv_toks r1
    have hct := lexR_count r1
    rw [len_eq] at hct
    have hsrt := lexR_srt r1
    rw [len_eq] at hsrt
    obtain ⟨mm, hmm1, hmm2⟩ := again_lex r1
    have HT1 : Hid (TokAt w2 g1 l) := t1
    have HSR : Hid (Srt s.size l) := hsrt
    have HMM : Hid (lexR 0 (again s.data.toList l) = .toks mm) := hmm1
    have HCO : Hid (mm.map Tok.core = l.map Tok.core) := hmm2
    have hml : mm.length = l.length := by have := congrArg List.length hmm2; simpa using this
    have hal : (again s.data.toList l).length ≤ 8192 := by
      cases l with
      | nil => simp at l1
      | cons t0 r0 => have := again_len s.data.toList s.size _ t0 r0 hsrt rfl; simp only [List.length_cons] at hct; omega
    generalize hS : s.data.toList = S at *
    have HSS : Hid (s.data.toList = S) := hS
    have hg1 := t1.1
    unfold maxLen at m1
    clear h1 r1 t1 hsrt hmm1 hmm2 hS
    go_wp2_with fail
    go_loopw [31, 6] (fun i v wr => ∃ (k : Nat) (x : ByteArray), k < l.length ∧ i = .int .i64 k ∧ v = .string x ∧ x.size ≤ 8192 ∧ Hid (again S l = x.data.toList ++ again S (l.drop k)) ∧ Hid (Below w2.heap.size w2 wr))
      (fun i _ _ => l.length - (intOf i).toNat)
    case atStart => exact ⟨0, ⟨#[]⟩, l1, rfl, rfl, by decide, by show _ = _; simp, Below.refl _ _⟩
    case round =>
      obtain ⟨k, x, hk, rfl, rfl, hxs, HX, HB⟩ := hrel
      have T1 := HT1.out.below HB.out
      have hidx : 0 ≤ (k : Int) ∧ (k : Int) < (l.length : Int) := ⟨by omega, by omega⟩
      have g1l := T1.1
      have hbs := HB.out.size
      by_cases hlast : k + 1 = l.length
      · obtain ⟨t, ht, hdr⟩ := drop_one hlast
        have hsk := HSR.out.drop hk
        rw [hdr] at hsk
        obtain ⟨x0, x1, x2, x3⟩ := T1.2 k t ht
        have hk0 : (t.kind : Int) = 0 := by rw [hsk.2]; rfl
        rw [hk0] at x0
        have HXE : Hid (x.data.toList = again S l) := by show _ = _; rw [HX.out, hdr]; simp [again]
        clear hdr hsk HX ht T1 hk0
        have HBA : Hid (Below w2.heap.size w2 (wr.alloc (.cells #[.int .i64 0, .string ⟨t.text.toArray⟩, .int .i64 t.num, .int .i64 (t.pos : Int)] 30))) := HB.out.alloc hbs _
        go_wp2_with fail
        generalize wr.alloc (.cells #[.int .i64 0, .string ⟨t.text.toArray⟩, .int .i64 t.num, .int .i64 (t.pos : Int)] 30) = wA at HBA ⊢
        have HLA : Hid (Lv wA) := HL2.out.below HBA.out
        have HTA : Hid (TokAt wA g1 l) := HT1.out.below HBA.out
        have HWA : Hid (Below w.heap.size w wA) := HB2.out.trans (HBA.out.mono HB2.out.size)
        clear x0 x1 x2 x3 HB HBA HB2 HL2 HT1 g1l hbs
        refine (split_v x hxs _ HLA.out).mono ?_
        rintro e w5 ⟨ao2, n2, cap2, at2, er2, rfl, h2, b5⟩
        have HT5 : Hid (TokAt w5 g1 l) := HTA.out.below b5
        have HW5 : Hid (Below w.heap.size w w5) := HWA.out.trans (b5.mono HWA.out.size)
        clear b5 HLA HTA HWA
        obtain ⟨g2, rfl, rfl, rfl, rfl, ml, mc, mx, mt⟩ := h2.inv_toks (by rw [HXE.out]; exact HMM.out)
        have HM5 : Hid (TokAt w5 g2 mm) := mt
        unfold maxLen at mx
        rw [hml] at mc ⊢
        clear h2 mt HMM HXE ml
        go_wp2_with fail
        go_loopw [70] (fun i wr => ∃ k : Nat, k ≤ l.length ∧ i = .int .i64 k ∧ Hid (Below w5.heap.size w5 wr))
          (fun i _ => l.length - (intOf i).toNat)
        case atStart => exact ⟨0, Nat.zero_le _, rfl, Below.refl _ _⟩
        case round =>
          obtain ⟨j, hj, rfl, HB⟩ := hrel
          by_cases hlt : j < l.length
          · obtain ⟨t0, ht0⟩ : ∃ t, l[j]? = some t := ⟨_, List.getElem?_eq_getElem hlt⟩
            obtain ⟨u0, hu0⟩ : ∃ t, mm[j]? = some t := ⟨_, List.getElem?_eq_getElem (by omega)⟩
            have hcore : u0.core = t0.core := by
              have := congrArg (fun z => z[j]?) HCO.out
              simp [ht0, hu0] at this
              exact this
            simp only [Tok.core, Prod.mk.injEq] at hcore
            obtain ⟨T1, T2⟩ := HT5.out.below HB.out
            obtain ⟨U1, U2⟩ := HM5.out.below HB.out
            obtain ⟨x0, x1, x2, _⟩ := T2 j t0 ht0
            obtain ⟨y0, y1, y2, _⟩ := U2 j u0 hu0
            rw [hcore.1] at y0
            rw [hcore.2.1] at y1
            rw [hcore.2.2] at y2
            have hidx : 0 ≤ (j : Int) ∧ (j : Int) < (l.length : Int) := ⟨by omega, by omega⟩
            clear ht0 hu0 hcore T2 U2
            go_wp2_with fail
            go_region
            go_wp2_with fail
            go_roundw
            case rel => exact ⟨j + 1, by omega, by go_num, HB.out.drew⟩
            case measure => simp [intOf]; omega
          · obtain rfl : j = l.length := by omega
            go_wp2
            go_ret
            exact ⟨rfl, HW5.out.trans (HB.out.mono HW5.out.size)⟩
      · obtain ⟨t, t', r, ht, ht', hd1, hd2⟩ := drop_two (l := l) (i := k) (by omega)
        have hsk := HSR.out.drop hk
        rw [hd1] at hsk
        obtain ⟨hp1, hk1, hsk2⟩ := hsk
        have hp2 : t'.pos ≤ s.size := Srt.head hsk2 rfl
        obtain ⟨x0, x1, x2, x3⟩ := T1.2 k t ht
        obtain ⟨y0, y1, y2, y3⟩ := T1.2 (k + 1) t' ht'
        have hk2 : ((t.kind : Int) == 0) = false := by rw [beq_eq_false_iff_ne]; omega
        have hk3 : ¬ (t.kind : Int) = 0 := by omega
        have hidx2 : 0 ≤ (k : Int) + 1 ∧ (k : Int) + 1 < (l.length : Int) := ⟨by omega, by omega⟩
        have HX2 : Hid (again S l = (x ++ (s.extract t.pos t'.pos ++ ⟨#[32, 10, 32]⟩)).data.toList ++ again S (l.drop (k + 1))) := by
          show _ = _
          rw [HX.out, hd1, hd2, again_two, app_toList, app_toList, ext_mid, HSS.out]
          simp
        have hsz2 : (x ++ (s.extract t.pos t'.pos ++ ⟨#[32, 10, 32]⟩)).size ≤ 8192 := by
          have := congrArg List.length HX2.out
          rw [List.length_append, len_eq] at this
          omega
        clear hd1 hd2 ht ht' T1 hsk2 HX
        have HB3 : Hid (Below w2.heap.size w2 (wr.alloc (.cells #[.int .i64 (t.kind : Int), .string ⟨t.text.toArray⟩, .int .i64 t.num, .int .i64 (t.pos : Int)] 30))) := HB.out.alloc hbs _
        have hes : (s.extract t.pos t'.pos).size ≤ 1000 := by rw [← len_eq, ext_mid, List.length_take, HSS.out, List.length_drop]; omega
        have hpb : 0 ≤ (t.pos : Int) ∧ (t.pos : Int) ≤ (t'.pos : Int) ∧ (t'.pos : Int) ≤ (s.size : Int) := ⟨by omega, by omega, by omega⟩
        go_wp2_with fail
        go_region
        go_wp2_with fail
        go_roundw
        case rel => exact ⟨k + 1, _, by omega, by go_num, rfl, hsz2, HX2, HB3.out.drew⟩
        case measure => simp [intOf]; omega
end Go.Proofs.YtebcojkeblpbjaaGreatDoor

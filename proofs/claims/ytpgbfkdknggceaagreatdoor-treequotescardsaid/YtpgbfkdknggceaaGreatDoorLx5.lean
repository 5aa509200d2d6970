/-
  Package lex: Split: its tokens are the text's; or where it goes wrong, and why.
  Conditions: as each theorem says (at most 8192 bytes; the library's ErrRange as it is laid).
-/
import Derived.Test.YtpgbfkdknggceaaGreatDoorLx4
namespace Go.Proofs.YtpgbfkdknggceaaGreatDoor
open Go.ChangeShapes Go.WideShapes Go.ChangeAt Go.RowKit LM
set_option linter.unusedVariables false
theorem four_news {w : World} {x0 x1 x2 x3 : Value} {t : TypeId} (j : Nat) (u : Value) (hj : [x0, x1, x2, x3][j]? = some u) : (w.alloc (.cells #[x0, x1, x2, x3] t)).cell? ((⟨w.heap.size, 0, none⟩ : Addr).add j) = some u := by
  match j, hj with
  | 0, hj => simp at hj; subst hj; simp [Addr.add]
  | 1, hj => simp at hj; subst hj; simp [Addr.add]
  | 2, hj => simp at hj; subst hj; simp [Addr.add]
  | 3, hj => simp at hj; subst hj; simp [Addr.add]
/-- The cells of a row of tokens. -/
def tokL (t : Tok) : List Value := [.int .i64 (t.kind : Int), .string ⟨t.text.toArray⟩, .int .i64 t.num, .int .i64 (t.pos : Int)]
def tokRow (l : List Tok) : List Value := l.flatMap tokL
theorem tokRow_one (l : List Tok) (t : Tok) : tokRow l ++ tokL t = tokRow (l ++ [t]) := by simp [tokRow]
theorem tokRow_length (l : List Tok) : (tokRow l).length = l.length * 4 := by
  induction l with
  | nil => rfl
  | cons t l ih => rw [tokRow, List.flatMap_cons, List.length_append, ← tokRow, ih, List.length_cons]; simp [tokL]; omega
/-- What Split answers: its row of tokens, where it goes wrong, the error. -/
def SplitAns (w w' : World) (e : Ending) (R : Res) : Prop :=
  ∃ v, Below w.heap.size w w' ∧ match R with
    | .toks l => e = .returned (.tuple #[v, .int .i64 0, .int .i64 0]) ∧ w'.ownsRow w.heap.size 67 4 v l.length (tokRow l)
    | .bad a r => e = .returned (.tuple #[.slice none 0 0, .int .i64 (a : Int), .int .i64 (if r then 6 else 1)])
theorem infoTok : (Tryz.prog.info? 67).map (fun i => (i.zero, i.size, i.bytes)) = some (some (.agg #[.int .i64 0, .string { data := #[] }, .int .i64 0, .int .i64 0]), 4, 40) := by kernel_rfl
theorem pre_toks (l : List Tok) (t : Tok) (r : Res) : (r.cons t).pre l = r.pre (l ++ [t]) := by cases r <;> simp [Res.cons, Res.pre]
theorem row_keeps {w w' : World} {base : Nat} {e : TypeId} {size n : Nat} {v : Value} {xs : List Value} (h : w.ownsRow base e size v n xs) (hb : Below w.heap.size w w') : w'.ownsRow base e size v n xs := by
  refine ⟨h.1, h.2.imp id ?_⟩
  rintro ⟨g, cap, cur, rfl, hbg, hg, rest⟩
  exact ⟨g, cap, cur, rfl, hbg, (hb.block g (lt_of_block hg)).trans hg, rest⟩
theorem oneV_bad (r : Bool) : oneV (.bad r) = .tuple #[.agg #[.int .i64 0, .string ⟨#[]⟩, .int .i64 0, .int .i64 0], .int .i64 0, .int .i64 (if r then 6 else 1)] := rfl
theorem oneV_ok (k : Nat) (x : List UInt8) (v : Int) (n : Nat) : oneV (.ok k x v n) = .tuple #[.agg #[.int .i64 (k : Int), .string ⟨x.toArray⟩, .int .i64 v, .int .i64 0], .int .i64 (n : Int), .int .i64 0] := rfl
set_option maxRecDepth 100000 in
set_option maxHeartbeats 2000000 in
theorem split_any (s : ByteArray) (hs : s.size ≤ 8192) (w : World) (hL : Lv w) :
    Calls Tryz.prog 30 #[.string s] w fun e w' => SplitAns w w' e (lexR 0 s.data.toList) := by
  generalize hS : s.data.toList = S
  have hSl : S.length = s.size := by rw [← hS]; exact len_eq s
  have HSS : Hid (s.data.toList = S) := hS
  have HL : Hid (Lv w) := hL
  have HBT : Hid (∀ (i : Nat), i ≤ s.size → ∀ w, Calls Tryz.prog 53 #[.string s, .int .i64 (i : Int)] w fun e w' => e = .returned (.int .i64 ((i + gap false (S.drop i) : Nat) : Int)) ∧ w' = w) := fun i hi w => by
    have := between_any s (by omega) i hi w
    rw [hS] at this
    exact this
  have HGL : Hid (∀ i, i ≤ s.size → i + gap false (S.drop i) ≤ s.size) := fun i hi => by
    have := gap_le false (S.drop i)
    rw [List.length_drop] at this
    omega
  clear hS hL
  go_enter Tryz.func30, Tryz.ntmps30
  have e1 : decide ((8192 : Int) < (s.size : Int)) = false := by simp; omega
  go_wp2_with fail
  refine (HBT.out 0 (by omega) _).mono ?_
  rintro e w1 ⟨rfl, hw1⟩
  obtain rfl : w1 = w := hw1
  have hg0 := HGL.out 0 (by omega)
  have HG0 : Hid (lexR 0 S = (lexR (0 + gap false (S.drop 0)) (S.drop (0 + gap false (S.drop 0)))).pre []) := by
    show _ = _
    rw [pre_nil, List.drop_zero, Nat.zero_add]
    have := lexR_gap (at_ := 0) (s := S)
    rw [Nat.zero_add] at this
    exact this
  have HG1 : Hid (gap false (S.drop (0 + gap false (S.drop 0))) = 0) := by
    show _ = _
    rw [List.drop_zero, Nat.zero_add]
    exact gap_drop false S
  generalize 0 + gap false (S.drop 0) = g0 at *
  go_wp2_with fail
  go_loopw [5, 6] (fun v i wr => ∃ (k : Nat) (l : List Tok), k ≤ s.size ∧ i = .int .i64 k ∧ l.length ≤ k ∧ Hid (lexR 0 S = (lexR k (S.drop k)).pre l) ∧ Hid (gap false (S.drop k) = 0) ∧ Hid (wr.ownsRow w1.heap.size 67 4 v l.length (tokRow l)) ∧ Hid (Below w1.heap.size w1 wr))
    (fun _ i _ => s.size - (intOf i).toNat)
  case atStart => exact ⟨g0, [], hg0, rfl, Nat.zero_le _, HG0, HG1, World.ownsRow_nil _ _ _ _, Below.refl _ _⟩
  case round =>
    obtain ⟨k, l, hk, rfl, hlk, HX, HZ, HR, HB⟩ := hrel
    clear HG0 HG1 hg0
    by_cases hlt : k < s.size
    · have hb := byte_at s k hlt
      rw [HSS.out] at hb
      have hdk := drop_at hb
      have HD : Hid (S.drop k = (s[k]'hlt) :: S.drop (k + 1)) := hdk
      have hidx : 0 ≤ (k : Int) ∧ (k : Int) < (s.size : Int) := ⟨by omega, by omega⟩
      have HF : Hid (∀ w, Lv w → Calls Tryz.prog 54 #[.string (s.extract k s.size)] w fun e w' => e = .returned (oneV (one (S.drop k))) ∧ Below w.heap.size w w') := fun w hw => by
        have := first_any (s.extract k s.size) (c := s[k]'hlt) (t := S.drop (k + 1)) (by rw [ext_from, HSS.out]; exact hdk) (by rw [ext_size]; omega) w hw
        rw [← hdk] at this
        exact this
      have HLW : Hid (Lv wr) := HL.out.below HB.out
      have hbs := HB.out.size
      have HDG : Hid ((S.drop k).drop (gap false (S.drop k)) = (s[k]'hlt) :: S.drop (k + 1)) := by show _ = _; rw [HZ.out, List.drop_zero]; exact hdk
      clear hb hdk
      cases ho : one (S.drop k) with
      | bad r =>
        have HV : Hid (lexR 0 S = .bad k r) := by
          show _ = _
          have := lexR_bad (at_ := k) HDG.out (by rw [← HD.out]; exact ho)
          rw [HX.out, this, HZ.out]
          rfl
        rw [ho] at HF
        rw [oneV_bad] at HF
        obtain ⟨E, hE⟩ : ∃ E : Int, E = if r = true then (6 : Int) else 1 := ⟨_, rfl⟩
        have HE : Hid (E = if r = true then (6 : Int) else 1) := hE
        rw [← hE] at HF
        have her : (E == 0) = false := by rw [hE]; cases r <;> rfl
        have her2 : ¬ (E = 0) := by rw [hE]; cases r <;> decide
        clear hE
        go_wp2_with fail
        refine (HF.out _ HLW.out).mono ?_
        rintro e w2 ⟨rfl, b2⟩
        have HB2 : Hid (Below w1.heap.size w1 w2) := HB.out.trans (b2.mono hbs)
        clear b2
        go_wp2
        refine bodyPost_ret (v := .tuple #[.slice none 0 0, .int .i64 (k : Int), .int .i64 E]) (by simp [results, Tryz.results30, go_sem]) rfl ?_
        rw [HV.out]
        exact ⟨.slice none 0 0, HB2.out.alloc HB2.out.size _, by simp only [HE.out]⟩
      | ok kd x v n =>
        have hop := one_pos ho
        have hnl : k + n ≤ s.size := by rw [List.length_drop, hSl] at hop; omega
        have hg2 := HGL.out (k + n) hnl
        have HV : Hid (lexR 0 S = (lexR (k + n + gap false (S.drop (k + n))) (S.drop (k + n + gap false (S.drop (k + n))))).pre (l ++ [(⟨kd, x, v, k⟩ : Tok)])) := by
          show _ = _
          have h1 := lexR_ok (at_ := k) HDG.out (by rw [← HD.out]; exact ho)
          rw [HZ.out, Nat.add_zero, ← HD.out, List.drop_drop] at h1
          rw [HX.out, h1, pre_toks, lexR_gap (s := S.drop (k + n)), List.drop_drop]
        have HZ2 : Hid (gap false (S.drop (k + n + gap false (S.drop (k + n)))) = 0) := by
          show _ = _
          have := gap_drop false (S.drop (k + n))
          rwa [List.drop_drop] at this
        have HBT2 : Hid (∀ w, Calls Tryz.prog 53 #[.string s, .int .i64 ((k : Int) + (n : Int))] w fun e w' => e = .returned (.int .i64 ((k + n + gap false (S.drop (k + n)) : Nat) : Int)) ∧ w' = w) := fun w => by
          have := HBT.out (k + n) hnl w
          rw [show ((k + n : Nat) : Int) = (k : Int) + (n : Int) from by omega] at this
          exact this
        have hgr : k + n ≤ k + n + gap false (S.drop (k + n)) := by omega
        generalize k + n + gap false (S.drop (k + n)) = K2 at *
        have hn0 : 0 < n := hop.1
        rw [ho, oneV_ok] at HF
        obtain ⟨ti, hti, hz0, hz1, hz2⟩ := info_parts infoTok
        clear hop HX HZ HBT HGL HD HDG ho
        go_wp2_with fail
        refine (HF.out _ HLW.out).mono ?_
        rintro e w2 ⟨rfl, b2⟩
        have HB2 : Hid (Below w1.heap.size w1 w2) := HB.out.trans (b2.mono hbs)
        have HR2 : Hid (w2.ownsRow w1.heap.size 67 4 _ l.length (tokRow l)) := row_keeps HR.out b2
        have hs2 : w1.heap.size ≤ w2.heap.size := HB2.out.size
        clear b2
        go_wp2_with (at_builtin; refine wpList_append_own _ rfl (.tmp 33) (.tmp 35) 61 rfl w1.heap.size 67 ti _ 4 40 Tryz.underlying61 hti hz0 hz1 hz2 rfl (by decide) _ l.length _ rfl ((HR2.out.alloc _).alloc _) ⟨w2.heap.size + 1, 0, none⟩ 1 1 (tokL ⟨kd, x, v, k⟩) rfl rfl (by have h9 := @four_news (w2.alloc (.cells #[.int .i64 (kd : Int), .string ⟨x.toArray⟩, .int .i64 v, .int .i64 (k : Int)] 67)) (.int .i64 (kd : Int)) (.string ⟨x.toArray⟩) (.int .i64 v) (.int .i64 (k : Int)) 67; simpa [tokL] using h9) (by intro u hu; simp [tokL] at hu; rcases hu with rfl | rfl | rfl | rfl <;> rfl) (by unfold maxLen; omega) (by omega) (by simp; omega) ?_)
        intro v7 w7 hown7 hgr7 _
        have HR7 : Hid (w7.ownsRow w1.heap.size 67 4 v7 (l ++ [(⟨kd, x, v, k⟩ : Tok)]).length (tokRow (l ++ [(⟨kd, x, v, k⟩ : Tok)]))) := by
          show World.ownsRow _ _ _ _ _ _ _
          rw [tokRow_one] at hown7
          simpa using hown7
        have HB7 : Hid (Below w1.heap.size w1 w7) := ((HB2.out.alloc hs2 _).alloc (by simp; omega) _).grown hgr7 (by simp; omega) (fun j e => (HR2.out.lt j e).1)
        clear hown7 hgr7 HR HB HR2 HB2 HF HLW
        go_wp2_with fail
        refine (HBT2.out _).mono ?_
        rintro e w7 ⟨rfl, rfl⟩
        go_wp2_with fail
        go_roundw
        case rel => exact ⟨K2, l ++ [⟨kd, x, v, k⟩], hg2, rfl, by simp; omega, HV, HZ2, HR7, HB7⟩
        case measure => simp [intOf]; omega
    · obtain rfl : k = s.size := by omega
      have HV : Hid (lexR 0 S = .toks (l ++ [(⟨0, [], 0, s.size⟩ : Tok)])) := by
        show _ = _
        have hnil : S.drop s.size = [] := List.drop_eq_nil_of_le (by omega)
        rw [HX.out, hnil, lexR_end (s := []) (by simp)]
        simp [Res.pre, gap]
      obtain ⟨ti, hti, hz0, hz1, hz2⟩ := info_parts infoTok
      have hbs := HB.out.size
      clear HBT HGL HX HZ HL
      go_wp2_with (at_builtin; refine wpList_append_own _ rfl (.tmp 42) (.tmp 45) 61 rfl w1.heap.size 67 ti _ 4 40 Tryz.underlying61 hti hz0 hz1 hz2 rfl (by decide) _ l.length _ rfl (HR.out.alloc _) ⟨wr.heap.size, 0, none⟩ 1 1 (tokL ⟨0, [], 0, s.size⟩) rfl rfl four_news (by intro u hu; simp [tokL] at hu; rcases hu with rfl | rfl | rfl | rfl <;> rfl) (by unfold maxLen; omega) (by omega) (by simp; omega) ?_)
      intro v7 w7 hown7 hgr7 _
      have HR7 : Hid (w7.ownsRow w1.heap.size 67 4 v7 (l ++ [(⟨0, [], 0, s.size⟩ : Tok)]).length (tokRow (l ++ [(⟨0, [], 0, s.size⟩ : Tok)]))) := by
        show World.ownsRow _ _ _ _ _ _ _
        rw [tokRow_one] at hown7
        simpa using hown7
      have HB7 : Hid (Below w1.heap.size w1 w7) := (HB.out.alloc hbs _).grown hgr7 (by simp; omega) (fun j e => (HR.out.lt j e).1)
      clear hown7 hgr7 HR HB
      go_wp2
      refine bodyPost_ret (v := .tuple #[v7, .int .i64 0, .int .i64 0]) (by simp [results, Tryz.results30, go_sem]) rfl ?_
      rw [HV.out]
      exact ⟨v7, HB7.out, rfl, HR7.out⟩
end Go.Proofs.YtpgbfkdknggceaaGreatDoor

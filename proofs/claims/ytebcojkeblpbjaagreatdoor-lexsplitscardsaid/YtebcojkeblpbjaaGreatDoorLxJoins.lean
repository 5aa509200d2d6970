/-
  LexJoins: two texts that are tokens, a line feed between, have the tokens of both.
  Conditions: as each theorem says (the library's ErrRange as it is laid).
-/
import Derived.Test.YtebcojkeblpbjaaGreatDoorLx6
namespace Go.Proofs.YtebcojkeblpbjaaGreatDoor
open Go.ChangeShapes Go.WideShapes Go.ChangeAt Go.RowKit LM
set_option linter.unusedVariables false
theorem tok_neq (k v p : Int) (x : ByteArray) (w : World) : (binOp .neq 30 (.agg #[.int .i64 k, .string x, .int .i64 v, .int .i64 p]) (.agg #[.int .i64 k, .string x, .int .i64 v, .int .i64 p])).run Tryz.prog w = .ok (.bool false) w := by
  have hu : Tryz.prog.underlying 30 = some (.struct (Tryz.prog.fieldsOf 30)) := by kernel_rfl
  rw [run_neq_struct, run_equalIn_struct w 9999 30 _ _ hu (by kernel_rfl)]
  simp only [Program.fieldsOf, Tryz.underlying30]
  have u28 := Tryz.underlying28; have u9 := Tryz.underlying9; have u2 := Tryz.underlying2; have u3 := Tryz.underlying3
  have a28 := Tryz.isAgg28; have a9 := Tryz.isAgg9; have a2 := Tryz.isAgg2; have a3 := Tryz.isAgg3
  simp [go_sem, Op.eqFields, part, u28, u9, u2, u3, a28, a9, a2, a3]
theorem tok_eql (k v p : Int) (x : ByteArray) (w : World) : (binOp .eql 30 (.agg #[.int .i64 k, .string x, .int .i64 v, .int .i64 p]) (.agg #[.int .i64 k, .string x, .int .i64 v, .int .i64 p])).run Tryz.prog w = .ok (.bool true) w := by
  have hu : Tryz.prog.underlying 30 = some (.struct (Tryz.prog.fieldsOf 30)) := by kernel_rfl
  rw [run_eql_struct, run_equalIn_struct w 9999 30 _ _ hu (by kernel_rfl)]
  simp only [Program.fieldsOf, Tryz.underlying30]
  have u28 := Tryz.underlying28; have u9 := Tryz.underlying9; have u2 := Tryz.underlying2; have u3 := Tryz.underlying3
  have a28 := Tryz.isAgg28; have a9 := Tryz.isAgg9; have a2 := Tryz.isAgg2; have a3 := Tryz.isAgg3
  simp [go_sem, Op.eqFields, part, u28, u9, u2, u3, a28, a9, a2, a3]
/-- What Split answers, its three parts. -/
inductive SpV (w w' : World) : Option Addr → Nat → Nat → Int → Int → Res → Prop
  | toks (l : List Tok) (g cap : Nat) (hl : 0 < l.length) (hc : l.length ≤ cap) (hm : cap ≤ maxLen) (ht : TokAt w' g l) : SpV w w' (some ⟨g, 0, none⟩) l.length cap 0 0 (.toks l)
  | bad (a : Nat) (r : Bool) : SpV w w' none 0 0 (a : Int) (if r then 6 else 1) (.bad a r)
theorem split_v (s : ByteArray) (hs : s.size ≤ 8192) (w : World) (hL : Lv w) : Calls Tryz.prog 10 #[.string s] w fun e w' => ∃ ao n cap at_ er, e = .returned (.tuple #[.slice ao n cap, .int .i64 at_, .int .i64 er]) ∧ SpV w w' ao n cap at_ er (lexR 0 s.data.toList) ∧ Below w.heap.size w w' := by
  refine (split_sp s hs w hL).mono ?_
  rintro e w' h
  generalize lexR 0 s.data.toList = R at h
  cases h with
  | toks l g cap hl hc hm hg ht hb => exact ⟨_, _, _, _, _, rfl, .toks l g cap hl hc hm ht, hb⟩
  | bad a r hb => exact ⟨_, _, _, _, _, rfl, .bad a r, hb⟩
theorem SpV.later {w w' w'' : World} {ao : Option Addr} {n cap : Nat} {at_ er : Int} {R : Res} (h : SpV w w' ao n cap at_ er R) (hb : Below w'.heap.size w' w'') : SpV w w'' ao n cap at_ er R := by
  cases h with
  | toks l g cap hl hc hm ht => exact .toks l g cap hl hc hm (ht.below hb)
  | bad a r => exact .bad a r
theorem app_toList (a b : ByteArray) : (a ++ b).data.toList = a.data.toList ++ b.data.toList := by
  rw [show (a ++ b).data = a.data ++ b.data from ByteArray.data_append]
  simp
theorem app_size (a b : ByteArray) : (a ++ b).size = a.size + b.size := by
  rw [← len_eq, app_toList, List.length_append, len_eq, len_eq]
theorem count_aux : ∀ (n at_ : Nat) (s : List UInt8) (l : List Tok), s.length ≤ n → lexR at_ s = .toks l → l.length ≤ s.length + 1
  | n, at_, s, l, hn, h => by
    cases hs : s.drop (gap false s) with
    | nil => rw [lexR_end hs] at h; cases h; simp
    | cons c u =>
      cases ho : LM.one (c :: u) with
      | bad r => rw [lexR_bad hs ho] at h; cases h
      | ok k x v m =>
        rw [lexR_ok hs ho] at h
        obtain ⟨l', hl', rfl⟩ := cons_toks h
        have hm := one_pos ho
        have hl : (c :: u).length ≤ s.length := by rw [← hs]; simp
        have hd : ((c :: u).drop m).length < (c :: u).length := by rw [List.length_drop]; omega
        match n, hn with
        | 0, hn => simp only [List.length_cons] at hl; omega
        | n + 1, hn =>
          have := count_aux n _ _ l' (by omega) hl'
          simp only [List.length_cons]
          simp only [List.length_cons] at hd hl
          omega
theorem lexR_count {at_ : Nat} {s : List UInt8} {l : List Tok} (h : lexR at_ s = .toks l) : l.length ≤ s.length + 1 := count_aux _ at_ s l (Nat.le_refl _) h
theorem wrap_small {x : Int} (h0 : -1000000 ≤ x) (h1 : x ≤ 1000000) : wrap64 x = x := by simp [wrap64]; omega
theorem wrap_pm {p m : Nat} (hp : p ≤ 10000) (hm : m ≤ 10000) : wrap64 (wrap64 ((p : Int) + 1 + (m : Int)) - 1) = (p : Int) + (m : Int) := by
  rw [wrap_small (x := (p : Int) + 1 + (m : Int)) (by omega) (by omega), wrap_small (by omega) (by omega)]; omega
theorem wrap_p1 {p : Nat} (hp : p ≤ 10000) : wrap64 ((p : Int) + 1 - 1) = (p : Int) := by
  rw [wrap_small (by omega) (by omega)]; omega
theorem pos_aux : ∀ (n at_ : Nat) (s : List UInt8) (l : List Tok), s.length ≤ n → lexR at_ s = .toks l → ∀ t ∈ l, t.pos ≤ at_ + s.length
  | n, at_, s, l, hn, h => by
    have hg := gap_le false s
    cases hs : s.drop (gap false s) with
    | nil => rw [lexR_end hs] at h; cases h; intro t ht; simp at ht; subst ht; simp; omega
    | cons c u =>
      cases ho : LM.one (c :: u) with
      | bad r => rw [lexR_bad hs ho] at h; cases h
      | ok k x v m =>
        rw [lexR_ok hs ho] at h
        obtain ⟨l', hl', rfl⟩ := cons_toks h
        have hm := one_pos ho
        have hl : gap false s + (c :: u).length = s.length := by rw [← hs, List.length_drop]; omega
        have hd : ((c :: u).drop m).length + m = (c :: u).length := by rw [List.length_drop]; omega
        match n, hn with
        | 0, hn => simp only [List.length_cons] at hl; omega
        | n + 1, hn =>
          have := pos_aux n _ _ l' (by omega) hl'
          intro t ht
          rcases List.mem_cons.1 ht with rfl | ht
          · simp only; omega
          · have := this t ht; omega
theorem lexR_pos {at_ : Nat} {s : List UInt8} {l : List Tok} (h : lexR at_ s = .toks l) : ∀ t ∈ l, t.pos ≤ at_ + s.length := pos_aux _ at_ s l (Nat.le_refl _) h
theorem back_sum (p j : Nat) : (p : Int) + (j : Int) - ((p : Int) + 1) + 1 = (j : Int) := by omega
theorem same_sum (p m : Nat) : ((p : Int) + (m : Int) != (p : Int) + 1 + (m : Int) - 1) = false := by simp; omega
theorem one_byte : (⟨#[10]⟩ : ByteArray).size = 1 := rfl
theorem nl_app (A B : List UInt8) : A ++ (⟨#[10]⟩ : ByteArray).data.toList ++ B = A ++ 10 :: B := by simp
theorem err_ne (r : Bool) : ((if r = true then (6 : Int) else 1) == 0) = false := by cases r <;> rfl
theorem join_res {A B : List UInt8} {l m : List Tok} (h1 : lexR 0 A = .toks l) (h2 : lexR 0 B = .toks m) : lexR 0 (A ++ 10 :: B) = .toks (l.dropLast ++ m.map (Tok.shift (A.length + 1))) := by
  rw [lexR_join h1, show (0 + A.length + 1) = 0 + (A.length + 1) from by omega, lexR_shift, h2]
  rfl
theorem join_bad {A B : List UInt8} {l : List Tok} {a : Nat} {r : Bool} (h1 : lexR 0 A = .toks l) (h2 : lexR 0 B = .bad a r) : ∃ a', lexR 0 (A ++ 10 :: B) = .bad a' r := by
  rw [lexR_join h1, show (0 + A.length + 1) = 0 + (A.length + 1) from by omega, lexR_shift, h2]
  exact ⟨_, rfl⟩
theorem SpV.inv_bad {w w' : World} {ao : Option Addr} {n cap : Nat} {at_ er : Int} {R : Res} {a : Nat} {r : Bool} (h : SpV w w' ao n cap at_ er R) (hR : R = .bad a r) : ao = none ∧ n = 0 ∧ cap = 0 ∧ er = if r then 6 else 1 := by
  subst hR
  cases h
  exact ⟨rfl, rfl, rfl, rfl⟩
theorem SpV.inv_toks {w w' : World} {ao : Option Addr} {n cap : Nat} {at_ er : Int} {R : Res} {l : List Tok} (h : SpV w w' ao n cap at_ er R) (hR : R = .toks l) : ∃ g, ao = some ⟨g, 0, none⟩ ∧ n = l.length ∧ at_ = 0 ∧ er = 0 ∧ 0 < l.length ∧ l.length ≤ cap ∧ cap ≤ maxLen ∧ TokAt w' g l := by
  subst hR
  cases h with
  | toks l g cap hl hc hm ht => exact ⟨g, rfl, rfl, rfl, rfl, hl, hc, hm, ht⟩
set_option maxRecDepth 100000 in
set_option maxHeartbeats 2000000 in
theorem joins5_any (a b : ByteArray) (w : World) (hL : Lv w) : Calls Tryz.prog 4 #[.string a, .string b] w fun e w' => e = .returned (.bool true) ∧ Below w.heap.size w w' := by
  have HL : Hid (Lv w) := hL
  clear hL
  go_enter Tryz.func4, Tryz.ntmps4
  go_wp2_with fail
  refine (awake5 _ HL.out).mono ?_
  rintro e w1 ⟨rfl, b1⟩
  have HB1 : Hid (Below w.heap.size w w1) := b1
  have HL1 : Hid (Lv w1) := HL.out.below b1
  clear b1 HL
  by_cases ha : 500 < a.size
  · have e1 : decide ((500 : Int) < (a.size : Int)) = true := by simp; omega
    go_wp2
    go_ret
    exact ⟨rfl, HB1.out⟩
  have e1 : decide ((500 : Int) < (a.size : Int)) = false := by simp; omega
  by_cases hb : 500 < b.size
  · have e2 : decide ((500 : Int) < (b.size : Int)) = true := by simp; omega
    go_wp2
    go_ret
    exact ⟨rfl, HB1.out⟩
  have e2 : decide ((500 : Int) < (b.size : Int)) = false := by simp; omega
  go_wp2_with fail
  refine (split_v a (by omega) _ HL1.out).mono ?_
  rintro e w2 ⟨ao1, n1, cap1, at1, er1, rfl, h1, b2⟩
  have HB2 : Hid (Below w.heap.size w w2) := HB1.out.trans (b2.mono HB1.out.size)
  have HL2 : Hid (Lv w2) := HL1.out.below b2
  clear b2 HL1 HB1
  go_wp2_with fail
  refine (split_v b (by omega) _ HL2.out).mono ?_
  rintro e w3 ⟨ao2, n2, cap2, at2, er2, rfl, h2, b3⟩
  have HB3 : Hid (Below w.heap.size w w3) := HB2.out.trans (b3.mono HB2.out.size)
  have HL3 : Hid (Lv w3) := HL2.out.below b3
  replace h1 := h1.later b3
  clear b3 HL2 HB2
  go_wp2_with fail
  have hab : (a ++ ⟨#[10]⟩ ++ b).data.toList = a.data.toList ++ 10 :: b.data.toList := by rw [app_toList, app_toList]; exact nl_app _ _
  have hsz : (a ++ ⟨#[10]⟩ ++ b).size ≤ 8192 := by rw [app_size, app_size, one_byte]; omega
  refine (split_v _ hsz _ HL3.out).mono ?_
  rintro e w4 ⟨ao3, n3, cap3, at3, er3, rfl, h3, b4⟩
  have HB4 : Hid (Below w.heap.size w w4) := HB3.out.trans (b4.mono HB3.out.size)
  replace h1 := h1.later b4
  replace h2 := h2.later b4
  rw [hab] at h3
  clear b4 HL3 HB3 hab hsz
  have hla : a.data.toList.length = a.size := len_eq a
  cases r1 : lexR 0 a.data.toList with
  | bad x r =>
    obtain ⟨rfl, rfl, rfl, he1⟩ := h1.inv_bad r1
    have n1 : (er1 == 0) = false := by rw [he1]; exact err_ne r
    have n1' : ¬ er1 = 0 := by simpa using n1
    clear h1 h2 h3 r1 he1
    go_wp2
    go_ret
    exact ⟨rfl, HB4.out⟩
  | toks l =>
    obtain ⟨g1, rfl, rfl, rfl, rfl, l1, c1, m1, t1⟩ := h1.inv_toks r1
    cases r2 : lexR 0 b.data.toList with
    | bad x r =>
      obtain ⟨rfl, rfl, rfl, he2⟩ := h2.inv_bad r2
      obtain ⟨a', r3⟩ := join_bad r1 r2
      obtain ⟨rfl, rfl, rfl, he3⟩ := h3.inv_bad r3
      have n2 : (er2 == 0) = false := by rw [he2]; exact err_ne r
      have n2' : ¬ er2 = 0 := by simpa using n2
      have n3 : er3 = er2 := by rw [he3, he2]
      subst n3
      clear h1 h2 h3 r1 r2 r3 he2 he3 t1
      go_wp2
      go_ret
      exact ⟨rfl, HB4.out⟩
    | toks m =>
      obtain ⟨g2, rfl, rfl, rfl, rfl, l2, c2, m2, t2⟩ := h2.inv_toks r2
      have r3 := join_res r1 r2
      rw [hla] at r3
      obtain ⟨g3, rfl, hn3, rfl, rfl, l3, c3, m3, t3⟩ := h3.inv_toks r3
      have hlen : (l.dropLast ++ m.map (Tok.shift (a.size + 1))).length = l.length - 1 + m.length := by simp
      rw [hlen] at hn3 l3 c3
      subst hn3
      have HT1 : Hid (TokAt w4 g1 l) := t1
      have HT2 : Hid (TokAt w4 g2 m) := t2
      have HT3 : Hid (TokAt w4 g3 (l.dropLast ++ m.map (Tok.shift (a.size + 1)))) := t3
      have hg1 := t1.1
      have hg2 := t2.1
      have hg3 := t3.1
      unfold maxLen at m1 m2 m3
      have hc1 := lexR_count r1
      have hc2 := lexR_count r2
      have HPS : Hid (∀ t ∈ m, t.pos ≤ b.size) := fun t ht => by have := lexR_pos r2 t ht; rw [len_eq] at this; omega
      rw [len_eq] at hc1 hc2
      clear h1 h2 h3 r1 r2 r3 t1 t2 t3 hlen
      obtain ⟨p, hp⟩ : ∃ p, l.length = p + 1 := ⟨l.length - 1, by omega⟩
      rw [show l.length - 1 = p from by omega] at c3 l3 ⊢
      rw [hp] at c1 ⊢
      rw [hp] at hc1
      have hp5 : p ≤ 500 := by omega
      have hm5 : m.length ≤ 501 := by omega
      clear hc1 hc2
      have hcd := same_sum p m.length
      go_wp2_with fail
      go_loopw [76] (fun i wr => ∃ k : Nat, k ≤ p + m.length ∧ i = .int .i64 k ∧ Hid (Below w4.heap.size w4 wr))
        (fun i _ => p + m.length - (intOf i).toNat)
      case atStart => exact ⟨0, Nat.zero_le _, rfl, Below.refl _ _⟩
      case round =>
        obtain ⟨k, hk, rfl, HB⟩ := hrel
        by_cases hlt : k < p + m.length
        · have T1 := HT1.out.below HB.out
          have T2 := HT2.out.below HB.out
          have T3 := HT3.out.below HB.out
          have hidx : 0 ≤ (k : Int) ∧ (k : Int) < (p : Int) + (m.length : Int) := ⟨by omega, by omega⟩
          have g1l := T1.1
          have g2l := T2.1
          have g3l := T3.1
          by_cases hkp : k < p
          · obtain ⟨t, ht⟩ : ∃ t, l[k]? = some t := ⟨_, List.getElem?_eq_getElem (by omega)⟩
            have ht3 : (l.dropLast ++ m.map (Tok.shift (a.size + 1)))[k]? = some t := by
              rw [List.getElem?_append_left (by simp; omega), List.getElem?_dropLast, if_pos (by omega)]; exact ht
            obtain ⟨x0, x1, x2, x3⟩ := T1.2 k t ht
            obtain ⟨y0, y1, y2, y3⟩ := T3.2 k t ht3
            have e3 : decide ((k : Int) < (p : Int)) = true := by simp; omega
            have hidx2 : 0 ≤ (k : Int) ∧ (k : Int) < (p : Int) + 1 := ⟨by omega, by omega⟩
            have hneq := fun w => tok_neq (t.kind : Int) t.num (t.pos : Int) ⟨t.text.toArray⟩ w
            clear ht ht3 T1 T2 T3
            go_wp2_with fail
            go_roundw
            case rel => exact ⟨k + 1, by omega, by go_num, (HB.out.alloc HB.out.size _).alloc (by have := HB.out.size; simp; omega) _⟩
            case measure => simp [intOf]; omega
          · obtain ⟨j, rfl⟩ : ∃ j, k = p + j := ⟨k - p, by omega⟩
            obtain ⟨t, ht⟩ : ∃ t, m[j]? = some t := ⟨_, List.getElem?_eq_getElem (by omega)⟩
            have ht3 : (l.dropLast ++ m.map (Tok.shift (a.size + 1)))[p + j]? = some (t.shift (a.size + 1)) := by
              rw [List.getElem?_append_right (by simp; omega)]
              have : p + j - l.dropLast.length = j := by simp; omega
              rw [this]; simp [ht]
            obtain ⟨x0, x1, x2, x3⟩ := T2.2 j t ht
            obtain ⟨y0, y1, y2, y3⟩ := T3.2 (p + j) _ ht3
            have hps : t.pos ≤ 500 := Nat.le_trans (HPS.out t (List.mem_of_getElem? ht)) (by omega)
            simp only [Tok.shift] at y0 y1 y2 y3
            have e3 : decide ((p : Int) + (j : Int) < (p : Int)) = false := by simp; omega
            have hjj := back_sum p j
            have hidx2 : 0 ≤ (j : Int) ∧ (j : Int) < (m.length : Int) := ⟨by omega, by omega⟩
            have hneq := fun w => tok_neq (t.kind : Int) t.num ((t.pos : Int) + ((a.size : Int) + 1)) ⟨t.text.toArray⟩ w
            rw [show ((t.pos + (a.size + 1) : Nat) : Int) = (t.pos : Int) + ((a.size : Int) + 1) from by omega] at y3
            clear ht ht3 T1 T2 T3
            go_wp2_with fail
            go_roundw
            case rel => exact ⟨p + j + 1, by omega, by go_num, (HB.out.alloc HB.out.size _).alloc (by have := HB.out.size; simp; omega) _⟩
            case measure => simp [intOf]; omega
        · obtain rfl : k = p + m.length := by omega
          go_wp2
          go_ret
          exact ⟨rfl, HB4.out.trans (HB.out.mono HB4.out.size)⟩
end Go.Proofs.YtebcojkeblpbjaaGreatDoor

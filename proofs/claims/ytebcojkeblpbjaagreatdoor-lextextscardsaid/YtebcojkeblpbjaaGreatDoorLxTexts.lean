/-
  LexTexts: any text of bytes from 32 to 126, and line feeds, in quotes, is that text.
  Conditions: as each theorem says (the library's ErrRange as it is laid).
-/
import Derived.Test.YtebcojkeblpbjaaGreatDoorLxJoins
import Derived.Test.YtebcojkeblpbjaaGreatDoorOpenO
namespace Go.Proofs.YtebcojkeblpbjaaGreatDoor
open Go.ChangeShapes Go.WideShapes Go.ChangeAt Go.RowKit LM
set_option linter.unusedVariables false
/-- What a byte of the law means, and how it stands in quotes. -/
def meant (t : Nat) : UInt8 := if t % 96 = 0 then 10 else UInt8.ofNat (31 + t % 96)
def quoted (t : Nat) : List UInt8 := if t % 96 = 0 then [92, 110] else if t % 96 = 3 ∨ t % 96 = 61 then [92, UInt8.ofNat (31 + t % 96)] else [UInt8.ofNat (31 + t % 96)]
theorem ofNat_toNat {n : Nat} (h : n < 256) : (UInt8.ofNat n).toNat = n := by simp [Nat.mod_eq_of_lt h]
theorem txt_step (t : Nat) (r m : List UInt8) (n : Nat) (h : txt r = some (m, n)) : txt (quoted t ++ r) = some (meant t :: m, n + (quoted t).length) := by
  have hlt : t % 96 < 96 := Nat.mod_lt _ (by decide)
  unfold quoted meant
  by_cases h0 : t % 96 = 0
  · simp only [h0, if_true, List.cons_append, List.nil_append]
    rw [txt_b 110 r rfl, if_neg (by decide), if_pos (by decide), h]
    rfl
  · rw [if_neg h0, if_neg h0]
    have hc := ofNat_toNat (n := 31 + t % 96) (by omega)
    by_cases h1 : t % 96 = 3 ∨ t % 96 = 61
    · rw [if_pos h1]
      simp only [List.cons_append, List.nil_append]
      rw [txt_b _ r rfl, if_pos (by rw [hc]; omega), h]
      rfl
    · rw [if_neg h1]
      simp only [List.cons_append, List.nil_append]
      rw [txt_o _ (by rw [hc]; omega) (by rw [hc]; omega), if_neg (by rw [hc]; omega), h]
      rfl
theorem txt_all : ∀ (l : List Nat), txt (l.flatMap quoted ++ [34]) = some (l.map meant, (l.flatMap quoted).length + 1)
  | [] => rfl
  | t :: l => by
    rw [List.flatMap_cons, List.append_assoc, txt_step t _ _ _ (txt_all l), List.length_append, List.map_cons]
    congr 2
    omega
theorem quoted_le (t : Nat) : (quoted t).length ≤ 2 := by unfold quoted; split; · simp
                                                          · split <;> simp
theorem flat_le : ∀ (l : List Nat), (l.flatMap quoted).length ≤ 2 * l.length
  | [] => by simp
  | t :: l => by rw [List.flatMap_cons, List.length_append, List.length_cons]; have := quoted_le t; have := flat_le l; omega
theorem lex_quoted (l : List Nat) : lexR 0 (34 :: (l.flatMap quoted ++ [34])) = .toks [⟨3, l.map meant, 0, 0⟩, ⟨0, [], 0, (l.flatMap quoted).length + 2⟩] := by
  have hg : gap false (34 :: (l.flatMap quoted ++ [34])) = 0 := gap_other _ (by decide) (by decide)
  have ho : LM.one (34 :: (l.flatMap quoted ++ [34])) = .ok 3 (l.map meant) 0 ((l.flatMap quoted).length + 2) := by
    show one1 34 _ = _
    unfold one1
    rw [if_neg (by decide), if_neg (by decide), if_pos (by decide), txt_all]
  rw [lexR_ok (c := 34) (u := l.flatMap quoted ++ [34]) (by rw [hg]; rfl) ho, hg]
  have hd : (34 :: (l.flatMap quoted ++ [34])).drop ((l.flatMap quoted).length + 2) = [] := List.drop_eq_nil_of_le (by simp)
  rw [hd, lexR_end (s := []) (by simp)]
  simp [Res.cons, gap]
theorem enc_small (n : Nat) (h : n < 128) : Utf8.encode (n : Int) = ⟨#[UInt8.ofNat n]⟩ := by
  have hv : Utf8.valid (n : Int) = true := by unfold Utf8.valid; simp; omega
  unfold Utf8.encode
  simp only [hv, if_true, Int.toNat_natCast, h]
/-- The law's bytes, as numbers. -/
def nats (l : List Int) : List Nat := l.map Int.toNat
theorem nats_snoc {l : List Int} {k t : Nat} (h : l[k]? = some (t : Int)) : nats (l.take (k + 1)) = nats (l.take k) ++ [t] := by
  unfold nats
  rw [List.take_add_one, h]; simp
set_option maxRecDepth 100000 in
set_option maxHeartbeats 2000000 in
theorem texts5_any {v : Value} {l : List Int} {w : World} (hv : BRow w v l) (hL : Lv w) : Calls Tryz.prog 5 #[v] w fun e w' => e = .returned (.bool true) ∧ Below w.heap.size w w' := by
  obtain ⟨ra, rcap, rfl, hc1, hc2, hx, hg⟩ := hv
  unfold maxLen at hc2
  have HX : Hid (∀ x ∈ l, 0 ≤ x ∧ x ≤ 255) := hx
  have HG : Hid (l ≠ [] → ∃ g off, ra = some ⟨g, off, none⟩ ∧ g < w.heap.size ∧ ∀ j x, l[j]? = some x → w.cell? ⟨g, off + j, none⟩ = some (.int .u8 x)) := hg
  have HL : Hid (Lv w) := hL
  clear hL hx hg
  go_enter Tryz.func5, Tryz.ntmps5
  go_wp2_with fail
  refine (awake5 _ HL.out).mono ?_
  rintro e w1 ⟨rfl, b1⟩
  have HB1 : Hid (Below w.heap.size w w1) := b1
  have HL1 : Hid (Lv w1) := HL.out.below b1
  clear b1 HL
  by_cases hlong : 200 < l.length
  · have e1 : decide ((200 : Int) < (l.length : Int)) = true := by simp; omega
    go_wp2
    go_ret
    exact ⟨rfl, HB1.out⟩
  have e1 : decide ((200 : Int) < (l.length : Int)) = false := by simp; omega
  go_wp2_with fail
  go_loopw [17, 3, 4] (fun i vx vy wr => ∃ (k : Nat) (x y : ByteArray), k ≤ l.length ∧ i = .int .i64 k ∧ vx = .string x ∧ vy = .string y ∧ x.size ≤ k ∧ y.size ≤ 1 + 2 * k ∧ Hid (x.data.toList = (nats (l.take k)).map meant) ∧ Hid (y.data.toList = 34 :: (nats (l.take k)).flatMap quoted) ∧ Hid (Below w1.heap.size w1 wr))
    (fun i _ _ _ => l.length - (intOf i).toNat)
  case atStart => exact ⟨0, ⟨#[]⟩, ⟨#[34]⟩, Nat.zero_le _, rfl, rfl, rfl, Nat.le_refl _, Nat.le_refl _, rfl, rfl, Below.refl _ _⟩
  case round =>
    obtain ⟨k, x, y, hk, rfl, rfl, rfl, hxs, hys, HXX, HYY, HB⟩ := hrel
    by_cases hlt : k < l.length
    · obtain ⟨xx, hxx⟩ : ∃ x, l[k]? = some x := ⟨_, List.getElem?_eq_getElem hlt⟩
      have hxr := HX.out xx (List.mem_of_getElem? hxx)
      obtain ⟨t, rfl⟩ : ∃ t : Nat, xx = (t : Int) := ⟨xx.toNat, by omega⟩
      obtain ⟨g, off, hga, hgl, hgc⟩ := HG.out (by rintro e; rw [e] at hlt; simp at hlt)
      subst hga
      have q0 := (HB.out.cell (p := ⟨g, off + k, none⟩) (Nat.lt_of_lt_of_le hgl HB1.out.size)).trans ((HB1.out.cell (p := ⟨g, off + k, none⟩) hgl).trans (hgc k _ hxx))
      have hidx : 0 ≤ (k : Int) ∧ (k : Int) < (l.length : Int) := ⟨by omega, by omega⟩
      have HS := nats_snoc hxx
      have HSM : Hid ((nats (l.take (k + 1))).map meant = (nats (l.take k)).map meant ++ [meant t]) := by show _ = _; rw [HS]; simp
      have HSQ : Hid ((nats (l.take (k + 1))).flatMap quoted = (nats (l.take k)).flatMap quoted ++ quoted t) := by show _ = _; rw [HS]; simp
      have hq96 : t % 96 < 96 := Nat.mod_lt _ (by decide)
      have htm : ((t : Int)).tmod 96 = ((t % 96 : Nat) : Int) := by rw [Int.tmod_eq_emod_of_nonneg (by omega)]; omega
      have hmm : (t : Int) % 96 = ((t % 96 : Nat) : Int) := by omega
      have HME : Hid (meant t = if t % 96 = 0 then 10 else UInt8.ofNat (31 + t % 96)) := rfl
      have HQU : Hid (quoted t = if t % 96 = 0 then [92, 110] else if t % 96 = 3 ∨ t % 96 = 61 then [92, UInt8.ofNat (31 + t % 96)] else [UInt8.ofNat (31 + t % 96)]) := rfl
      have henc := enc_small (31 + t % 96) (by omega)
      generalize hqq : t % 96 = q at *
      rw [show ((31 + q : Nat) : Int) = 31 + (q : Int) from by omega] at henc
      clear hxx hgc HS hqq
      generalize UInt8.ofNat (31 + q) = C at henc HME HQU
      by_cases h0 : q = 0
      · subst h0
        have HM : meant t = 10 := by rw [HME.out]; rfl
        have HQ : quoted t = [92, 110] := by rw [HQU.out]; rfl
        go_wp2_with fail
        exact ⟨⟨k + 1, x ++ ⟨#[10]⟩, y ++ ⟨#[92, 110]⟩, by omega, by go_num, rfl, rfl, by rw [app_size]; show x.size + 1 ≤ k + 1; omega, by rw [app_size]; show y.size + 2 ≤ 1 + 2 * (k + 1); omega, by show _ = _; rw [app_toList, HSM.out, HXX.out, HM], by show _ = _; rw [app_toList, HSQ.out, HYY.out, HQ]; simp, HB⟩, by simp [intOf]; omega⟩
      · have n1 : (31 + (q : Int) == 31) = false := by rw [beq_eq_false_iff_ne]; omega
        have HM : meant t = C := by rw [HME.out, if_neg h0]
        by_cases h3 : q = 3
        · have HQ : quoted t = [92, C] := by rw [HQU.out, if_neg h0, if_pos (.inl h3)]
          have n2 : (31 + (q : Int) == 34) = true := by rw [h3]; rfl
          clear h3
          go_wp2_with fail
          exact ⟨⟨k + 1, x ++ ⟨#[C]⟩, y ++ ⟨#[92]⟩ ++ ⟨#[C]⟩, by omega, by go_num, rfl, rfl, by rw [app_size]; show x.size + 1 ≤ k + 1; omega, by rw [app_size, app_size]; show y.size + 1 + 1 ≤ 1 + 2 * (k + 1); omega, by show _ = _; rw [app_toList, HSM.out, HXX.out, HM], by show _ = _; rw [app_toList, app_toList, HSQ.out, HYY.out, HQ]; simp, HB⟩, by simp [intOf]; omega⟩
        · have n2 : (31 + (q : Int) == 34) = false := by rw [beq_eq_false_iff_ne]; omega
          by_cases h61 : q = 61
          · have HQ : quoted t = [92, C] := by rw [HQU.out, if_neg h0, if_pos (.inr h61)]
            have n3 : (31 + (q : Int) == 92) = true := by rw [h61]; rfl
            clear h61
            go_wp2_with fail
            exact ⟨⟨k + 1, x ++ ⟨#[C]⟩, y ++ ⟨#[92]⟩ ++ ⟨#[C]⟩, by omega, by go_num, rfl, rfl, by rw [app_size]; show x.size + 1 ≤ k + 1; omega, by rw [app_size, app_size]; show y.size + 1 + 1 ≤ 1 + 2 * (k + 1); omega, by show _ = _; rw [app_toList, HSM.out, HXX.out, HM], by show _ = _; rw [app_toList, app_toList, HSQ.out, HYY.out, HQ]; simp, HB⟩, by simp [intOf]; omega⟩
          · have HQ : quoted t = [C] := by rw [HQU.out, if_neg h0, if_neg (by omega)]
            have n3 : (31 + (q : Int) == 92) = false := by rw [beq_eq_false_iff_ne]; omega
            go_wp2_with fail
            exact ⟨⟨k + 1, x ++ ⟨#[C]⟩, y ++ ⟨#[C]⟩, by omega, by go_num, rfl, rfl, by rw [app_size]; show x.size + 1 ≤ k + 1; omega, by rw [app_size]; show y.size + 1 ≤ 1 + 2 * (k + 1); omega, by show _ = _; rw [app_toList, HSM.out, HXX.out, HM], by show _ = _; rw [app_toList, HSQ.out, HYY.out, HQ]; simp, HB⟩, by simp [intOf]; omega⟩
    · obtain rfl : k = l.length := by omega
      have HLW : Hid (Lv wr) := HL1.out.below HB.out
      have HBW : Hid (Below w.heap.size w wr) := HB1.out.trans (HB.out.mono HB1.out.size)
      have hxe : x = ⟨((nats l).map meant).toArray⟩ := by
        cases x with
        | mk d =>
          have := HXX.out
          rw [List.take_length] at this
          rw [← this]
      have HYL : Hid ((y ++ ⟨#[34]⟩).data.toList = 34 :: ((nats l).flatMap quoted ++ [34])) := by
        show _ = _
        rw [app_toList, HYY.out, List.take_length]
        simp
      have hsz : (y ++ ⟨#[34]⟩).size ≤ 8192 := by rw [app_size]; show y.size + 1 ≤ 8192; omega
      subst hxe
      clear HXX HYY HX HG
      go_wp2_with fail
      refine (split_sp _ hsz _ HLW.out).mono ?_
      rintro e w3 h
      rw [HYL.out, lex_quoted] at h
      generalize (nats l).map meant = M at *
      generalize hl2 : ([⟨3, M, 0, 0⟩, ⟨0, [], 0, ((nats l).flatMap quoted).length + 2⟩] : List Tok) = l2 at h
      cases h with
      | toks _ g cap hl0 hc hm hg ht hb =>
        have hlen : l2.length = 2 := by rw [← hl2]; rfl
        obtain ⟨q0, q1, q2, q3⟩ := ht.2 0 ⟨3, M, 0, 0⟩ (by rw [← hl2]; rfl)
        have hgl := ht.1
        have HB3 : Hid (Below w.heap.size w w3) := HBW.out.trans (hb.mono HBW.out.size)
        have heq := fun w => tok_eql 3 0 0 ⟨M.toArray⟩ w
        unfold maxLen at hm
        rw [hlen] at hc ⊢
        clear ht hb hl2 hlen hl0
        simp only [Nat.zero_mul, Nat.zero_add] at q0 q1 q2 q3
        go_wp2
        go_ret
        exact ⟨rfl, HB3.out⟩
end Go.Proofs.YtebcojkeblpbjaaGreatDoor

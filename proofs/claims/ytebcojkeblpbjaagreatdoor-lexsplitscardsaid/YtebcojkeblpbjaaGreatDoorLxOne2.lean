/-
  The laws' one of layer 5 at digits and words: a text's first token.
  Conditions: as each theorem says.
-/
import Derived.Test.YtebcojkeblpbjaaGreatDoorLxOne1
namespace Go.Proofs.YtebcojkeblpbjaaGreatDoor
open Go.ChangeShapes Go.WideShapes Go.ChangeAt Go.RowKit LM
set_option linter.unusedVariables false
theorem numOf_snoc (l : List UInt8) (c : UInt8) : LM.numOf (l ++ [c]) = 10 * LM.numOf l + (c.toNat - 48) := by simp [LM.numOf]
theorem numOf_app (l m : List UInt8) : LM.numOf (l ++ m) = numFrom (LM.numOf l) m := by unfold LM.numOf numFrom; rw [List.foldl_append]
theorem num_more {X : List UInt8} {k : Nat} (h : k < X.length) : 10 * LM.numOf (X.take k) ≤ LM.numOf X := by
  obtain ⟨d, hd⟩ : ∃ d, X[k]? = some d := ⟨_, List.getElem?_eq_getElem h⟩
  have e : X = X.take (k + 1) ++ X.drop (k + 1) := (List.take_append_drop _ _).symm
  have h1 : LM.numOf (X.take (k + 1)) = 10 * LM.numOf (X.take k) + (d.toNat - 48) := by rw [List.take_add_one, hd]; exact numOf_snoc _ _
  have h2 := numFrom_ge (X.drop (k + 1)) (LM.numOf (X.take (k + 1)))
  rw [← numOf_app, ← e] at h2
  omega
theorem conv_i64 {u : Nat} (h : u ≤ 9223372036854775807) : IntKind.i64.wrap (u : Int) = (u : Int) := by simp [IntKind.wrap, IntKind.bits, IntKind.signed]; omega
theorem mul_u64 {x d : Nat} (hx : x ≤ 922337203685477580) (hd : d ≤ 9) : (10 * (x : Int)) % 18446744073709551616 = 10 * (x : Int) ∧ (10 * (x : Int) + (d : Int)) % 18446744073709551616 = 10 * (x : Int) + (d : Int) := by omega
theorem sub_u8 {c : Nat} (h1 : 48 ≤ c) (h2 : c ≤ 57) : ((c : Int) - 48) % 256 = ((c - 48 : Nat) : Int) := by omega
set_option maxRecDepth 100000 in
set_option maxHeartbeats 2000000 in
theorem one5_num (s : ByteArray) {c : UInt8} {t : List UInt8} (hS : s.data.toList = c :: t) (hd : isDig c = true) (hs : s.size ≤ 100000) (w : World) :
    Calls Tryz.prog 19 #[.string s] w fun e w' => e = .returned (numV (c :: t)) ∧ Below w.heap.size w w' := by
  obtain ⟨hl0, e0⟩ := toList_head s hS
  have hc : c.toNat < 256 := c.toNat_lt
  have hrle := runOf_le isDig (c :: t)
  have hr1 : 0 < runOf isDig (c :: t) := by simp [runOf, hd]
  have hall := runOf_all (p := isDig) (c :: t)
  have hsz : (c :: t).length = s.size := by rw [← hS, len_eq]
  have HAM : Hid (∀ w, Calls Tryz.prog 41 #[.string s, .string ⟨#[48, 49, 50, 51, 52, 53, 54, 55, 56, 57]⟩] w fun e w' => e = .returned (.int .i64 (runOf isDig (c :: t) : Nat)) ∧ w' = w) := fun w => by
    have := among_any #[48, 49, 50, 51, 52, 53, 54, 55, 56, 57] has_dig s hs w
    rw [hS] at this
    exact this
  have HV : Hid (numV (c :: t) = if 1 < runOf isDig (c :: t) ∧ c.toNat = 48 then ansV 0 [] 0 0 6 else if LM.numOf ((c :: t).take (runOf isDig (c :: t))) ≤ 9223372036854775807 then ansV 2 ((c :: t).take (runOf isDig (c :: t))) (LM.numOf ((c :: t).take (runOf isDig (c :: t))) : Int) (runOf isDig (c :: t)) 0 else ansV 0 [] 0 0 6) := by
    show _ = _
    unfold numV
    simp
  generalize hn : runOf isDig (c :: t) = n at *
  have hx := ext_to s n
  rw [hS] at hx
  have hxl : ((c :: t).take n).length = n := by rw [List.length_take]; omega
  have hgetX : ∀ k, k < n → ((c :: t).take n)[k]? = (c :: t)[k]? := fun k hk => by rw [List.getElem?_take, if_pos hk]
  rw [hsz] at hrle
  have HGX : Hid (∀ k, k < n → ∀ hks : k < s.size, ((c :: t).take n)[k]? = some (s[k]'hks)) := fun k hk hks => by rw [hgetX k hk, ← hS]; exact byte_at s k hks
  generalize hX : (c :: t).take n = X at *
  have HALL : Hid (∀ x ∈ X, isDig x = true) := hall
  generalize numV (c :: t) = V at HV ⊢
  clear hS hall hn hX hsz hgetX
  have hb1 : Below w.heap.size w (w.alloc (.cells #[.int .i64 0, .string { data := #[] }, .int .i64 0, .int .i64 0] 30)) := (Below.refl _ w).alloc (Nat.le_refl _) _
  have hk1 : (w.alloc (.cells #[.int .i64 0, .string { data := #[] }, .int .i64 0, .int .i64 0] 30)).heap[w.heap.size]? = some (.cells #[.int .i64 0, .string { data := #[] }, .int .i64 0, .int .i64 0] 30 (0, 0)) := heap_alloc_new w _
  go_enter Tryz.func19, Tryz.ntmps19
  go_wp2_with fail
  refine (HAM.out _).mono ?_
  rintro e w1 ⟨rfl, hw1⟩
  rw [← hw1] at hb1 hk1
  have HB1 : Hid (Below w.heap.size w w1) := hb1
  have HK1 : Hid (w1.heap[w.heap.size]? = some (.cells #[.int .i64 0, .string { data := #[] }, .int .i64 0, .int .i64 0] 30 (0, 0))) := hk1
  obtain ⟨z0, z1, z2, z3, zf⟩ := four hk1
  have hbl : w.heap.size < w1.heap.size := lt_of_block hk1
  have hgt : decide ((0 : Int) < (n : Int)) = true := by simp; omega
  clear hw1 hb1 hk1 HAM
  go_wp2_with fail
  go_loopw [20, 6] (fun i v wr => ∃ k : Nat, k ≤ n ∧ i = .int .i64 k ∧ v = .int .u64 (LM.numOf (X.take k) : Int) ∧ LM.numOf (X.take k) ≤ 9223372036854775809 ∧ wr = w1)
    (fun i _ _ => n - (intOf i).toNat)
  case atStart => exact ⟨0, Nat.zero_le _, rfl, by simp [LM.numOf], by simp [LM.numOf], rfl⟩
  case round =>
    obtain ⟨k, hk, rfl, rfl, hle, rfl⟩ := hrel
    by_cases hlt : k < n
    · have hks : k < s.size := by omega
      have hg := HGX.out k hlt hks
      have hdk := dig_range (HALL.out _ (List.mem_of_getElem? hg))
      have HNX : Hid (LM.numOf (X.take (k + 1)) = 10 * LM.numOf (X.take k) + ((s[k]'hks).toNat - 48)) := by show _ = _; rw [List.take_add_one, hg]; exact numOf_snoc _ _
      have hmore : 10 * LM.numOf (X.take k) ≤ LM.numOf X := num_more (by omega)
      have hidx : 0 ≤ (k : Int) ∧ (k : Int) < (s.size : Int) := ⟨by omega, by omega⟩
      obtain ⟨D, hD⟩ : ∃ D : Nat, D = (s[k]'hks).toNat := ⟨_, rfl⟩
      have hsk : (s[k]'hks).toNat = D := hD.symm
      rw [hsk] at hdk HNX
      generalize hy : LM.numOf (X.take k) = y at *
      clear hg hy hD
      by_cases hbig : 922337203685477580 < y
      · have e3 : decide ((922337203685477580 : Int) < (y : Int)) = true := by simp; omega
        go_wp2
        obtain ⟨d0, d1, d2, d3, _⟩ := four (four_set HK1.out (.int .i64 0) (.string { data := #[] }) (.int .i64 0) (.int .i64 0))
        refine bodyPost_ret (v := ansV 0 [] 0 0 6) (by simp [results, Tryz.results19, go_sem, ansV, tokV, d0, d1, d2, d3]) rfl ⟨?_, ?_⟩
        · by_cases hA : 1 < n ∧ c.toNat = 48
          · rw [HV.out, if_pos hA]
          · rw [HV.out, if_neg hA, if_neg (by omega)]
        · exact (((HB1.out.setCell (p := ⟨w.heap.size, 0, none⟩) (Nat.le_refl _) _).setCell (p := ⟨w.heap.size, 1, none⟩) (Nat.le_refl _) _).setCell (p := ⟨w.heap.size, 2, none⟩) (Nat.le_refl _) _).setCell (p := ⟨w.heap.size, 3, none⟩) (Nat.le_refl _) _
      · have e3 : decide ((922337203685477580 : Int) < (y : Int)) = false := by simp; omega
        have hm := mul_u64 (x := y) (d := D - 48) (by omega) (by omega)
        have hs8 := sub_u8 hdk.1 hdk.2
        go_wp2_with fail
        go_roundw
        case rel => exact ⟨k + 1, by omega, by go_num, by rw [HNX.out]; go_num, by rw [HNX.out]; omega, trivial⟩
        case measure => simp [intOf]; omega
    · obtain rfl : k = n := by omega
      have hxx : X.take k = X := by rw [← hxl]; exact List.take_length
      rw [hxx] at hle ⊢
      generalize LM.numOf X = y at *
      by_cases hbig : 9223372036854775807 < y
      · have e3 : decide ((9223372036854775807 : Int) < (y : Int)) = true := by simp; omega
        have HR : Hid ((if 1 < k ∧ c.toNat = 48 then ansV 0 [] 0 0 6 else if y ≤ 9223372036854775807 then ansV 2 X (y : Int) k 0 else ansV 0 [] 0 0 6) = ansV 0 [] 0 0 6) := by
          show _ = _
          by_cases hA : 1 < k ∧ c.toNat = 48
          · rw [if_pos hA]
          · rw [if_neg hA, if_neg (by omega)]
        go_wp2
        obtain ⟨d0, d1, d2, d3, _⟩ := four (four_set HK1.out (.int .i64 0) (.string { data := #[] }) (.int .i64 0) (.int .i64 0))
        exact bodyPost_ret (v := ansV 0 [] 0 0 6) (by simp [results, Tryz.results19, go_sem, ansV, tokV, d0, d1, d2, d3]) rfl ⟨by rw [HV.out, HR.out], (((HB1.out.setCell (p := ⟨w.heap.size, 0, none⟩) (Nat.le_refl _) _).setCell (p := ⟨w.heap.size, 1, none⟩) (Nat.le_refl _) _).setCell (p := ⟨w.heap.size, 2, none⟩) (Nat.le_refl _) _).setCell (p := ⟨w.heap.size, 3, none⟩) (Nat.le_refl _) _⟩
      · have e3 : decide ((9223372036854775807 : Int) < (y : Int)) = false := by simp; omega
        by_cases h1 : 1 < k
        · have e4 : decide ((1 : Int) < (k : Int)) = true := by simp; omega
          by_cases h48 : c.toNat = 48
          · have e5 : ((c.toNat : Int) == 48) = true := by rw [h48]; rfl
            have HR : Hid ((if 1 < k ∧ c.toNat = 48 then ansV 0 [] 0 0 6 else if y ≤ 9223372036854775807 then ansV 2 X (y : Int) k 0 else ansV 0 [] 0 0 6) = ansV 0 [] 0 0 6) := by show _ = _; rw [if_pos ⟨h1, h48⟩]
            clear h48
            go_wp2
            obtain ⟨d0, d1, d2, d3, _⟩ := four (four_set HK1.out (.int .i64 0) (.string { data := #[] }) (.int .i64 0) (.int .i64 0))
            exact bodyPost_ret (v := ansV 0 [] 0 0 6) (by simp [results, Tryz.results19, go_sem, ansV, tokV, d0, d1, d2, d3]) rfl ⟨by rw [HV.out, HR.out], (((HB1.out.setCell (p := ⟨w.heap.size, 0, none⟩) (Nat.le_refl _) _).setCell (p := ⟨w.heap.size, 1, none⟩) (Nat.le_refl _) _).setCell (p := ⟨w.heap.size, 2, none⟩) (Nat.le_refl _) _).setCell (p := ⟨w.heap.size, 3, none⟩) (Nat.le_refl _) _⟩
          · have e5 : ((c.toNat : Int) == 48) = false := by rw [beq_eq_false_iff_ne]; omega
            have hcv := conv_i64 (u := y) (by omega)
            go_wp2
            obtain ⟨d0, d1, d2, d3, _⟩ := four (four_set HK1.out (.int .i64 2) (.string { data := X.toArray }) (.int .i64 (y : Int)) (.int .i64 0))
            exact bodyPost_ret (v := ansV 2 X (y : Int) k 0) (by simp [results, Tryz.results19, go_sem, ansV, tokV, d0, d1, d2, d3]) rfl ⟨by rw [HV.out, if_neg (by omega), if_pos (by omega)], (((HB1.out.setCell (p := ⟨w.heap.size, 0, none⟩) (Nat.le_refl _) _).setCell (p := ⟨w.heap.size, 1, none⟩) (Nat.le_refl _) _).setCell (p := ⟨w.heap.size, 2, none⟩) (Nat.le_refl _) _).setCell (p := ⟨w.heap.size, 3, none⟩) (Nat.le_refl _) _⟩
        · have e4 : decide ((1 : Int) < (k : Int)) = false := by simp; omega
          have hcv := conv_i64 (u := y) (by omega)
          go_wp2
          obtain ⟨d0, d1, d2, d3, _⟩ := four (four_set HK1.out (.int .i64 2) (.string { data := X.toArray }) (.int .i64 (y : Int)) (.int .i64 0))
          exact bodyPost_ret (v := ansV 2 X (y : Int) k 0) (by simp [results, Tryz.results19, go_sem, ansV, tokV, d0, d1, d2, d3]) rfl ⟨by rw [HV.out, if_neg (by omega), if_pos (by omega)], (((HB1.out.setCell (p := ⟨w.heap.size, 0, none⟩) (Nat.le_refl _) _).setCell (p := ⟨w.heap.size, 1, none⟩) (Nat.le_refl _) _).setCell (p := ⟨w.heap.size, 2, none⟩) (Nat.le_refl _) _).setCell (p := ⟨w.heap.size, 3, none⟩) (Nat.le_refl _) _⟩
set_option maxRecDepth 100000 in
set_option maxHeartbeats 2000000 in
theorem one5_wrd (s : ByteArray) {c : UInt8} {t : List UInt8} (hS : s.data.toList = c :: t) (hd : isDig c = false) (hw : isWrd c = true) (hs : s.size ≤ 100000) (w : World) :
    Calls Tryz.prog 19 #[.string s] w fun e w' => e = .returned (ansV 1 ((c :: t).take (runOf isWrd (c :: t))) 0 (runOf isWrd (c :: t)) 0) ∧ Below w.heap.size w w' := by
  have HAM : Hid (∀ w, Calls Tryz.prog 41 #[.string s, .string ⟨#[48, 49, 50, 51, 52, 53, 54, 55, 56, 57]⟩] w fun e w' => e = .returned (.int .i64 0) ∧ w' = w) := fun w => by
    have := among_any #[48, 49, 50, 51, 52, 53, 54, 55, 56, 57] has_dig s hs w
    rw [hS, show runOf isDig (c :: t) = 0 from by simp [runOf, hd]] at this
    exact this
  have HAW : Hid (∀ w, Calls Tryz.prog 41 #[.string s, .string ⟨wordSigns.toArray⟩] w fun e w' => e = .returned (.int .i64 (runOf isWrd (c :: t) : Nat)) ∧ w' = w) := fun w => by
    have := among_any wordSigns.toArray (by simpa using has_wrd) s hs w
    rw [hS] at this
    exact this
  have hr1 : 0 < runOf isWrd (c :: t) := by simp [runOf, hw]
  have hrle := runOf_le isWrd (c :: t)
  rw [show (c :: t).length = s.size from by rw [← hS, len_eq]] at hrle
  generalize runOf isWrd (c :: t) = n at *
  have hx := ext_to s n
  rw [hS] at hx
  generalize (c :: t).take n = X at *
  have hgt : decide ((0 : Int) < (n : Int)) = true := by simp; omega
  rw [ansV_eq]
  clear hS
  unfold wordSigns at HAW
  go_enter Tryz.func19, Tryz.ntmps19
  go_wp2_with fail
  refine (HAM.out _).mono ?_
  rintro e w1 ⟨rfl, rfl⟩
  go_wp2_with fail
  refine (HAW.out _).mono ?_
  rintro e w1 ⟨rfl, rfl⟩
  go_wp2
  exact bodyPost_ret (v := .tuple #[.agg #[.int .i64 1, .string ⟨X.toArray⟩, .int .i64 0, .int .i64 0], .int .i64 (n : Int), .int .i64 0]) (by simp [results, Tryz.results19, go_sem]) rfl ⟨rfl, (Below.refl _ w).alloc (Nat.le_refl _) _⟩
end Go.Proofs.YtebcojkeblpbjaaGreatDoor

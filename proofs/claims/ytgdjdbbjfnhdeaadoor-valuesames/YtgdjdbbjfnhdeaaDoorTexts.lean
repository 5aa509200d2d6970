/-
  Contracts of strconv.FormatUint and of value.String: what each returns (a number's digits, a text in quotes as strconv.Quote has it, a word, what 'tell' tells of an object's Ref), and that nothing that was there before turns.
  Conditions: the library's tables as their initialisers lay them (Tabs); as each theorem says.
-/
import Derived.Test.YtgdjdbbjfnhdeaaDoorBase
import Derived.Test.YtgdjdbbjfnhdeaaDoorShelf
import Derived.Lib.Walk
import Derived.Lib.ItoaMem
import Derived.BigCall
import Derived.BigGuard
import Derived.Lib.PrintData
namespace Go.Proofs.YtgdjdbbjfnhdeaaDoor
open Go.Shelf Go.RowKit Go.Sort Go.Lib
set_option linter.unusedVariables false
theorem below_grow (w : World) (k : Nat) (os : Array Obj) : Below w.heap.size w (grow (w.drewN k) os) := by
  refine ⟨rfl, rfl, rfl, ?_, ?_⟩
  · show w.heap.size ≤ (grow (w.drewN k) os).heap.size
    simp [grow]
  · intro b hb
    simp [grow, Array.getElem?_append_left hb]
theorem holds_zero0 (w : World) (T : TypeId) (nd : Nat) (hs : nd ≤ 24) : Holds (fun (b : UInt8) => Value.int .u8 (b.toNat : Int)) (w.alloc (.cells zeros24 T)) w.heap.size 0 (Array.replicate nd (0 : UInt8)) := fun j hj => by
  have hj' : j < nd := by simpa using hj
  refine ⟨?_, World.frozen?_alloc_new _ _ _ _⟩
  rw [World.cell?_alloc_new, zeros24_at _ (by omega), getElem!_pos _ j hj]
  simp
theorem fin0 (w : World) (o : Obj) (dk : Array UInt8) (k : Nat) : ∃ os, (putRow (fun (b : UInt8) => Value.int .u8 (b.toNat : Int)) (w.alloc o) w.heap.size 0 dk).drewN k = grow (w.drewN k) os := by
  rw [alloc_eq_grow]
  obtain ⟨os', _, e⟩ := putRow_grow_new (fun (b : UInt8) => Value.int .u8 (b.toNat : Int)) w #[o] w.heap.size 0 dk (Nat.le_refl _)
  exact ⟨os', by rw [e]; rfl⟩
set_option maxHeartbeats 6400000 in
set_option maxRecDepth 100000 in
theorem fmtU_in (u : Nat) (hu64 : u < 18446744073709551616) (w : World)
    (htab : Lib.TabIs Tryd.prog w "internal/strconv.uint64pow10" .u64 Lib.pow10Tab) :
    Calls Tryd.prog 17 #[.int .u64 u, .int .i64 10] w fun e w' => e = .returned (.string ⟨(Lib.decDigits u).toArray⟩) ∧ ∃ k os, w' = grow (w.drewN k) os := by
  by_cases hi : u < 100
  · go_enter Tryd.func17, Tryd.ntmps17
    go_wp2_with (go_at_call 24; refine (Tryd.internal_strconv_small u hi _).mono ?_; rintro e w' ⟨rfl, rfl⟩)
    go_ret
    exact ⟨rfl, 0, #[], by simp [World.drewN_zero]⟩
  · have hu1 : 1 ≤ u := by omega
    have hnd20 : Lib.nDigits u ≤ 20 := by have := Lib.numDigits_eq u hu1 hu64; split at this <;> omega
    have hal : Tryd.prog.arrayLen 47 = 24 := by simp [Program.arrayLen, Tryd.underlying47]
    have hsl1 : ∀ W, (Instr.sliceAt 47 (.pointer (some ⟨w.heap.size, 0, none⟩)) none (some (.int .i64 (Lib.nDigits u : Int))) none).run Tryd.prog W = .ok (.slice (some ⟨w.heap.size, 0, none⟩) (Lib.nDigits u) 24) W := fun W => by
      rw [run_sliceAt_array_h W 47 ⟨w.heap.size, 0, none⟩ (by simp [Program.arrayLen, Program.elem, Tryd.underlying47]) .i64 (Lib.nDigits u : Int) (by omega) (by rw [hal]; omega)]
      go_simp
    have hH0 := holds_zero0 w 47 (Lib.nDigits u) (by omega)
    have hfmt := Tryd.internal_strconv_formatBase10 w.heap.size 0 24 u (Array.replicate (Lib.nDigits u) 0) (w.alloc (.cells Lib.zeros24 47)) hH0 (by rw [Array.size_replicate]; exact Lib.lt_pow_nDigits u) hu64 (by rw [Array.size_replicate]; omega)
    rw [Array.size_replicate] at hfmt
    have HH0 := Lib.hid hH0
    clear hH0 hal
    go_enter Tryd.func17, Tryd.ntmps17
    go_wp2_with (first
      | (go_at_call 25; refine (Tryd.internal_strconv_numDigits u hu1 hu64 _ (Lib.tabIs_alloc htab _)).mono ?_; rintro e w' ⟨rfl, rfl⟩))
    refine hfmt.mono ?_
    rintro e w' ⟨rfl, k, v', dk, rfl, hF⟩
    have hcv : (convert 50 9 (.slice (some ⟨w.heap.size, 0, none⟩) (Lib.nDigits u) 24)).run Tryd.prog ((putRow (fun (b : UInt8) => Value.int .u8 (b.toNat : Int)) (w.alloc (.cells Lib.zeros24 47)) w.heap.size 0 dk).drewN k) = .ok (.string ⟨(Lib.decDigits u).toArray⟩) ((putRow (fun (b : UInt8) => Value.int .u8 (b.toNat : Int)) (w.alloc (.cells Lib.zeros24 47)) w.heap.size 0 dk).drewN k) := by
      have h := run_convert_bytes_back (P := Tryd.prog) ((putRow (fun (b : UInt8) => Value.int .u8 (b.toNat : Int)) (w.alloc (.cells Lib.zeros24 47)) w.heap.size 0 dk).drewN k) 50 9 5 ⟨w.heap.size, 0, none⟩ 24 (Lib.decDigits u) Tryd.underlying50 Tryd.underlying5 Tryd.underlying9 (fun j hj => by
        rw [Lib.row_is_numeral hF j hj, Lib.add_plain, World.cell?_drewN]
        exact cell?_putRow (fun (b : UInt8) => Value.int .u8 (b.toNat : Int)) _ w.heap.size 0 _ dk HH0.out (by rw [hF.size, Array.size_replicate]) j (by rw [hF.size]; rw [Lib.decDigits_length] at hj; exact hj))
      rw [Lib.decDigits_length] at h
      exact h
    go_wp2
    go_ret
    obtain ⟨os, eo⟩ := fin0 w (.cells Lib.zeros24 47) dk k
    exact ⟨rfl, k, os, eo⟩
theorem fmtU (u : Nat) (hu64 : u < 18446744073709551616) (w : World)
    (htab : Lib.TabIs Tryd.prog w "internal/strconv.uint64pow10" .u64 Lib.pow10Tab) :
    Calls Tryd.prog 7 #[.int .u64 u, .int .i64 10] w fun e w' => e = .returned (.string ⟨(Lib.decDigits u).toArray⟩) ∧ Below w.heap.size w w' := by
  go_enter Tryd.func7, Tryd.ntmps7
  go_wp2_with (go_at_call 17; refine (fmtU_in u hu64 _ htab).mono ?_; rintro e w' ⟨rfl, k, os, rfl⟩)
  go_ret
  exact ⟨rfl, below_grow _ _ _⟩
/-- The library's tables, as their initialisers lay them. -/
structure Tabs (w : World) : Prop where
  print : Lib.PrintTabsAt 5 6 7 8 Lib.goPrintTabs w
  utf8 : Lib.Utf8Tabs 3 4 w
  pow : Lib.TabIs Tryd.prog w "internal/strconv.uint64pow10" .u64 Lib.pow10Tab
theorem tabIs_below {P : Program} {w w' : World} {name : String} {k : IntKind} {zs : List Int} (h : Lib.TabIs P w name k zs) (hb : Below w.heap.size w w') : Lib.TabIs P w' name k zs := by
  unfold Lib.TabIs World.var? at *
  cases hg : P.globalNamed name with
  | none => rw [hg] at h; simp at h
  | some g =>
    rw [hg] at h
    show (match w'.heap[g]? with | some (.cells cs _ _) => some cs | _ => none) = _
    change (match w.heap[g]? with | some (.cells cs _ _) => some cs | _ => none) = _ at h
    have hlt : g < w.heap.size := by
      by_cases hlt : g < w.heap.size
      · exact hlt
      · rw [Array.getElem?_eq_none (by omega)] at h; simp at h
    rw [hb.block g hlt]
    exact h
theorem utf8Tabs_below {g h : Nat} {w w' : World} (k : Lib.Utf8Tabs g h w) (hb : Below w.heap.size w w') : Lib.Utf8Tabs g h w' :=
  ⟨fun c hc => by rw [hb.cell (World.block_lt_of_cell? _ _ (k.1 c hc))]; exact k.1 c hc, fun i hi => ⟨by rw [hb.cell (World.block_lt_of_cell? _ _ (k.2 i hi).1)]; exact (k.2 i hi).1, by rw [hb.cell (World.block_lt_of_cell? _ _ (k.2 i hi).2)]; exact (k.2 i hi).2⟩⟩
theorem digits_le (u : Nat) (h : u < 18446744073709551616) : (Lib.decDigits u).length ≤ 20 := by
  rw [Lib.decDigits_length]
  by_cases h0 : u = 0
  · subst h0; rw [Lib.nDigits]; decide
  · have := Lib.numDigits_eq u (by omega) h
    split at this <;> omega
theorem itoa_le (n : Int) (h0 : -9223372036854775808 ≤ n) (h1 : n ≤ 9223372036854775807) : (Lib.itoa n).length ≤ 21 := by
  by_cases hn : n < 0
  · obtain ⟨u, rfl⟩ : ∃ u : Nat, n = -(u : Int) := ⟨n.natAbs, by omega⟩
    rw [Lib.itoa_neg u (by omega), List.length_cons]
    have := digits_le u (by omega)
    omega
  · obtain ⟨u, rfl⟩ : ∃ u : Nat, n = u := ⟨n.toNat, by omega⟩
    rw [Lib.itoa_nonneg]
    have := digits_le u (by omega)
    omega
theorem Tabs.below {w w' : World} (h : Tabs w) (hb : Below w.heap.size w w') : Tabs w' :=
  ⟨printTabs_below h.print hb, utf8Tabs_below h.utf8 hb, tabIs_below h.pow hb⟩
theorem fmtI (n : Int) (h0 : -9223372036854775808 ≤ n) (h1 : n ≤ 9223372036854775807) (w : World) (hT : Tabs w) :
    Calls Tryd.prog 9 #[.int .i64 n, .int .i64 10] w fun e w' => e = .returned (.string ⟨(Lib.itoa n).toArray⟩) ∧ Below w.heap.size w w' := by
  refine (Tryd.strconv_FormatInt_10 n h0 h1 w hT.pow).mono ?_
  rintro e w' ⟨rfl, k, os, rfl⟩
  exact ⟨rfl, below_grow _ _ _⟩
theorem quote (s : ByteArray) (hs : s.size ≤ 200) (w : World) (hT : Tabs w) :
    Calls Tryd.prog 10 #[.string s] w fun e w' => e = .returned (.string (strOfNums (Lib.quoteZ Lib.goPrintTabs s))) ∧ Below w.heap.size w w' :=
  Tryd.strconv_Quote Lib.goPrintTabs s w (by omega) hT.print hT.utf8
theorem str_nil (n : Int) (s : ByteArray) (f : Value) (w : World) :
    Calls Tryd.prog 11 #[.agg #[.int .u8 0, .int .i64 n, .string s], f] w fun e w' => e = .returned (.string { data := #[110, 105, 108] }) ∧ Below w.heap.size w w' := by
  go_enter Tryd.func11, Tryd.ntmps11
  go_wp2_with fail
  go_ret
  exact ⟨rfl, (Below.refl _ _).alloc (Nat.le_refl _) _⟩
theorem str_bool (n : Int) (s : ByteArray) (f : Value) (w : World) :
    Calls Tryd.prog 11 #[.agg #[.int .u8 1, .int .i64 n, .string s], f] w fun e w' => e = .returned (.string ⟨(Lib.formatBool (n != 0)).toArray⟩) ∧ Below w.heap.size w w' := by
  go_enter Tryd.func11, Tryd.ntmps11
  go_wp2_with fail
  refine (true_bool _ _ _).mono ?_
  rintro e w' ⟨rfl, rfl⟩
  go_wp2_with fail
  refine (Tryd.strconv_FormatBool _ _).mono ?_
  rintro e w' ⟨rfl, rfl⟩
  go_wp2_with fail
  go_ret
  exact ⟨rfl, ((Below.refl _ _).alloc (Nat.le_refl _) _).alloc (by simp) _⟩
theorem str_int (n : Int) (s : ByteArray) (f : Value) (h0 : -9223372036854775808 ≤ n) (h1 : n ≤ 9223372036854775807) (w : World) (hT : Tabs w) :
    Calls Tryd.prog 11 #[.agg #[.int .u8 2, .int .i64 n, .string s], f] w fun e w' => e = .returned (.string ⟨(Lib.itoa n).toArray⟩) ∧ Below w.heap.size w w' := by
  have hA : ∀ o, Tabs (w.alloc o) := fun o => hT.below ((Below.refl _ _).alloc (Nat.le_refl _) o)
  go_enter Tryd.func11, Tryd.ntmps11
  go_wp2_with fail
  refine (fmtI n h0 h1 _ (hA _)).mono ?_
  rintro e w' ⟨rfl, hb⟩
  go_wp2_with fail
  go_ret
  exact ⟨rfl, ((Below.refl _ _).alloc (Nat.le_refl _) _).trans (hb.mono (by simp))⟩
theorem str_text (n : Int) (s : ByteArray) (f : Value) (hs : s.size ≤ 200) (w : World) (hT : Tabs w) :
    Calls Tryd.prog 11 #[.agg #[.int .u8 3, .int .i64 n, .string s], f] w fun e w' => e = .returned (.string (strOfNums (Lib.quoteZ Lib.goPrintTabs s))) ∧ Below w.heap.size w w' := by
  have hA : ∀ o, Tabs (w.alloc o) := fun o => hT.below ((Below.refl _ _).alloc (Nat.le_refl _) o)
  go_enter Tryd.func11, Tryd.ntmps11
  go_wp2_with fail
  refine (quote s hs _ (hA _)).mono ?_
  rintro e w' ⟨rfl, hb⟩
  go_wp2_with fail
  go_ret
  exact ⟨rfl, ((Below.refl _ _).alloc (Nat.le_refl _) _).trans (hb.mono (by simp))⟩
theorem str_word (n : Int) (s : ByteArray) (f : Value) (h0 : -9223372036854775808 ≤ n) (h1 : n ≤ 9223372036854775807) (w : World) (hT : Tabs w) :
    Calls Tryd.prog 11 #[.agg #[.int .u8 4, .int .i64 n, .string s], f] w fun e w' => e = .returned (.string ({ data := #[119, 111, 114, 100, 32] } ++ ⟨(Lib.itoa n).toArray⟩)) ∧ Below w.heap.size w w' := by
  have hA : ∀ o, Tabs (w.alloc o) := fun o => hT.below ((Below.refl _ _).alloc (Nat.le_refl _) o)
  have hl := itoa_le n h0 h1
  go_enter Tryd.func11, Tryd.ntmps11
  go_wp2_with fail
  refine (fmtI n h0 h1 _ (hA _)).mono ?_
  rintro e w' ⟨rfl, hb⟩
  go_wp2_with fail
  go_ret
  exact ⟨rfl, ((Below.refl _ _).alloc (Nat.le_refl _) _).trans (hb.mono (by simp))⟩
theorem tell_any (r : Nat) (h : r < 18446744073709551616) (w : World) (hT : Tabs w) :
    Calls Tryd.prog 6 #[.int .u64 r] w fun e w' => e = .returned (.string ({ data := #[35] } ++ ⟨(Lib.decDigits r).toArray⟩)) ∧ Below w.heap.size w w' := by
  have hl := digits_le r h
  go_enter Tryd.func6, Tryd.ntmps6
  go_wp2_with fail
  refine (fmtU r h _ hT.pow).mono ?_
  rintro e w' ⟨rfl, hb⟩
  go_wp2_with fail
  go_ret
  exact ⟨rfl, hb⟩
theorem not_nil (w : World) : (binOp .eql 28 (.func (.func 6) #[] #[]) .nilFunc).run Tryd.prog w = .ok (.bool false) w := by kernel_rfl
theorem str_obj (n : Int) (s : ByteArray) (w : World) (hT : Tabs w) :
    Calls Tryd.prog 11 #[.agg #[.int .u8 5, .int .i64 n, .string s], .func (.func 6) #[] #[]] w fun e w' => e = .returned (.string ({ data := #[35] } ++ ⟨(Lib.decDigits (n % 18446744073709551616).toNat).toArray⟩)) ∧ Below w.heap.size w w' := by
  obtain ⟨u, hu⟩ : ∃ u : Nat, n % 18446744073709551616 = u := ⟨(n % 18446744073709551616).toNat, by omega⟩
  have hu64 : u < 18446744073709551616 := by omega
  have hA : ∀ o o', Tabs ((w.alloc o).alloc o') := fun o o' => hT.below (((Below.refl _ _).alloc (Nat.le_refl _) o).alloc (by simp) o')
  have hr : ∀ (w : World), Calls Tryd.prog 21 #[.agg #[.int .u8 5, .int .i64 n, .string s]] w fun e w' => e = .returned (.int .u64 u) ∧ w' = w.alloc (.cells #[.int .u8 5, .int .i64 n, .string s] 31) := fun w => by
    have := ref_obj n s w
    rw [hu] at this
    exact this
  have HR := Lib.hid hr
  rw [hu, Int.toNat_natCast]
  clear hr hu
  have hnn := not_nil
  go_enter Tryd.func11, Tryd.ntmps11
  go_wp2_with fail
  refine (HR.out _).mono ?_
  rintro e w' ⟨rfl, rfl⟩
  go_wp2_with fail
  refine (tell_any u hu64 _ (hA _ _)).mono ?_
  rintro e w' ⟨rfl, hb⟩
  go_wp2_with fail
  go_ret
  exact ⟨rfl, (((Below.refl _ _).alloc (Nat.le_refl _) _).alloc (by simp) _).trans (hb.mono (by simp; omega))⟩
end Go.Proofs.YtgdjdbbjfnhdeaaDoor

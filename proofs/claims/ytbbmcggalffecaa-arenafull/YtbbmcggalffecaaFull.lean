/-
  The walk of ArenaFull (promises P3.1, P3.2): it returns true for every three numbers, and writes nothing that was there before the call.
  Conditions: the arguments fit their kinds.
-/
import Derived.Test.YtbbmcggalffecaaAwake
namespace Go.Proofs.Ytbbmcggalffecaa
open Go.ChangeShapes Go.WideShapes Go.ChangeAt Go.RowKit
set_option linter.unusedVariables false
/-- A Ref's number. -/
def refN (u n : Nat) : Int := (u : Int) * 4294967296 + n
def refCells (u : Nat) (ns : List Nat) : List Value := ns.map fun n => Value.int .u64 (refN u n)
/-- What the arena is in the midst of ArenaFull: a and c objects of the two owners; ns: the first one's slots. -/
structure FS (q o a c : Nat) (s : St) (ns : List Nat) : Prop where
  accs : s.accs = [((a : Int), (q : Int)), ((c : Int), (o : Int))]
  unused : s.unused = []
  len : s.slots.length = a + c
  many : ns.length = a
  at_ : ∀ n ∈ ns, ∃ (b : Nat) (ob : Ob), s.slots[n]? = some ⟨1, some (b, ob)⟩ ∧ ob.ow = 0
theorem set_snoc (l : List Sl) (x y : Sl) : (l ++ [x]).set l.length y = l ++ [y] := by simp
theorem FS.put0 {q o a c : Nat} {s : St} {ns : List Nat} (h : FS q o a c s ns) (B : Nat) :
    FS q o (a + 1) c ⟨s.accs.set 0 ((a : Int) + 1, (q : Int)), (s.slots ++ [(⟨0, none⟩ : Sl)]).set s.slots.length ⟨0 + 1, some (B, ⟨0, 0, 0, 0⟩)⟩, []⟩ (ns ++ [s.slots.length]) := by
  rw [set_snoc]
  refine ⟨by simp [h.accs], rfl, by simp [h.len]; omega, by simp [h.many], fun n hn => ?_⟩
  rcases List.mem_append.1 hn with hn | hn
  · obtain ⟨b, ob, h1, h2⟩ := h.at_ n hn
    have hlt : n < s.slots.length := by obtain ⟨hh, _⟩ := List.getElem?_eq_some_iff.1 h1; exact hh
    exact ⟨b, ob, by simp only; rw [List.getElem?_append_left hlt]; exact h1, h2⟩
  · simp at hn; subst hn
    exact ⟨B, ⟨0, 0, 0, 0⟩, by simp, rfl⟩
theorem FS.put1 {q o a c : Nat} {s : St} {ns : List Nat} (h : FS q o a c s ns) (B : Nat) (x : Int) :
    FS q o a (c + 1) ⟨s.accs.set 1 ((c : Int) + 1, (o : Int)), (s.slots ++ [(⟨0, none⟩ : Sl)]).set s.slots.length ⟨0 + 1, some (B, ⟨0, x, 0, 0⟩)⟩, []⟩ ns := by
  rw [set_snoc]
  refine ⟨by simp [h.accs], rfl, by simp [h.len]; omega, h.many, fun n hn => ?_⟩
  obtain ⟨b, ob, h1, h2⟩ := h.at_ n hn
  have hlt : n < s.slots.length := by obtain ⟨hh, _⟩ := List.getElem?_eq_some_iff.1 h1; exact hh
  exact ⟨b, ob, by simp only; rw [List.getElem?_append_left hlt]; exact h1, h2⟩
theorem FS.frees {q o a c : Nat} {s : St} {ns : List Nat} (h : FS q o a c s ns) : Frees s s.slots.length 0 (s.slots ++ [⟨0, none⟩]) [] := .inl ⟨h.unused, rfl, rfl, rfl, rfl⟩
theorem FS.acc0 {q o a c : Nat} {s : St} {ns : List Nat} (h : FS q o a c s ns) : s.accs[0]? = some ((a : Int), (q : Int)) := by rw [h.accs]; rfl
theorem FS.acc1 {q o a c : Nat} {s : St} {ns : List Nat} (h : FS q o a c s ns) : s.accs[1]? = some ((c : Int), (o : Int)) := by rw [h.accs]; rfl
/-- All that the loop carries. -/
structure FI (base ab q o i : Nat) (w wr : World) (v : Value) : Prop where
  ex : ∃ (s : St) (ns : List Nat), Arn base ab wr s ∧ FS q o (min i q) (min i o) s ns ∧ wr.ownsRow base 51 1 v ns.length (refCells 1 ns)
  fr : Fr (fun t => isA t || only 51 t) base w wr
/-- Put of the one owner or the other, as ArenaFull calls it. -/
theorem put_full0 {base ab q o a c : Nat} {s : St} {ns : List Nat} {w : World} (h : Arn base ab w s) (f : FS q o a c s ns) (hb : base ≤ w.heap.size) (ha : a ≤ 1000) (hc : c ≤ 1000) (hq : q ≤ 1000) (haq : a ≤ q) :
    Calls Try.prog 23 #[.pointer (some ⟨ab, 0, none⟩), .agg #[.int .u8 0, .int .i64 0, .bool false, .map none, .int .i64 0, .int .i64 0, .slice none 0 0, .int .u64 0, .int .u8 0, .int .i64 0, .string ⟨#[]⟩, .int .i64 0, .int .u64 0, .int .i64 0]] w
      fun e w' => (∃ r er : Int, e = .returned (.tuple #[.int .u64 r, .int .i64 er]) ∧ ∃ s', Arn base ab w' s' ∧ ((a < q ∧ er = 0 ∧ r = refN 1 s.slots.length ∧ FS q o (a + 1) c s' (ns ++ [s.slots.length])) ∨ (a = q ∧ er = 8 ∧ FS q o a c s' ns))) ∧ Fr isA base w w' := by
  by_cases hlt : a < q
  · exact (put_is h 0 0 0 0 hb 0 rfl f.acc0 (by omega) (by omega) (by omega) f.frees (by rw [f.len]; omega) (by rw [f.unused]; simp) (by omega) (refN 1 s.slots.length) (by simp [refN])).mono fun e w' ⟨he, A, F, _⟩ => ⟨⟨_, _, he, _, A, .inl ⟨hlt, rfl, rfl, f.put0 _⟩⟩, F⟩
  · have e1 : (a : Int) = (q : Int) := by omega
    have hp := f.acc0
    rw [e1] at hp
    exact (put_full h 0 0 0 0 hb 0 rfl hp).mono fun e w' ⟨he, A, F⟩ => ⟨⟨_, _, he, _, A, .inr ⟨by omega, rfl, f⟩⟩, F.more (by intro t ht; cases ht)⟩
theorem put_full1 {base ab q o a c : Nat} {s : St} {ns : List Nat} {w : World} (h : Arn base ab w s) (f : FS q o a c s ns) (hb : base ≤ w.heap.size) (ha : a ≤ 1000) (hc : c ≤ 1000) (hq : o ≤ 1000) (haq : c ≤ o) :
    Calls Try.prog 23 #[.pointer (some ⟨ab, 0, none⟩), .agg #[.int .u8 0, .int .i64 1, .bool false, .map none, .int .i64 0, .int .i64 0, .slice none 0 0, .int .u64 0, .int .u8 0, .int .i64 0, .string ⟨#[]⟩, .int .i64 0, .int .u64 0, .int .i64 0]] w
      fun e w' => (∃ r er : Int, e = .returned (.tuple #[.int .u64 r, .int .i64 er])) ∧ (∃ s', Arn base ab w' s' ∧ FS q o a (min (c + 1) o) s' ns) ∧ Fr isA base w w' := by
  by_cases hlt : c < o
  · have e2 : min (c + 1) o = c + 1 := by omega
    rw [e2]
    exact (put_is h 0 1 0 0 hb 1 rfl f.acc1 (by omega) (by omega) (by omega) f.frees (by rw [f.len]; omega) (by rw [f.unused]; simp) (by omega) (refN 1 s.slots.length) (by simp [refN])).mono fun e w' ⟨he, A, F, _⟩ => ⟨⟨_, _, he⟩, ⟨_, A, f.put1 _ _⟩, F⟩
  · have e1 : (c : Int) = (o : Int) := by omega
    have e2 : min (c + 1) o = c := by omega
    rw [e2]
    have hp := f.acc1
    rw [e1] at hp
    exact (put_full h 0 1 0 0 hb 1 rfl hp).mono fun e w' ⟨he, A, F⟩ => ⟨⟨_, _, he⟩, ⟨_, A, f⟩, F.more (by intro t ht; cases ht)⟩
theorem Fr.ofBelow {T : Nat → Bool} {w w' : World} {base : Nat} (h : Below w.heap.size w w') : Fr T base w w' := ⟨h.os, h.tape, h.output, h.size, fun k hk _ => h.block k hk⟩
theorem FS.start (q o : Nat) : FS q o 0 0 ⟨[((0 : Int), (q : Int)), ((0 : Int), (o : Int))], [], []⟩ [] := ⟨rfl, rfl, rfl, rfl, fun n hn => by simp at hn⟩
set_option maxRecDepth 100000 in
set_option maxHeartbeats 2000000 in
theorem full_any (q o t : Nat) (w : World) (hq : q ≤ 255) (ho : o ≤ 255) (ht : t ≤ 255) :
    Calls Try.prog 6 #[.int .u8 q, .int .u8 o, .int .u8 t] w fun e w' => e = .returned (.bool true) ∧ Below w.heap.size w w' := by
  go_enter Try.func6, Try.ntmps6
  go_wp2_with fail
  refine (awake3 _).mono ?_
  rintro e w1 ⟨rfl, B1⟩
  have F1 : Fr (fun t => isA t || only 51 t) w.heap.size w w1 := Fr.ofBelow B1
  clear B1
  go_wp2_with fail
  refine (new_any _).mono ?_
  rintro e w2 ⟨rfl, hw2⟩
  have A2 : Arn w.heap.size w1.heap.size w2 ⟨[], [], []⟩ := by rw [hw2]; exact Arn.made w1 F1.size
  have F2 : Fr (fun t => isA t || only 51 t) w.heap.size w w2 := by rw [hw2]; exact F1.alloc _
  clear hw2
  generalize w1.heap.size = ab at *
  go_wp2_with fail
  refine (owner_any A2 q (by simp)).mono ?_
  rintro e w3 ⟨rfl, A3, G3⟩
  have F3 := F2.trans (G3.more (by intro t ht; simp [ht]))
  rw [show max (q : Int) 0 = q from by omega] at A3
  clear A2 F2 G3 F1
  go_wp2_with fail
  refine (owner_any A3 o (by simp)).mono ?_
  rintro e w4 ⟨rfl, A4, G4⟩
  have F4 := F3.trans (G4.more (by intro t ht; simp [ht]))
  rw [show max (o : Int) 0 = o from by omega] at A4
  clear A3 F3 G4
  have I0 : FI w.heap.size ab q o 0 w w4 (.slice none 0 0) := ⟨⟨_, [], A4, by rw [show min 0 q = 0 from by omega, show min 0 o = 0 from by omega]; exact FS.start q o, World.ownsRow_nil _ _ _ _⟩, F4⟩
  clear A4 F4
  go_wp2_with fail
  go_loopw [10, 31] (fun v i wr => ∃ k : Nat, k ≤ q + 3 ∧ i = .int .i64 k ∧ FI w.heap.size ab q o k w wr v) (fun _ i _ => q + 3 - (intOf i).toNat)
  case atStart => exact ⟨0, by omega, rfl, I0⟩
  case round =>
    obtain ⟨k, hk, rfl, ⟨⟨s, ns, A, f, hown⟩, F⟩⟩ := hrel
    clear I0
    by_cases hlt : k < q + 3
    · have h1c : min (min k o + 1) o = min (k + 1) o := by omega
      have hS := F.size
      obtain ⟨ti, hti, hz0, hz1, hz2⟩ := info_parts Try.info51
      have hnl := f.many
      have HN : Hid (ns.length = min k q) := hnl
      have hnl2 : ns.length ≤ 255 := by omega
      clear hnl
      go_wp2_with fail
      refine (put_full0 A f hS (by omega) (by omega) (by omega) (by omega)).mono ?_
      rintro e w5 ⟨⟨r, er, rfl, s5, A5, hcase⟩, F5⟩
      have hown5 := F5.row hown rfl
      have F6 := F.trans (F5.more (by intro t ht; simp [ht]))
      have hS6 := F6.size
      clear A f hown F5 F hS
      rcases hcase with ⟨hlt2, rfl, rfl, f5⟩ | ⟨heq, rfl, f5⟩
      · generalize hrr : refN 1 s.slots.length = rr at *
        have HR : Hid (refN 1 s.slots.length = rr) := hrr
        clear hrr
        go_wp2_with (at_builtin; refine wpList_append_own _ rfl (.tmp 42) (.tmp 44) 28 rfl w.heap.size 51 ti _ 1 8 Try.underlying28 hti hz0 hz1 hz2 rfl (by decide) _ ns.length _ rfl (hown5.alloc _) ⟨w5.heap.size, 0, none⟩ 1 1 [.int .u64 rr] rfl rfl one_news (by intro u hu; simp at hu; subst hu; rfl) (by unfold maxLen; omega) (by omega) (by simp; omega) ?_)
        intro v' w6 hown6 hgrow _
        have G6 : Fr (only 51) w.heap.size w5 w6 := ((Fr.refl _ _ _).alloc _).grown hgrow (mine_row (hown5.alloc _) rfl)
        have A6 := A5.fr G6 (by intro t ht; simp [isA] at ht; simp [only]; omega)
        have F7 := F6.trans (G6.more (by intro t ht; simp [ht]))
        have hS7 := F7.size
        have hown7 : w6.ownsRow w.heap.size 51 1 v' (ns ++ [s.slots.length]).length (refCells 1 (ns ++ [s.slots.length])) := by
          simpa [refCells, HR.out] using hown6
        clear hown6 hgrow G6 F6 hown5 A5 hS6
        go_wp2_with fail
        refine (put_full1 A6 f5 hS7 (by omega) (by omega) (by omega) (by omega)).mono ?_
        rintro e w7 ⟨⟨r2, er2, rfl⟩, ⟨s7, A7, f7⟩, F8⟩
        have F9 := F7.trans (F8.more (by intro t ht; simp [ht]))
        have hown8 := F8.row hown7 rfl
        rw [h1c, show min k q + 1 = min (k + 1) q from by omega] at f7
        clear F8 hown7 F7 A6 f5
        go_wp2
        go_roundw
        case rel => exact ⟨k + 1, by omega, by go_num, ⟨⟨s7, _, A7, f7, hown8⟩, F9⟩⟩
        case measure => simp [intOf]; omega
      · go_wp2_with fail
        refine (put_full1 A5 f5 hS6 (by omega) (by omega) (by omega) (by omega)).mono ?_
        rintro e w7 ⟨⟨r2, er2, rfl⟩, ⟨s7, A7, f7⟩, F8⟩
        have F9 := F6.trans (F8.more (by intro t ht; simp [ht]))
        have hown8 := F8.row hown5 rfl
        rw [h1c, show min k q = min (k + 1) q from by omega] at f7
        clear F8 hown5 F6 A5 f5
        go_wp2
        go_roundw
        case rel => exact ⟨k + 1, by omega, by go_num, ⟨⟨s7, _, A7, f7, hown8⟩, F9⟩⟩
        case measure => simp [intOf]; omega
    · rw [show min k q = q from by omega] at f
      have hcb : min k o ≤ 255 := by omega
      generalize min k o = c at f hcb
      have hnl := f.many
      have hS := F.size
      have HN : Hid (ns.length = q) := hnl
      obtain ⟨ao, cap, hv, hc1, hc2⟩ := row_shape hown
      rw [hnl] at hv
      by_cases hq0 : q = 0
      · subst hq0
        rw [hv]
        go_wp2
        go_ret
        exact ⟨rfl, F.below (Nat.le_refl _)⟩
      · obtain ⟨g, cap, cur, hv, hc1, hc2, _, hg⟩ := row_at hown (by omega)
        rw [hnl] at hv hc1
        have hq1 : ((q : Int) != (q : Int)) = false := by simp
        have hq2 : ((q : Int) == 0) = false := by rw [beq_eq_false_iff_ne]; omega
        rw [hv] at hown ⊢
        rw [hnl] at hown
        have hil : t % q < q := Nat.mod_lt _ (by omega)
        obtain ⟨n, hn⟩ : ∃ n, ns[t % q]? = some n := ⟨_, List.getElem?_eq_getElem (by omega)⟩
        obtain ⟨b, ob, hsl, how⟩ := f.at_ n (List.mem_of_getElem? hn)
        have hnn : n < s.slots.length := by obtain ⟨hh, _⟩ := List.getElem?_eq_some_iff.1 hsl; exact hh
        have hsl2 := f.len
        have hcell : ∀ w5 : World, w5.ownsRow w.heap.size 51 1 (.slice (some ⟨g, 0, none⟩) q cap) q (refCells 1 ns) → w5.cell? ⟨g, t % q, none⟩ = some (.int .u64 (refN 1 n)) := fun w5 h5 => (h5.cellAt (t % q) (by omega)).trans (by simp [refCells, hn])
        have hR : refN 1 n = ((1 : Nat) : Int) * 4294967296 + n := rfl
        have HC : Hid (∀ w5 : World, w5.ownsRow w.heap.size 51 1 (.slice (some ⟨g, 0, none⟩) q cap) q (refCells 1 ns) → w5.cell? ⟨g, t % q, none⟩ = some (.int .u64 (refN 1 n))) := hcell
        have HL : Hid (s.slots[n]? = some ⟨1, some (b, ob)⟩) := hsl
        have HO : Hid (ob.ow = 0) := how
        have HR : Hid (refN 1 n = ((1 : Nat) : Int) * 4294967296 + n) := hR
        have hr0 : 0 ≤ refN 1 n ∧ refN 1 n ≤ 18446744073709551615 := by rw [hR]; omega
        have e0 := hcell wr hown
        generalize refN 1 n = R at *
        unfold maxLen at hc2
        clear hcell hsl how hR hn hv hnl
        have HU : Hid (s.unused = []) := f.unused
        have HA : Hid (s.accs[0]? = some ((q : Int), (q : Int))) := f.acc0
        have HAl : Hid (0 < s.accs.length) := by show 0 < s.accs.length; rw [f.accs]; simp
        clear f
        go_wp2_with fail
        refine (drop_some A R n 1 b 0 ob q q HR.out (by omega) (by omega) HL.out HO.out.symm HA.out (by omega) (by omega) (by rw [HU.out]; simp)).mono ?_
        rintro e w5 ⟨rfl, A5, G5⟩
        have F5 := F.trans (G5.more (by intro t ht; simp [ht]))
        have hown5 := G5.row hown rfl
        clear A F G5 hown hS
        go_wp2_with fail
        refine (put_is A5 0 0 0 0 F5.size 0 rfl (p1 := (q : Int) - 1) (p2 := q) (by simp [HAl.out]) (by omega) (by omega) (by omega) (n := n) (u := 1) (l := s.slots.set n ⟨1, none⟩) (un := []) (.inr ⟨by simp [HU.out], by simp [hnn], rfl⟩) (by simp; omega) (by simp [HU.out]) (by omega) (refN 2 n) (by simp [refN])).mono ?_
        rintro e w6 ⟨rfl, A6, G6, _⟩
        have F6 := F5.trans (G6.more (by intro t ht; simp [ht]))
        have hown6 := G6.row hown5 rfl
        clear A5 F5 G6 hown5
        go_wp2_with fail
        refine (put_full A6 0 0 0 0 F6.size 0 rfl (p := (q : Int)) (by simp [HAl.out])).mono ?_
        rintro e w7 ⟨rfl, A7, G7⟩
        have F7 := F6.trans (G7.more (by intro t ht; cases ht))
        have hown7 := G7.row hown6 rfl
        have e7 := HC.out w7 hown7
        clear A6 F6 G7 hown6
        go_wp2_with fail
        refine (get_is A7 R (by omega) (by omega) none (by
          have e1 : (R % 4294967296).toNat = n := by rw [HR.out]; omega
          have e2 : R / 4294967296 = 1 := by rw [HR.out]; omega
          simp [look, e1, e2, hnn, ptrOf])).mono ?_
        rintro e w8 ⟨rfl, qd, hw8⟩
        have F8 : Fr (fun t => isA t || only 51 t) w.heap.size w w8 := by rw [hw8]; exact F7.drewN qd
        clear hw8
        go_wp2
        go_ret
        exact ⟨rfl, F8.below (Nat.le_refl _)⟩
end Go.Proofs.Ytbbmcggalffecaa

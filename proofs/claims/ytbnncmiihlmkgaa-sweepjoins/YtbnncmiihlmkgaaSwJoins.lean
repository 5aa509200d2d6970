/-
  SweepJoins: what is reached from two rows of roots is what is reached from the one, or the other; roots that are there are reached.
  Conditions: as each theorem says.
-/
import Derived.Test.YtbnncmiihlmkgaaSwDead
import Derived.Test.YtbnncmiihlmkgaaAwake4
namespace Go.Proofs.Ytbnncmiihlmkgaa
open Go.ChangeShapes Go.WideShapes Go.ChangeAt Go.RowKit Go.Maps Go.Sort Go.Lib
set_option linter.unusedVariables false
theorem rch_join {lv : Int → Bool} {nm : Int → List Int} {a b : List Int} {x : Int} : Rch lv nm (a ++ b) x ↔ Rch lv nm a x ∨ Rch lv nm b x := by
  constructor
  · intro h
    induction h with
    | root x hx hl => 
      rcases List.mem_append.1 hx with hx | hx
      · exact .inl (.root x hx hl)
      · exact .inr (.root x hx hl)
    | step x y _ hy hl ih =>
      rcases ih with ih | ih
      · exact .inl (.step x y ih hy hl)
      · exact .inr (.step x y ih hy hl)
  · rintro (h | h)
    · induction h with
      | root x hx hl => exact .root x (List.mem_append.2 (.inl hx)) hl
      | step x y _ hy hl ih => exact .step x y ih hy hl
    · induction h with
      | root x hx hl => exact .root x (List.mem_append.2 (.inr hx)) hl
      | step x y _ hy hl ih => exact .step x y ih hy hl
theorem has_join {lv : Int → Bool} {nm : Int → List Int} {a b S1 S2 S3 : List Int} (h1 : ∀ x, x ∈ S1 ↔ Rch lv nm a x) (h2 : ∀ x, x ∈ S2 ↔ Rch lv nm b x) (h3 : ∀ x, x ∈ S3 ↔ Rch lv nm (a ++ b) x) (x : Int) : S3.contains x = (S1.contains x || S2.contains x) := by
  rw [Bool.eq_iff_iff]
  simp [h1, h2, h3, rch_join]
theorem light_facts {L : List OO} {r : List Int} (h : lightB L r = true) : (∀ (j : Nat) (oo : OO), L[j]? = some oo → oo.names.length ≤ 10) ∧ L.length ≤ 30 ∧ 0 < L.length ∧ r.length ≤ 10 := by
  simp [lightB] at h
  exact ⟨fun j oo hj => h.1 oo (List.mem_of_getElem? hj), h.2.1.1, h.2.1.2, h.2.2⟩
theorem ORowU.below {w w' : World} {v : Value} {L : List OO} (h : ORowU w v L) (hb : Below w.heap.size w w') : ORowU w' v L := by
  obtain ⟨b, off, cap, h1, h2, h3, h4⟩ := h
  exact ⟨b, off, cap, h1, h2, h3, fun i oo hi => (h4 i oo hi).below hb⟩
theorem ORowU.row {w : World} {v : Value} {L : List OO} (h : ORowU w v L) (hn : ∀ (j : Nat) (oo : OO), L[j]? = some oo → oo.names.length ≤ 10) : ORow w v L := by
  obtain ⟨b, off, cap, h1, h2, h3, h4⟩ := h
  exact ⟨b, off, cap, h1, h2, h3, fun i oo hi => ⟨h4 i oo hi, Nat.le_trans (hn i oo hi) (by decide)⟩⟩
/-- append(v, u...) of two rows of Refs, the first its own. -/
theorem wpList_append_refs {ops : Array Oper} {rest : List Oper} {o : Oper} {a : Act} {w : World} {Q : Exit → Act → World → Prop} (hgd : o.guard = none) (s x : Operand)
    (ho : o.op = .call { callee := .builtin .append, args := #[s, x], argTypes := #[44, 44] }) (base : Nat) (v u : Value) (xs ys : List Int)
    (hs : a.eval s = v) (hown : w.ownsRow base 28 1 v xs.length (refRow xs)) (hx : a.eval x = u) (hu : RootsAt w u ys) (hl1 : xs.length ≤ 1000) (hl2 : ys.length ≤ 1000) (hbase : base ≤ w.heap.size)
    (h : ∀ v' w', w'.ownsRow base 28 1 v' (xs ++ ys).length (refRow (xs ++ ys)) → Below base w w' → wpList Try.prog ops Q rest (a.put o.dst v') w') : wpList Try.prog ops Q (o :: rest) a w := by
  obtain ⟨ti, hti, hz0, hz1, hz2⟩ := info_parts Try.info28
  have key : ∃ v' w', (Builtin.append_ #[44, 44] o.type #[v, u]).run Try.prog w = .ok v' w' ∧ w'.ownsRow base 28 1 v' (xs ++ ys).length (refRow (xs ++ ys)) ∧ Below base w w' := by
    rcases hu with ⟨rfl, rfl⟩ | ⟨g, off, cap, rfl, hc1, hc2, hg, hc⟩
    · refine ⟨v, w, run_append_owned_none (P := Try.prog) w base 44 o.type 28 ti 1 Try.underlying44 hti v xs.length (refRow xs) hown, ?_, Below.refl _ _⟩
      simpa using hown
    · obtain ⟨v', w', hr, h1, h2, _⟩ := run_append_own (P := Try.prog) w base 44 o.type 28 ti (.int .u64 0) 1 8 Try.underlying44 hti hz0 hz1 hz2 rfl (by decide) v xs.length (refRow xs) hown ⟨g, off, none⟩ ys.length cap (refRow ys) (by simp [refRow]) (fun j u hj => by
        simp [refRow] at hj
        obtain ⟨y, hy, rfl⟩ := hj
        have := hc j y hy
        by_cases h0 : j = 0
        · subst h0; simpa [Addr.add] using this
        · simpa [Addr.add, h0] using this) (by intro u hu; simp [refRow] at hu; obtain ⟨y, _, rfl⟩ := hu; rfl) (by unfold maxLen; omega) (by omega) hbase
      refine ⟨v', w', hr, ?_, (Below.refl base w).grown h2 hbase (fun j e => (hown.lt j e).1)⟩
      simpa [refRow] using h1
  obtain ⟨v', w', hr, h1, h2⟩ := key
  refine wpList_plain hgd fun K' hK' => ?_
  unfold Oper.wp
  simp [execOp, ho, resolve, invoke, builtin, hs, hx, hr, Result.andThen]
  exact hK' _ _ (h v' w' h1 h2)
theorem row_later {w w' : World} {base : Nat} {e : TypeId} {size n : Nat} {v : Value} {xs : List Value} (h : w.ownsRow base e size v n xs) (hb : Below w.heap.size w w') : w'.ownsRow base e size v n xs := by
  refine ⟨h.1, h.2.imp id ?_⟩
  rintro ⟨g, cap, cur, rfl, hbg, hg, rest⟩
  exact ⟨g, cap, cur, rfl, hbg, (hb.block g (lt_of_block hg)).trans hg, rest⟩
/-- What stays as it is, from the call of Make on. -/
structure Jn (w w0 W : World) (bd bx rg cr : Nat) (d : Int) (av bv : Value) (la lb : List Int) (ab : Nat) (L : List OO) (done : Nat → List Int) (B M : Nat → Nat) (s : St) : Prop where
  below : Below w.heap.size w W
  boxd : W.heap[bd]? = some (.cells #[.int .u8 d] 5 (0, 0))
  boxr : W.heap[bx]? = some (.cells #[.slice (some ⟨rg, 0, none⟩) L.length cr] 44 (0, 0))
  refs : RefsAt W rg L.length
  a : BRow W av la
  b : BRow W bv lb
  made : Mk w0 W ab L done B M s L.length
  hd : ∀ (j : Nat) (oo : OO), L[j]? = some oo → done j = oo.names
  hn : ∀ (j : Nat) (oo : OO), L[j]? = some oo → oo.names.length ≤ 10 ∧ 0 ≤ oo.mem
  l1 : L.length ≤ 30
  l0 : 0 < L.length
  hcr : cr ≤ maxLen
  d0 : 0 ≤ d
  d1 : d ≤ 255
  sz : w.heap.size ≤ W.heap.size
section
variable {w w0 W : World} {bd bx rg cr : Nat} {d : Int} {av bv : Value} {la lb : List Int} {ab : Nat} {L : List OO} {done : Nat → List Int} {B M : Nat → Nat} {s : St}
theorem Jn.later {W' : World} (h : Jn w w0 W bd bx rg cr d av bv la lb ab L done B M s) (hb : Below W.heap.size W W') : Jn w w0 W' bd bx rg cr d av bv la lb ab L done B M s :=
  ⟨h.below.trans (hb.mono h.sz), (hb.block _ (lt_of_block h.boxd)).trans h.boxd, (hb.block _ (lt_of_block h.boxr)).trans h.boxr, h.refs.below hb, h.a.below hb, h.b.below hb, h.made.later hb, h.hd, h.hn, h.l1, h.l0, h.hcr, h.d0, h.d1, Nat.le_trans h.sz hb.size⟩
theorem Jn.pick (h : Jn w w0 W bd bx rg cr d av bv la lb ab L done B M s) {v : Value} {l : List Int} (hv : BRow W v l) (hl : l.length ≤ 1000) :
    Calls Try.prog 33 #[v, .pointer (some ⟨bx, 0, none⟩)] W fun e W' => ∃ rv, e = .returned rv ∧ W'.ownsRow W.heap.size 28 1 rv (picks L.length l).length (refRow (picks L.length l)) ∧ Below W.heap.size W W' :=
  (pick_any hv hl h.l0 (Nat.le_trans h.l1 (by decide)) h.hcr h.boxr h.refs).mono fun e W' ⟨rv, h1, h2, h3⟩ => ⟨rv, h1, by simpa [picks] using h2, h3⟩
theorem dead_enters (args : Array Value) (w : World) : (callFunc 34 args).run Try.prog w = .ok (.enter 34 args) w := by kernel_rfl
theorem one_more (x y : Value) : #[x] ++ #[y] = #[x, y] := rfl
theorem dead_F (hbx : W.heap[bd]? = some (.cells #[.int .u8 d] 5 (0, 0))) (hd0 : 0 ≤ d) (hd1 : d ≤ 255) : DeadF W 34 #[.pointer (some ⟨bd, 0, none⟩)] (ddOf d) :=
  ⟨dead_enters, fun W' x hW h0 h3 => by rw [one_more]; exact dead_any ((hW.block _ (lt_of_block hbx)).trans hbx) h0 h3 hd0 hd1⟩
set_option maxRecDepth 100000 in
theorem Jn.reach (h : Jn w w0 W bd bx rg cr d av bv la lb ab L done B M s) {rv : Value} {roots : List Int} (hr : RootsAt W rv roots) (hb : ∀ x ∈ roots, 0 ≤ x ∧ x ≤ 18446744073709551615) :
    Calls Try.prog 21 #[.pointer (some ⟨ab, 0, none⟩), rv, .func (.func 34) #[] #[.pointer (some ⟨bd, 0, none⟩)]] W fun e W' => ∃ sb S, e = .returned (.map (some sb)) ∧ RSet W' sb S ∧ (∀ x, x ∈ S ↔ Rch (lives s) (nmOf s (flM L done) (ddOf d)) roots x) ∧ Below W.heap.size W W' := by
  have hl : L.length ≤ 1000 := Nat.le_trans h.l1 (by decide)
  refine (reach_any h.made.arn (h.made.objs h.hd hl (fun j oo hj => ⟨Nat.le_trans (h.hn j oo hj).1 (by decide), (h.hn j oo hj).2⟩)) (by rw [h.made.len]; exact Nat.le_trans hl (by decide)) (fun n sl hs => Nat.le_trans (h.made.uses n sl hs) (by decide)) hr hb (dead_F h.boxd h.d0 h.d1)).mono ?_
  rintro e w' ⟨sb, he, S, hS, hin, _, hb⟩
  exact ⟨sb, S, he, hS, hin, hb⟩
/-- What the two loops keep. -/
def Jk (w w0 W : World) (bd bx rg cr : Nat) (d : Int) (av bv : Value) (la lb : List Int) (ab : Nat) (L : List OO) (done : Nat → List Int) (B M : Nat → Nat) (s : St) (pb qb bb : Nat) (S1 S2 S3 : List Int) : Prop :=
  Jn w w0 W bd bx rg cr d av bv la lb ab L done B M s ∧ RSet W pb S1 ∧ RSet W qb S2 ∧ RSet W bb S3
theorem Jk.later {pb qb bb : Nat} {S1 S2 S3 : List Int} {W' : World} (h : Jk w w0 W bd bx rg cr d av bv la lb ab L done B M s pb qb bb S1 S2 S3) (hb : Below W.heap.size W W') : Jk w w0 W' bd bx rg cr d av bv la lb ab L done B M s pb qb bb S1 S2 S3 :=
  ⟨h.1.later hb, h.2.1.kept (hb.block _ h.2.1.lt), h.2.2.1.kept (hb.block _ h.2.2.1.lt), h.2.2.2.kept (hb.block _ h.2.2.2.lt)⟩
theorem Jk.alloc {pb qb bb : Nat} {S1 S2 S3 : List Int} (h : Jk w w0 W bd bx rg cr d av bv la lb ab L done B M s pb qb bb S1 S2 S3) (o : Obj) : Jk w w0 (W.alloc o) bd bx rg cr d av bv la lb ab L done B M s pb qb bb S1 S2 S3 :=
  h.later ((Below.refl _ W).alloc (Nat.le_refl _) o)
theorem picks_range {n : Nat} {l : List Int} (hn : 0 < n) (hn2 : n ≤ 1000) : ∀ x ∈ picks n l, 0 ≤ x ∧ x ≤ 18446744073709551615 := by
  intro x hx
  simp [picks] at hx
  obtain ⟨b, _, rfl⟩ := hx
  exact refI_range _ (by have := atN_lt n b hn; omega)
theorem row_roots {base : Nat} {v : Value} {l : List Int} (h : W.ownsRow base 28 1 v l.length (refRow l)) : RootsAt W v l := by
  rcases row_lies h with h | ⟨g, _, h⟩
  · exact .inl h
  · exact .inr ⟨g, h⟩
end
set_option maxRecDepth 100000 in
set_option maxHeartbeats 4000000 in
theorem joins_any {w : World} {a : Option Addr} {len cap : Nat} {L : List OO} {av bv : Value} {la lb : List Int} {d : Int} (hl : len ≤ maxLen) (hL : (len = 0 ∧ L = []) ∨ (L.length = len ∧ ORowU w (.slice a len cap) L)) (hA : BRow w av la) (hB : BRow w bv lb) (hd0 : 0 ≤ d) (hd1 : d ≤ 255) :
    Calls Try.prog 7 #[.slice a len cap, av, bv, .int .u8 d] w fun e w' => e = .returned (.bool true) ∧ Below w.heap.size w w' := by
  obtain ⟨ba, bcap, rfl, hb1, hb2, hb3, hb4⟩ := id hB
  have HL : Hid ((len = 0 ∧ L = []) ∨ (L.length = len ∧ ORowU w (.slice a len cap) L)) := hL
  have HA : Hid (BRow w av la) := hA
  have HB : Hid (BRow w (.slice ba lb.length bcap) lb) := hB
  clear hb3 hb4 hL hA hB
  unfold maxLen at hb2 hl
  go_enter Try.func7, Try.ntmps7
  go_wp2_with fail
  refine (awake4 _).mono ?_
  rintro e w1 ⟨rfl, hw1⟩
  have hbd : w1.heap[w.heap.size]? = some (.cells #[.int .u8 d] 5 (0, 0)) := (hw1.block _ (by simp)).trans (heap_alloc_new w _)
  have hb0 : Below w.heap.size w w1 := ((Below.refl _ w).alloc (Nat.le_refl _) _).trans (hw1.mono (by simp))
  clear hw1
  go_wp2_with fail
  have hL1 : (len = 0 ∧ L = []) ∨ (L.length = len ∧ ORowU w1 (.slice a len cap) L) := HL.out.imp id (fun h => ⟨h.1, h.2.below hb0⟩)
  refine (light_any (by unfold maxLen; exact hl) hL1 (HA.out.below hb0)).mono ?_
  rintro e w2 ⟨rfl, hw2⟩
  cases hlt : lightB L la with
  | false =>
    go_wp2
    go_ret
    exact ⟨rfl, hb0.trans (hw2.mono hb0.size)⟩
  | true =>
    obtain ⟨n10, l30, l0, a10⟩ := light_facts hlt
    have hb2' := hb0.trans (hw2.mono hb0.size)
    by_cases hbl : 10 < lb.length
    · go_wp2
      go_ret
      exact ⟨rfl, hb2'⟩
    · rcases HL.out with ⟨_, h⟩ | ⟨rfl, hO⟩
      · rw [h] at l0; simp at l0
      · have hO2 : ORow w2 (.slice a L.length cap) L := (hO.below hb2').row n10
        have hmem : ∀ (j : Nat) (oo : OO), L[j]? = some oo → oo.names.length ≤ 10 ∧ 0 ≤ oo.mem := fun j oo hj => ⟨n10 j oo hj, by obtain ⟨_, _, _, _, _, _, h4⟩ := hO; obtain ⟨_, _, _, _, _, _, h0, _⟩ := h4 j oo hj; exact h0⟩
        have hbd2 := (hw2.block _ (lt_of_block hbd)).trans hbd
        clear hL1 hw2 hb0 hbd hO hlt
        go_wp2_with fail
        refine (mkArena hO2 (by omega) l0).mono ?_
        rintro e w3 ⟨rv, B, M, s, rfl, ⟨done, hd, hM⟩, hrow, hc⟩
        obtain ⟨rg, cr, cur, rfl, hcr1, hcr2, _, _⟩ := row_at hrow l0
        have hrgl := (hrow.lt rg rfl)
        have hw3 := hb2'.trans (hM.below.mono hb2'.size)
        have hsz3 := hw3.size
        have hbd3 := (hM.below.block _ (lt_of_block hbd2)).trans hbd2
        have hba : Below w3.heap.size w3 (w3.alloc (.cells #[.slice (some ⟨rg, 0, none⟩) L.length cr] 44)) := (Below.refl _ w3).alloc (Nat.le_refl _) _
        have hbw : Below w.heap.size w (w3.alloc (.cells #[.slice (some ⟨rg, 0, none⟩) L.length cr] 44)) := hw3.alloc hsz3 _
        have hJ : Jn w w2 (w3.alloc (.cells #[.slice (some ⟨rg, 0, none⟩) L.length cr] 44)) w.heap.size w3.heap.size rg cr d av (.slice ba lb.length bcap) la lb w2.heap.size L done B M s :=
          ⟨hbw, block_alloc hbd3 _, heap_alloc_new w3 _, RefsAt.below ⟨hrgl.2, fun j hj => by rw [hrow.cellAt j (by omega)]; simp [refRow, refsTo, hj]⟩ hba, HA.out.below hbw, HB.out.below hbw, hM.later hba, hd, hmem, l30, l0, hcr2, hd0, hd1, hbw.size⟩
        clear hrow hc hM hbd3 hbd2 hb2' hO2 hba hbw hd hmem n10 HL HA HB hw3
        go_wp2_with fail
        generalize w3.alloc (.cells #[.slice (some ⟨rg, 0, none⟩) L.length cr] 44) = w4 at hJ ⊢
        generalize w3.heap.size = bx at hJ ⊢
        generalize w2.heap.size + 1 = cb
        refine (hJ.pick hJ.a (by omega)).mono ?_
        rintro e w5 ⟨v1, rfl, r1, b5⟩
        have hJ5 := hJ.later b5
        go_wp2_with fail
        refine (hJ5.reach (row_roots r1) (picks_range l0 (by omega))).mono ?_
        rintro e w6 ⟨pb, S1, rfl, s1, in1, b6⟩
        have hJ6 := hJ5.later b6
        go_wp2_with fail
        refine (hJ6.pick hJ6.b (by omega)).mono ?_
        rintro e w7 ⟨v2, rfl, r2, b7⟩
        have hJ7 := hJ6.later b7
        go_wp2_with fail
        refine (hJ7.reach (row_roots r2) (picks_range l0 (by omega))).mono ?_
        rintro e w8 ⟨qb, S2, rfl, s2, in2, b8⟩
        have hJ8 := hJ7.later b8
        go_wp2_with fail
        refine (hJ8.pick hJ8.a (by omega)).mono ?_
        rintro e w9 ⟨v3, rfl, r3, b9⟩
        have hJ9 := hJ8.later b9
        go_wp2_with fail
        refine (hJ9.pick hJ9.b (by omega)).mono ?_
        rintro e w10 ⟨v4, rfl, r4, b10⟩
        have hJ10 := hJ9.later b10
        have s1' := (s1.kept (b7.block _ s1.lt))
        have s1'' := (s1'.kept (b8.block _ s1'.lt))
        have r3' := row_later r3 b10
        have HJ8 : Hid (Jn w w2 w8 w.heap.size bx rg cr d av (.slice ba lb.length bcap) la lb w2.heap.size L done B M s) := hJ8
        have hsz9 := b9.size
        have hsz10 := b10.size
        have B10 : Below w8.heap.size w8 w10 := b9.trans (b10.mono hsz9)
        have HS1 : Hid (RSet w8 pb S1) := s1''
        have HS2 : Hid (RSet w8 qb S2) := s2
        have R4 := row_roots r4
        clear hJ hJ5 hJ6 hJ7 hJ8 hJ9 hJ10 r1 r2 s1 s1' s1'' s2 r3 r4 b5 b6 b7 b8 b9 b10
        have hpl : (picks L.length la).length ≤ 1000 := by simp [picks]; omega
        have hpl2 : (picks L.length lb).length ≤ 1000 := by simp [picks]; omega
        go_wp2_with (at_builtin; refine wpList_append_refs rfl (.tmp 60) (.tmp 63) rfl w8.heap.size v3 v4 (picks L.length la) (picks L.length lb) rfl r3' rfl R4 hpl hpl2 (by omega) ?_)
        intro v5 w11 r5 b11
        have B11 := B10.trans b11
        rw [← List.length_append] at r5
        have HR5 : Hid (RootsAt w11 v5 (picks L.length la ++ picks L.length lb)) := row_roots r5
        clear r5
        have hJ11 := HJ8.out.later B11
        have s1 := HS1.out.kept (B11.block _ HS1.out.lt)
        have s2 := HS2.out.kept (B11.block _ HS2.out.lt)
        clear HJ8 HS1 HS2 B10 B11 b11 r3' R4 hsz9 hsz10 hpl hpl2
        go_wp2_with fail
        refine (hJ11.reach HR5.out (fun x hx => by
          rcases List.mem_append.1 hx with hx | hx
          · exact picks_range l0 (by omega) x hx
          · exact picks_range l0 (by omega) x hx)).mono ?_
        rintro e w12 ⟨bb, S3, rfl, s3, in3, b12⟩
        have hJ12 := hJ11.later b12
        have s1' := (s1.kept (b12.block _ s1.lt))
        have s2' := (s2.kept (b12.block _ s2.lt))
        have hin := has_join in1 in2 in3
        clear hJ11 s1 s2 b12 HR5
        have hbx := hJ12.boxr
        obtain ⟨c0, cf⟩ := box1 hbx
        go_wp2_with fail
        have hK12 : Jk w w2 w12 w.heap.size bx rg cr d av (.slice ba lb.length bcap) la lb w2.heap.size L done B M s pb qb bb S1 S2 S3 := ⟨hJ12, s1', s2', s3⟩
        have HIN : Hid (∀ x, S3.contains x = (S1.contains x || S2.contains x)) := hin
        have HIN1 : Hid (∀ x, x ∈ S1 ↔ Rch (lives s) (nmOf s (flM L done) (ddOf d)) (picks L.length la) x) := in1
        clear hJ12 s1' s2' s3 hin in1 in2 in3 hbx c0 cf
        go_loopw [69] (fun i wr => ∃ k : Nat, k ≤ L.length ∧ i = .int .i64 k ∧ Jk w w2 wr w.heap.size bx rg cr d av (.slice ba lb.length bcap) la lb w2.heap.size L done B M s pb qb bb S1 S2 S3)
          (fun i _ => L.length - (intOf i).toNat)
        case atStart => exact ⟨0, Nat.zero_le _, rfl, hK12⟩
        case round =>
          obtain ⟨k, hk, rfl, hK⟩ := hrel
          by_cases hlt : k < L.length
          · have e0 := hK.1.refs.2 k hlt
            have hrl := hK.1.refs.1
            have hidx : 0 ≤ (k : Int) ∧ (k : Int) < (L.length : Int) := ⟨by omega, by omega⟩
            have rr := refI_range k (by omega)
            have HK : Hid (Jk w w2 wr w.heap.size bx rg cr d av (.slice ba lb.length bcap) la lb w2.heap.size L done B M s pb qb bb S1 S2 S3) := hK
            have hj := HIN.out (refI k)
            generalize e3 : S3.contains (refI k) = c3 at hj
            generalize e1 : S1.contains (refI k) = c1 at hj
            generalize e2 : S2.contains (refI k) = c2 at hj
            subst hj
            have HE1 : Hid (S1.contains (refI k) = c1) := e1
            have HE2 : Hid (S2.contains (refI k) = c2) := e2
            have HE3 : Hid (S3.contains (refI k) = (c1 || c2)) := e3
            clear hK hK12 e1 e2 e3
            cases c1 with
            | true =>
              simp only [Bool.true_or] at HE3
              go_wp2_with fail
              refine (rset_has HK.out.2.2.2 _ rr.1 rr.2).mono ?_
              rw [HE3.out]
              rintro e w13 ⟨rfl, rfl⟩
              go_wp2_with fail
              have hK1 := HK.out.alloc (.cells #[] 97)
              refine (rset_has hK1.2.1 _ rr.1 rr.2).mono ?_
              rw [HE1.out]
              rintro e w14 ⟨rfl, rfl⟩
              have hK2 := hK1.alloc (.cells #[] 97)
              have HK2 : Hid (Jk w w2 _ w.heap.size bx rg cr d av (.slice ba lb.length bcap) la lb w2.heap.size L done B M s pb qb bb S1 S2 S3) := hK2
              clear hK1 hK2
              go_wp2_with fail
              go_roundw
              case rel => exact ⟨k + 1, by omega, by go_num, HK2.out⟩
              case measure => simp [intOf]; omega
            | false =>
              simp only [Bool.false_or] at HE3
              go_wp2_with fail
              refine (rset_has HK.out.2.2.2 _ rr.1 rr.2).mono ?_
              rw [HE3.out]
              rintro e w13 ⟨rfl, rfl⟩
              go_wp2_with fail
              have hK1 := HK.out.alloc (.cells #[] 97)
              refine (rset_has hK1.2.1 _ rr.1 rr.2).mono ?_
              rw [HE1.out]
              rintro e w14 ⟨rfl, rfl⟩
              have hK2 := hK1.alloc (.cells #[] 97)
              have HK2 : Hid (Jk w w2 _ w.heap.size bx rg cr d av (.slice ba lb.length bcap) la lb w2.heap.size L done B M s pb qb bb S1 S2 S3) := hK2
              clear hK1 hK2
              go_wp2_with fail
              refine (rset_has HK2.out.2.2.1 _ rr.1 rr.2).mono ?_
              rw [HE2.out]
              rintro e w15 ⟨rfl, rfl⟩
              have HK3 : Hid (Jk w w2 _ w.heap.size bx rg cr d av (.slice ba lb.length bcap) la lb w2.heap.size L done B M s pb qb bb S1 S2 S3) := HK2.out.alloc (.cells #[] 97)
              cases c2 with
              | true =>
                go_wp2_with fail
                go_roundw
                case rel => exact ⟨k + 1, by omega, by go_num, HK3.out⟩
                case measure => simp [intOf]; omega
              | false =>
                go_wp2_with fail
                go_roundw
                case rel => exact ⟨k + 1, by omega, by go_num, HK3.out⟩
                case measure => simp [intOf]; omega
          · obtain rfl : k = L.length := by omega
            have HP : Hid (∀ (j : Nat) (x : Int), (picks L.length la)[j]? = some x → S1.contains x = true ∧ 0 ≤ x ∧ x ≤ 18446744073709551615) := fun j x hx => by
              have hx' := List.mem_of_getElem? hx
              refine ⟨?_, picks_range l0 (by omega) x hx'⟩
              have := (HIN1.out x).2 (.root x hx' (by
                simp [picks] at hx'
                obtain ⟨b, _, rfl⟩ := hx'
                exact (hK.1.made.lives (by omega) _).2 ⟨_, atN_lt L.length b l0, rfl⟩))
              simpa using this
            clear hK12 HIN1 HIN
            go_wp2_with fail
            refine (hK.1.pick hK.1.a (by omega)).mono ?_
            rintro e w16 ⟨v6, rfl, r6, b16⟩
            have hK16 := hK.later b16
            have hpl : (picks L.length la).length ≤ 1000 := by simp [picks]; omega
            generalize picks L.length la = P at HP r6 hpl
            generalize wr.heap.size = b6 at r6
            obtain ⟨ao, c6, rfl, hc61, hc62⟩ := row_shape r6
            unfold maxLen at hc62
            have HR6 : Hid (w16.ownsRow b6 28 1 (.slice ao P.length c6) P.length (refRow P)) := r6
            have HK16 : Hid (Jk w w2 w16 w.heap.size bx rg cr d av (.slice ba lb.length bcap) la lb w2.heap.size L done B M s pb qb bb S1 S2 S3) := hK16
            clear hK16 r6 b16 hK
            go_wp2_with fail
            go_loopw [90] (fun i wq => ∃ k : Nat, k ≤ P.length ∧ i = .int .i64 k ∧ Hid (Jk w w2 wq w.heap.size bx rg cr d av (.slice ba lb.length bcap) la lb w2.heap.size L done B M s pb qb bb S1 S2 S3 ∧ wq.ownsRow b6 28 1 (.slice ao P.length c6) P.length (refRow P)))
              (fun i _ => P.length - (intOf i).toNat)
            case atStart => exact ⟨0, Nat.zero_le _, rfl, ⟨HK16.out, HR6.out⟩⟩
            case round =>
              obtain ⟨m, hm, rfl, HM⟩ := hrel
              by_cases hlt2 : m < P.length
              · obtain ⟨x, hx⟩ : ∃ x, P[m]? = some x := ⟨_, List.getElem?_eq_getElem hlt2⟩
                obtain ⟨hs1, hx0, hx1⟩ := HP.out m x hx
                obtain ⟨g6, cap6, cur6, hv6, _⟩ := row_at HM.out.2 (by omega)
                simp only [Value.slice.injEq, true_and] at hv6
                obtain ⟨rfl, rfl⟩ := hv6
                have q0 : wr.cell? ⟨g6, m, none⟩ = some (.int .u64 x) := by rw [HM.out.2.cellAt m (by omega)]; simp [refRow, hx]
                have HS : Hid (S1.contains x = true) := hs1
                have hidx : 0 ≤ (m : Int) ∧ (m : Int) < (P.length : Int) := ⟨by omega, by omega⟩
                clear hs1 hx
                go_wp2_with fail
                refine (rset_has HM.out.1.2.1 _ hx0 hx1).mono ?_
                rw [HS.out]
                rintro e w17 ⟨rfl, rfl⟩
                go_wp2_with fail
                go_roundw
                case rel => exact ⟨m + 1, by omega, by go_num, ⟨HM.out.1.alloc _, HM.out.2.alloc _⟩⟩
                case measure => simp [intOf]; omega
              · obtain rfl : m = P.length := by omega
                go_wp2
                go_ret
                exact ⟨rfl, HM.out.1.1.below⟩
end Go.Proofs.Ytbnncmiihlmkgaa

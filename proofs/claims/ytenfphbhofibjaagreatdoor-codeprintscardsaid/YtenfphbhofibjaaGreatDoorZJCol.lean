/-
 Collect, CollectW, joined.
 Conditions: as each theorem says.
-/
import Derived.Test.YtenfphbhofibjaaGreatDoorZJReach
import Derived.Test.YtenfphbhofibjaaGreatDoorZAll
set_option maxRecDepth 100000
set_option maxHeartbeats 2000000
set_option linter.unusedVariables false
namespace Go.Proofs.YtenfphbhofibjaaGreatDoor
open Go.ChangeShapes Go.WideShapes Go.ChangeAt Go.RowKit Go.Maps Go.Sort Go.Lib
theorem mem_allFrom : ∀ {l : List Sl} {i : Nat} {r : Int}, r ∈ allFrom i l ↔ ∃ n u b o, l[n]? = some ⟨u, some (b, o)⟩ ∧ r = refN u (i + n)
 | [], i, r => by simp [allFrom]
 | s :: l, i, r => by
  rw [allFrom, List.mem_append, mem_allFrom]
  constructor
  ·rintro (h | ⟨n, u, b, o, h1, h2⟩)
   ·obtain ⟨us, ob⟩ := s
    cases ob with
    | none => simp at h
    | some p => simp at h; exact ⟨0, us, p.1, p.2, rfl, by simpa using h⟩
   ·exact ⟨n + 1, u, b, o, by simpa using h1, by rw [h2]; congr 1; omega⟩
  ·rintro ⟨n, u, b, o, h1, h2⟩
   cases n with
   | zero => left; simp at h1; subst h1; simpa using h2
   | succ n => right; exact ⟨n, u, b, o, by simpa using h1, by rw [h2]; congr 1; omega⟩
theorem refN_inj {u n u' n' : Nat} (h : refN u n = refN u' n') (hn : n < 4294967296) (hn' : n' < 4294967296) : u = u' ∧ n = n' := by unfold refN at h; omega
theorem nodup_allFrom : ∀ {l : List Sl} {i : Nat}, i + l.length < 4294967296 → (allFrom i l).Nodup
 | [], i, _ => by simp [allFrom]
 | s :: l, i, h => by
  simp only [List.length_cons] at h
  rw [allFrom]
  refine List.nodup_append.2 ⟨by split <;> simp, nodup_allFrom (by omega), fun a ha b hb e => ?_⟩
  subst e
  obtain ⟨n, u, b', o, h1, h2⟩ := mem_allFrom.1 hb
  have hn : n < l.length := lt_of_get h1
  split at ha
  ·simp at ha
   rw [ha] at h2
   have := (refN_inj h2 (by omega) (by omega)).2
   omega
  ·simp at ha
def allOf (s : St) : List Int := allTo s.slots s.slots.length
theorem allOf_eq (s : St) : allOf s = allFrom 0 s.slots := by unfold allOf allTo; rw [List.take_length]
def outOf (S : List Int) (x : Int) : Bool := !S.contains x
theorem count_snoc (S al : List Int) (r : Int) : (al ++ [r]).countP (outOf S) = al.countP (outOf S) + if S.contains r then 0 else 1 := by
 rw [List.countP_append]
 cases h : S.contains r <;> simp only [List.countP_cons, List.countP_nil, outOf, h] <;> rfl
structure Gone (s s' : St) (al S : List Int) (p q : Int) : Prop where
 len : s'.slots.length = s.slots.length
 slot : ∀ i sl, s.slots[i]? = some sl → s'.slots[i]? = some (if al.contains (refN sl.uses i) && !S.contains (refN sl.uses i) then ⟨sl.uses, none⟩ else sl)
 accs : s'.accs = [(p - (al.countP (outOf S)), q)]
 un : s'.unused.length ≤ s.unused.length + al.length
theorem Gone.start (s : St) (S : List Int) (p q : Int) (h : s.accs = [(p, q)]) : Gone s s [] S p q :=
 ⟨rfl, fun i sl h => by simpa using h, by simp [h], by simp⟩
theorem Gone.keep {s s' : St} {al S : List Int} {p q : Int} {r : Int} (h : Gone s s' al S p q) (hr : S.contains r = true) : Gone s s' (al ++ [r]) S p q := by
 refine ⟨h.len, fun i sl hi => ?_, by rw [h.accs, count_snoc, hr]; simp, by have := h.un; simp; omega⟩
 rw [h.slot i sl hi]
 by_cases e : refN sl.uses i = r
 ·rw [e]; simp only [hr]; simp
 ·congr 1
  have : (al ++ [r]).contains (refN sl.uses i) = al.contains (refN sl.uses i) := by simp [e]
  rw [this]
theorem Gone.drop {s s' : St} {al S : List Int} {p q : Int} {n u b : Nat} {o : Ob} (h : Gone s s' al S p q) (hs : s.slots[n]? = some ⟨u, some (b, o)⟩) (hl : s.slots.length < 4294967296) (hr : S.contains (refN u n) = false) (hn : al.contains (refN u n) = false) :
 s'.slots[n]? = some ⟨u, some (b, o)⟩ ∧ ∀ un', un'.length = s'.unused.length + 1 → Gone s ⟨[(p - (al.countP (outOf S)) - 1, q)], s'.slots.set n ⟨u, none⟩, un'⟩ (al ++ [refN u n]) S p q := by
 have hnl := lt_of_get hs
 refine ⟨by rw [h.slot n _ hs]; simp only [hn]; simp, fun un' hu => ⟨by simp [h.len], fun i sl hi => ?_, ?_, by have := h.un; simp [hu]; omega⟩⟩
 ·by_cases e : i = n
  ·subst e
   rw [hs] at hi
   cases hi
   rw [List.getElem?_set_self (by rw [h.len]; exact hnl)]
   have h1 : (al ++ [refN u i]).contains (refN u i) = true := by simp
   simp only [h1, hr]
   rfl
  ·rw [List.getElem?_set_ne (fun x => e x.symm), h.slot i sl hi]
   have hne : refN sl.uses i ≠ refN u n := fun x => e (refN_inj x (by have := lt_of_get hi; omega) (by omega)).2
   have : (al ++ [refN u n]).contains (refN sl.uses i) = al.contains (refN sl.uses i) := by simp [hne]
   rw [this]
 ·rw [count_snoc, hr]
  simp only [Bool.false_eq_true, if_false, List.cons.injEq, Prod.mk.injEq, and_true]
  omega
theorem forget_none {w : World} {cb dg ab : Nat} {lb : Array Value} (h : ∃ D : DataW Unit, w.ownsMap Tryz.prog 185 (plainElem Tryz.prog 157) cb 0 D) (K : Keyed Tryz.prog 185) :
 Calls Tryz.prog 130 #[.map (some cb), .pointer (some ⟨ab, 0, none⟩), .func (.func dg) #[] lb] w fun e w' => e = .returned (.tuple #[]) ∧ Below w.heap.size w w' := by
 obtain ⟨D, ho⟩ := h
 have hs := ho.size_le
 go_enter Tryz.func130, Tryz.ntmps130
 go_wp2_with (at_range; refine wpList_range_own _ rfl _ 145 rfl 185 157 K Tryz.underlying145 _ cb 0 _ rfl ho ?_; intro w0 hrg0 hg0 hs0)
 refine wp_loop_rounds 1 ?_
 rw [rounds_succ]
 go_wp2_with (at_next; refine wpList_next_ranges _ rfl _ rfl 185 K (plainElem Tryz.prog 157) (id : Value → Value) (id : Value → Value) (fun key kl h => ⟨key, rfl⟩) (fun v y h => ⟨v, rfl⟩) cb w.heap.size 0 _ _ _ rfl hrg0 ?_ ?_)
 ·intro _ _
  go_wp2
  go_end0
  exact ⟨rfl, (Below.refl _ w).grown hg0 (Nat.le_refl _) (fun k e => by cases e)⟩
 ·intro x c kl yd yp w2 cnt2 hkey hlk hv hat hrg2 hlt
  omega
end Go.Proofs.YtenfphbhofibjaaGreatDoor
namespace Go.Proofs.YtenfphbhofibjaaGreatDoor
open Go.ChangeShapes Go.WideShapes Go.ChangeAt Go.RowKit Go.Maps Go.Sort Go.Lib
theorem Below.frA {B base : Nat} {w w' : World} (h : Below w.heap.size w w') : Fr isA base w w' := ⟨h.os, h.tape, h.output, h.size, fun k hk _ => h.block k hk⟩
theorem take_snoc {l : List Int} {k : Nat} {r : Int} (h : l[k]? = some r) : l.take (k + 1) = l.take k ++ [r] := by rw [List.take_add_one, h]; rfl
theorem take_not_mem {l : List Int} {k : Nat} {r : Int} (hn : l.Nodup) (h : l[k]? = some r) : (l.take k).contains r = false := by
 have hk := lt_of_get h
 have e : l = l.take k ++ l.drop k := (List.take_append_drop k l).symm
 have hm : r ∈ l.drop k := by
  rw [List.mem_iff_getElem?]
  exact ⟨0, by rw [List.getElem?_drop]; simpa using h⟩
 rw [e] at hn
 have := (List.nodup_append.1 hn).2.2
 cases hc : (l.take k).contains r
 ·rfl
 ·simp at hc
  exact absurd rfl (this r hc r hm)
theorem collect_any {base ab dg cb : Nat} {lb : Array Value} {w : World} {s : St} {fl : Nat → List (Vl × Vl)} {dd : Int → Bool} {roots : List Int} {rv : Value} {p q : Int} {es : Array MapEntry} {clock : Nat} {RF : World → St → World → Prop} (hA : Arn base ab w s) (hO : Objs w s fl) (hl : s.slots.length ≤ 100000) (hu : ∀ (n : Nat) (sl : Sl), s.slots[n]? = some sl → sl.uses ≤ 1000000) (hr : RootsAt w rv roots) (hb : ∀ x ∈ roots, 0 ≤ x ∧ x ≤ 18446744073709551615) (hD : DeadF w dg lb dd)
 (hac : s.accs = [(p, q)]) (hp : 0 ≤ p ∧ p ≤ 1000000) (hun : s.unused.length ≤ 100000) (how : ∀ (i : Nat) (sl : Sl) (b : Nat) (o : Ob), s.slots[i]? = some sl → sl.obj = some (b, o) → o.ow = 0) (hcb : w.heap[cb]? = some (.map es clock))
 (hF : ∀ (W : World) (s' : St), Arn base ab W s' → Fr isA base w W → Calls Tryz.prog 130 #[.map (some cb), .pointer (some ⟨ab, 0, none⟩), .func (.func dg) #[] lb] W fun e w' => e = .returned (.tuple #[]) ∧ RF W s' w') :
 Calls Tryz.prog 98 #[.pointer (some ⟨ab, 0, none⟩), rv, .map (some cb), .func (.func dg) #[] lb] w fun e w' => ∃ S : List Int, e = .returned (.int .i64 ((allOf s).countP (outOf S))) ∧ (∀ x, x ∈ S ↔ Rch (lives s) (nmOf s fl dd) roots x) ∧ ∃ W s', Arn base ab W s' ∧ Fr isA base w W ∧ Gone s s' (allOf s) S p q ∧ RF W s' w' := by
 have HA : Hid (Arn base ab w s) := hA
 have HR : Hid (Calls Tryz.prog 96 #[.pointer (some ⟨ab, 0, none⟩), rv, .func (.func dg) #[] lb] w fun e w' => ∃ sb, e = .returned (.map (some sb)) ∧ ∃ S, RSet w' sb S ∧ (∀ x, x ∈ S ↔ Rch (lives s) (nmOf s fl dd) roots x) ∧ w.heap.size ≤ sb ∧ Below w.heap.size w w') := reach_any hA hO hl (fun n sl h => Nat.le_trans (hu n sl h) (by omega)) hr hb hD
 have HF : Hid (∀ (W : World) (s' : St), Arn base ab W s' → Fr isA base w W → Calls Tryz.prog 130 #[.map (some cb), .pointer (some ⟨ab, 0, none⟩), .func (.func dg) #[] lb] W fun e w' => e = .returned (.tuple #[]) ∧ RF W s' w') := hF
 have HU : Hid (∀ (n : Nat) (sl : Sl), s.slots[n]? = some sl → sl.uses ≤ 1000000) := hu
 have HOW : Hid (∀ (i : Nat) (sl : Sl) (b : Nat) (o : Ob), s.slots[i]? = some sl → sl.obj = some (b, o) → o.ow = 0) := how
 have HAC : Hid (s.accs = [(p, q)]) := hac
 obtain ⟨al, hal⟩ : ∃ al, al = allOf s := ⟨_, rfl⟩
 have hall : al.length ≤ s.slots.length := by rw [hal]; exact allTo_le _ _
 have hnd : al.Nodup := by rw [hal, allOf_eq]; exact nodup_allFrom (by omega)
 have HND : Hid al.Nodup := hnd
 have HAL : Hid (al = allOf s) := hal
 have HMEM : Hid (∀ r ∈ al, ∃ n u b o, s.slots[n]? = some ⟨u, some (b, o)⟩ ∧ r = refN u n) := fun r hr => by rw [hal, allOf_eq] at hr; obtain ⟨n, u, b, o, h1, h2⟩ := mem_allFrom.1 hr; exact ⟨n, u, b, o, h1, by simpa using h2⟩
 clear hA hO hr hb hD hF hu how hac hal hnd hcb
 go_enter Tryz.func98, Tryz.ntmps98
 go_wp2_with fail
 refine (orNone_some _ _ _).mono ?_
 rintro e w ⟨rfl, rfl⟩
 go_wp2_with fail
 refine HR.out.mono ?_
 rintro e w1 ⟨sb, rfl, S, hS1, hS, hsb, hb1⟩
 have HS : Hid (∀ x, x ∈ S ↔ Rch (lives s) (nmOf s fl dd) roots x) := hS
 have hA1 := HA.out.below hb1
 clear hS HR
 go_wp2_with fail
 refine (all_any hA1 (by omega) HU.out).mono ?_
 rintro e w2 ⟨va, rfl, hrow, hb2⟩
 have hS2 := hS1.kept (hb2.block _ hS1.lt)
 have hA2 := hA1.below hb2
 have hF2 : Fr isA base w w2 := (Below.frA (B := 0) (hb1.trans (hb2.mono hb1.size)))
 change w2.ownsRow w1.heap.size 157 1 va (allOf s).length ((allOf s).map (Value.int .u64)) at hrow
 rw [← HAL.out] at hrow
 obtain ⟨ar, cr, hva, hcr1, hcr2⟩ := row_shape hrow
 unfold maxLen at hcr2
 subst hva
 have G2 := Gone.start s S p q HAC.out
 clear hA1 hS1 hb1 hb2
 generalize w1.heap.size = b1 at hrow
 go_wp2_with fail
 go_loopw [22, 10] (fun i dr wr => ∃ k : Nat, k ≤ al.length ∧ i = .int .i64 k ∧ dr = .int .i64 ((al.take k).countP (outOf S) : Nat) ∧ (∃ s', Arn base ab wr s' ∧ Gone s s' (al.take k) S p q) ∧ RSet wr sb S ∧ wr.ownsRow b1 157 1 (.slice ar al.length cr) al.length (al.map (Value.int .u64)) ∧ Fr isA base w wr)
  (fun i _ _ => al.length - (intOf i).toNat)
 case atStart => exact ⟨0, Nat.zero_le _, rfl, rfl, ⟨_, hA2, by simpa using G2⟩, hS2, hrow, hF2⟩
 case round =>
  clear hA2 G2 hS2 hrow hF2
  obtain ⟨k, hk, rfl, rfl, ⟨s', hA, hG⟩, hS, hrow, hF⟩ := hrel
  by_cases hlt : k < al.length
  ·obtain ⟨r, hr⟩ : ∃ r, al[k]? = some r := ⟨_, List.getElem?_eq_getElem hlt⟩
   obtain ⟨n, u, b, o, hn, hrr⟩ := HMEM.out r (List.mem_of_getElem? hr)
   have hnl := lt_of_get hn
   have hul := HU.out n _ hn
   simp only at hul
   obtain ⟨g, cap, cur, hsl, hc1, hc2, _, _⟩ := row_at hrow (by omega)
   cases hsl
   have e0 : wr.cell? ⟨g, k, none⟩ = some (.int .u64 r) := (hrow.cellAt k (by omega)).trans (by simp [hr])
   have hidx : 0 ≤ (k : Int) ∧ (k : Int) < (al.length : Int) := ⟨by omega, by omega⟩
   have hrb : 0 ≤ r ∧ r ≤ 18446744073709551615 := by rw [hrr]; unfold refN; omega
   have hcl : (al.take k).countP (outOf S) ≤ k := Nat.le_trans List.countP_le_length (by simp; omega)
   have hts := take_snoc hr
   have hcs := count_snoc S (al.take k) r
   rw [← hts] at hcs
   have htn := take_not_mem HND.out hr
   have hGu := hG.un
   have hS3 := hS
   cases hc : S.contains r with
   | true =>
    rw [hc] at hcs
    simp only [if_true, Nat.add_zero] at hcs
    have hG2 := hG.keep hc
    rw [← hts] at hG2
    have HH : Hid (Calls Tryz.prog 97 #[.map (some sb), .int .u64 r] wr fun e w' => e = .returned (.bool true) ∧ w' = wr.alloc (.cells #[] 189)) := by have := rset_has hS r hrb.1 hrb.2; rw [hc] at this; exact this
    have HG : Hid (Gone s s' (al.take (k + 1)) S p q) := hG2
    have HCS : Hid ((al.take (k + 1)).countP (outOf S) = (al.take k).countP (outOf S)) := hcs
    have HROW : Hid (wr.ownsRow b1 157 1 (.slice (some ⟨g, 0, none⟩) al.length cr) al.length (al.map (Value.int .u64))) := hrow
    have HSS : Hid (RSet wr sb S) := hS
    clear hG hG2 hts hcs htn hGu hS3 hrow hS hr hrr hn
    go_wp2_with fail
    refine HH.out.mono ?_
    rintro e w4 ⟨rfl, rfl⟩
    go_wp2_with fail
    exact ⟨⟨k + 1, by omega, by go_num, by rw [HCS.out], ⟨_, hA.alloc _, HG.out⟩, HSS.out.kept (Below.heap_alloc _ _ _ HSS.out.lt), HROW.out.alloc _, hF.alloc _⟩, by simp [intOf]; omega⟩
   | false =>
    rw [hc] at hcs
    simp only [Bool.false_eq_true, if_false] at hcs
    rw [hrr] at hc htn
    obtain ⟨d1, d2⟩ := hG.drop hn (by omega) hc htn
    rw [← hrr, ← hts] at d2
    have hgu2 : s'.unused.length ≤ 1000000 := by have h9 : (al.take k).length ≤ k := List.length_take_le _ _; omega
    have HDR : Hid (∀ W, W = wr.alloc (.cells #[] 189) → Calls Tryz.prog 121 #[.pointer (some ⟨ab, 0, none⟩), .int .u64 r] W fun e w' => e = .returned (.tuple #[]) ∧ Arn base ab w' ⟨s'.accs.set 0 (p - ((al.take k).countP (outOf S) : Nat) - 1, q), s'.slots.set n ⟨u, none⟩, s'.unused ++ [n]⟩ ∧ Fr isA base W w') := fun W hW => by
     rw [hW]
     exact drop_some (hA.alloc _) r n u b 0 o _ q (by rw [hrr]; rfl) (by omega) (by omega) d1 (by rw [HOW.out n _ b o hn rfl]; rfl) (by rw [hG.accs]; rfl) (by omega) (by omega) hgu2
    have HG : Hid (Gone s ⟨s'.accs.set 0 (p - ((al.take k).countP (outOf S) : Nat) - 1, q), s'.slots.set n ⟨u, none⟩, s'.unused ++ [n]⟩ (al.take (k + 1)) S p q) := by
     have := d2 (s'.unused ++ [n]) (by simp)
     show Gone _ _ _ _ _ _
     rw [hG.accs]
     exact this
    have HH : Hid (Calls Tryz.prog 97 #[.map (some sb), .int .u64 r] wr fun e w' => e = .returned (.bool false) ∧ w' = wr.alloc (.cells #[] 189)) := by have := rset_has hS r hrb.1 hrb.2; rw [hrr, hc] at this; rw [hrr]; exact this
    have HCS : Hid ((al.take (k + 1)).countP (outOf S) = (al.take k).countP (outOf S) + 1) := hcs
    have HROW : Hid (wr.ownsRow b1 157 1 (.slice (some ⟨g, 0, none⟩) al.length cr) al.length (al.map (Value.int .u64))) := hrow
    have HSS : Hid (RSet wr sb S) := hS
    clear hG hts hcs htn hGu hS3 hrow hS hr hrr hn d1 d2 hc
    go_wp2_with fail
    refine HH.out.mono ?_
    rintro e w4 ⟨rfl, hw4⟩
    have hF4 : Fr isA base wr w4 := by rw [hw4]; exact (Fr.refl _ _ _).alloc _
    have HD4 := HDR.out w4 hw4
    clear hw4 HDR HH
    go_wp2_with fail
    refine HD4.mono ?_
    rintro e w5 ⟨rfl, hA5, hF5⟩
    have F5 := hF4.trans hF5
    obtain ⟨es, clock, hm, _⟩ := HSS.out.block
    clear HD4
    go_wp2_with fail
    exact ⟨⟨k + 1, by omega, by go_num, by rw [HCS.out]; go_num, ⟨_, hA5, HG.out⟩, HSS.out.kept ((F5.map hm).trans hm.symm), F5.row HROW.out rfl, hF.trans F5⟩, by simp [intOf]; omega⟩
  ·obtain rfl : k = al.length := by omega
   rw [List.take_length] at hG ⊢
   have HC := HF.out wr s' hA hF
   have HRR : Hid (Gone s s' al S p q) := hG
   clear hS hrow hG
   go_wp2_with fail
   refine HC.mono ?_
   rintro e w9 ⟨rfl, hRF⟩
   clear HC
   go_wp2
   go_ret
   exact ⟨S, by rw [← HAL.out]; rfl, HS.out, wr, s', hA, hF, by have := HRR.out; rw [HAL.out] at this; exact this, hRF⟩
end Go.Proofs.YtenfphbhofibjaaGreatDoor

/-
  What the laws of layer 4 call besides: light, the closures pick and isDead.
  Conditions: as each theorem says.
-/
import Derived.Test.YtbnncmiihlmkgaaOpenO
import Derived.Test.YtbnncmiihlmkgaaMakeN
import Derived.Test.YtbnncmiihlmkgaaLaw
namespace Go.Proofs.Ytbnncmiihlmkgaa
open Go.ChangeShapes Go.WideShapes Go.ChangeAt Go.RowKit Go.Maps Go.Sort Go.Lib
set_option linter.unusedVariables false
/-- Small enough? -/
def lightB (L : List OO) (r : List Int) : Bool := L.all (fun oo => decide (oo.names.length ≤ 10)) && (decide (L.length ≤ 30) && decide (0 < L.length) && decide (r.length ≤ 10))
theorem light_tail {c : Nat} {n m : Nat} : (decide (n ≤ 30) && decide (0 < n) && decide (m ≤ 10)) = (if n ≤ 30 then (if 0 < n then decide (m ≤ 10) else false) else false) := by
  by_cases h1 : n ≤ 30 <;> by_cases h2 : 0 < n <;> simp [h1, h2]
set_option maxRecDepth 100000 in
set_option maxHeartbeats 2000000 in
theorem light_any {w : World} {a : Option Addr} {len cap : Nat} {L : List OO} {rv : Value} {r : List Int} (hl : len ≤ maxLen) (hL : (len = 0 ∧ L = []) ∨ (L.length = len ∧ ORowU w (.slice a len cap) L)) (hr : BRow w rv r) :
    Calls Try.prog 18 #[.slice a len cap, rv] w fun e w' => e = .returned (.bool (lightB L r)) ∧ Below w.heap.size w w' := by
  obtain ⟨ra, rcap, rfl, hr1, hr2, _, _⟩ := hr
  unfold maxLen at hr2 hl
  have hLl : L.length = len := by rcases hL with ⟨h1, h2⟩ | ⟨h1, _⟩; simp [h1, h2]; exact h1
  have HC : Hid (∀ i oo, L[i]? = some oo → ∃ b off, a = some ⟨b, off, none⟩ ∧ OAt w b (off + i * 3) oo) := fun i oo hi => by
    rcases hL with ⟨h1, h2⟩ | ⟨h1, b, off, c, h2, _, _, h4⟩
    · rw [h2] at hi; simp at hi
    · simp at h2
      exact ⟨b, off, h2.1, h4 i oo hi⟩
  clear hL
  subst hLl
  go_enter Try.func18, Try.ntmps18
  go_wp2_with fail
  go_loopw [9] (fun i wr => ∃ k : Nat, k ≤ L.length ∧ i = .int .i64 k ∧ (L.take k).all (fun oo => decide (oo.names.length ≤ 10)) = true ∧ Below w.heap.size w wr)
    (fun i _ => L.length - (intOf i).toNat)
  case atStart => exact ⟨0, Nat.zero_le _, rfl, by simp, Below.refl _ _⟩
  case round =>
    obtain ⟨k, hk, rfl, hall, hb⟩ := hrel
    have HALL : Hid ((L.take k).all (fun oo => decide (oo.names.length ≤ 10)) = true) := hall
    clear hall
    by_cases hlt : k < L.length
    · obtain ⟨oo, hoo⟩ : ∃ oo, L[k]? = some oo := ⟨_, List.getElem?_eq_getElem hlt⟩
      obtain ⟨b, off, rfl, hbl, na, ncap, f0, f1, f2, _, _, n0, n1, _, _⟩ := HC.out k oo hoo
      have q0 := (hb.cell (p := ⟨b, off + k * 3, none⟩) hbl).trans f0
      have q1 := (hb.cell (p := ⟨b, off + k * 3 + 1, none⟩) hbl).trans f1
      have q2 := (hb.cell (p := ⟨b, off + k * 3 + 2, none⟩) hbl).trans f2
      have hidx : 0 ≤ (k : Int) ∧ (k : Int) < (L.length : Int) := ⟨by omega, by omega⟩
      have hts : (L.take (k + 1)).all (fun oo => decide (oo.names.length ≤ 10)) = ((L.take k).all (fun oo => decide (oo.names.length ≤ 10)) && decide (oo.names.length ≤ 10)) := by
        rw [List.take_add_one, hoo]; simp
      have hmem : oo ∈ L := List.mem_of_getElem? hoo
      unfold maxLen at n1
      have hbs := hb.size
      clear f0 f1 f2 hoo
      by_cases hn : oo.names.length ≤ 10
      · have HT : Hid ((L.take (k + 1)).all (fun oo => decide (oo.names.length ≤ 10)) = true) := by show _ = _; rw [hts, HALL.out]; simp [hn]
        clear hts
        go_wp2_with fail
        exact ⟨⟨k + 1, by omega, by go_num, HT.out, hb.alloc hbs _⟩, by simp [intOf]; omega⟩
      · have hF : Hid (lightB L r = false) := by
          show _ = _
          unfold lightB
          have : L.all (fun oo => decide (oo.names.length ≤ 10)) = false := by
            rw [List.all_eq_false]
            exact ⟨oo, hmem, by simpa using hn⟩
          rw [this]; rfl
        clear hts
        go_wp2
        go_ret
        exact ⟨ret_bool hF.out.symm, hb.alloc hbs _⟩
    · obtain rfl : k = L.length := by omega
      have hA := HALL.out
      rw [List.take_length] at hA
      have hF : Hid (lightB L r = (decide (L.length ≤ 30) && decide (0 < L.length) && decide (r.length ≤ 10))) := by show _ = _; unfold lightB; rw [hA]; rfl
      clear hA HALL
      by_cases h1 : L.length ≤ 30
      · by_cases h2 : 0 < L.length
        · go_wp2
          go_ret
          exact ⟨ret_bool (by rw [hF.out]; simp only [h1, h2, decide_true, Bool.true_and]; exact decide_eq_decide.2 (by omega)), hb⟩
        · obtain h2 : L.length = 0 := by omega
          rw [h2]
          go_wp2
          go_ret
          exact ⟨ret_bool (by rw [hF.out]; simp [h2]), hb⟩
      · have h3 : decide ((L.length : Int) ≤ 30) = false := by simp; omega
        go_wp2
        go_ret
        exact ⟨ret_bool (by rw [hF.out]; simp [h1]), hb⟩
/-- Refs that bytes name. -/
def picks (n : Nat) (l : List Int) : List Int := l.map fun b => refI (atN n b)
theorem picks_snoc {n : Nat} {l : List Int} {k : Nat} {x : Int} (h : l[k]? = some x) : picks n (l.take (k + 1)) = picks n (l.take k) ++ [refI (atN n x)] := by
  unfold picks
  rw [List.take_add_one, h]; simp
/-- The row of Refs, as it is only looked at. -/
def RefsAt (w : World) (rg n : Nat) : Prop := rg < w.heap.size ∧ ∀ j, j < n → w.cell? ⟨rg, j, none⟩ = some (.int .u64 (refI j))
theorem RefsAt.below {w w' : World} {rg n : Nat} (h : RefsAt w rg n) (hb : Below w.heap.size w w') : RefsAt w' rg n :=
  ⟨Nat.lt_of_lt_of_le h.1 hb.size, fun j hj => (hb.cell (p := ⟨rg, j, none⟩) h.1).trans (h.2 j hj)⟩
set_option maxRecDepth 100000 in
set_option maxHeartbeats 2000000 in
theorem pick_any {w : World} {bx rg n cr : Nat} {v : Value} {l : List Int} (hv : BRow w v l) (hl : l.length ≤ 1000) (hn : 0 < n) (hn2 : n ≤ 1000) (hcr : cr ≤ maxLen) (hbx : w.heap[bx]? = some (.cells #[.slice (some ⟨rg, 0, none⟩) n cr] 44 (0, 0))) (hrf : RefsAt w rg n) :
    Calls Try.prog 33 #[v, .pointer (some ⟨bx, 0, none⟩)] w fun e w' => ∃ rv, e = .returned rv ∧ w'.ownsRow w.heap.size 28 1 rv l.length (refRow (picks n l)) ∧ Below w.heap.size w w' := by
  obtain ⟨a, cap, rfl, hc1, hc2, hx, hg⟩ := hv
  unfold maxLen at hc2 hcr
  have HX : Hid (∀ x ∈ l, 0 ≤ x ∧ x ≤ 255) := hx
  have HG : Hid (l ≠ [] → ∃ g off, a = some ⟨g, off, none⟩ ∧ g < w.heap.size ∧ ∀ j x, l[j]? = some x → w.cell? ⟨g, off + j, none⟩ = some (.int .u8 x)) := hg
  have HB : Hid (w.heap[bx]? = some (.cells #[.slice (some ⟨rg, 0, none⟩) n cr] 44 (0, 0))) := hbx
  have HR : Hid (RefsAt w rg n) := hrf
  clear hx hg hbx hrf
  go_enter Try.func33, Try.ntmps33
  go_wp2_with fail
  go_loopw [9, 4] (fun i rv wr => ∃ k : Nat, k ≤ l.length ∧ i = .int .i64 k ∧ wr.ownsRow w.heap.size 28 1 rv k (refRow (picks n (l.take k))) ∧ Below w.heap.size w wr)
    (fun i _ _ => l.length - (intOf i).toNat)
  case atStart => exact ⟨0, Nat.zero_le _, rfl, World.ownsRow_nil _ _ _ _, Below.refl _ _⟩
  case round =>
    obtain ⟨k, hk, rfl, hrow, hb⟩ := hrel
    by_cases hlt : k < l.length
    · obtain ⟨x, hx⟩ : ∃ x, l[k]? = some x := ⟨_, List.getElem?_eq_getElem hlt⟩
      have hxr := HX.out x (List.mem_of_getElem? hx)
      obtain ⟨t, rfl⟩ : ∃ t : Nat, x = (t : Int) := ⟨x.toNat, by omega⟩
      obtain ⟨g, off, hga, hgl, hgc⟩ := HG.out (by rintro e; rw [e] at hlt; simp at hlt)
      subst hga
      have q0 := (hb.cell (p := ⟨g, off + k, none⟩) hgl).trans (hgc k _ hx)
      have htl : t % n < n := Nat.mod_lt _ hn
      have hR2 := HR.out.below hb
      have e0 := hR2.2 (t % n) htl
      have hrl := hR2.1
      have hbx2 := (hb.block bx (lt_of_block HB.out)).trans HB.out
      have hbl : bx < wr.heap.size := lt_of_block hbx2
      obtain ⟨c0, cf⟩ := box1 hbx2
      have hidx : 0 ≤ (k : Int) ∧ (k : Int) < (l.length : Int) := ⟨by omega, by omega⟩
      have ht255 : t ≤ 255 := by omega
      have hn0 : ((n : Int) == 0) = false := by rw [beq_eq_false_iff_ne]; omega
      have hne : ¬ n = 0 := by omega
      have hwt : IntKind.i64.wrap (t : Int) = (t : Int) := by simp [IntKind.wrap, IntKind.bits, IntKind.signed]; omega
      have htm : ((t : Int)).tmod (n : Int) = ((t % n : Nat) : Int) := by rw [Int.tmod_eq_emod_of_nonneg (by omega)]; omega
      have hix : 0 ≤ (t : Int) % (n : Int) ∧ (t : Int) % (n : Int) < (n : Int) := ⟨by omega, by omega⟩
      have htn : ((t : Int) % (n : Int)).toNat = t % n := by omega
      have HS : Hid (picks n (l.take (k + 1)) = picks n (l.take k) ++ [refI (t % n)]) := by show _ = _; rw [picks_snoc hx, atN_nat]
      have hbs := hb.size
      obtain ⟨ti, hti, hz0, hz1, hz2⟩ := info_parts Try.info28
      have HRW : Hid (wr.ownsRow w.heap.size 28 1 _ k (refRow (picks n (l.take k)))) := hrow
      clear hx hgc hR2 hbx2 hrow
      go_wp2_with fail
      go_region_law (refine step_append_own rfl (.tmp 13) (.tmp 22) 44 rfl w.heap.size 28 ti (.int .u64 0) 1 8 Try.underlying44 hti hz0 hz1 hz2 rfl (by decide) u4 k _ (by first | (simp [Act.eval]; done) | (simp [Act.eval, Act.put]; done)) (by exact (HRW.out.drew).alloc _) ⟨wr.heap.size, 0, none⟩ 1 1 [.int .u64 (refI (t % n))] (by first | (simp [Act.eval]; done) | (simp [Act.eval, Act.put]; done)) rfl (by exact fun j u hj => by have := one_news (w := wr) (t := 28) j u hj; simpa using this) (by intro u hu; simp at hu; subst hu; rfl) (by unfold maxLen; omega) (by omega) (by simp; omega) ?_; intro v' w7 hown' hgrow)
      all_goals
        have hb7 : Below w.heap.size w w7 := (below_drew (hb.alloc hbs _)).grown hgrow (by simp; omega) (fun j e => (HRW.out.lt j e).1)
        rw [refs_one, ← HS.out] at hown'
        clear hgrow
        go_wp2_with fail
        go_roundw
        case rel => exact ⟨k + 1, by omega, by go_num, hown', hb7⟩
        case measure => simp [intOf]; omega
    · obtain rfl : k = l.length := by omega
      rw [List.take_length] at hrow
      go_wp2
      go_ret
      exact ⟨_, rfl, hrow, hb⟩
end Go.Proofs.Ytbnncmiihlmkgaa

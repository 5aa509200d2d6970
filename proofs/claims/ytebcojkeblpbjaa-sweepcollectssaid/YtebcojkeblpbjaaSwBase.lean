/-
  What the laws of layer 4 call besides: light, the closures pick and isDead.
  Conditions: as each theorem says.
-/
import Derived.Test.YtebcojkeblpbjaaOpenO
import Derived.Test.YtebcojkeblpbjaaMakeN
import Derived.Test.YtebcojkeblpbjaaLaw
namespace Go.Proofs.Ytebcojkeblpbjaa
open Go.ChangeShapes Go.WideShapes Go.ChangeAt Go.RowKit Go.Maps Go.Sort Go.Lib
set_option linter.unusedVariables false
/-- Small enough? -/
def lightB (L : List OO) (r : List Int) : Bool := L.all (fun oo => decide (oo.names.length ≤ 10)) && (decide (L.length ≤ 30) && decide (0 < L.length) && decide (r.length ≤ 10))
theorem light_tail {c : Nat} {n m : Nat} : (decide (n ≤ 30) && decide (0 < n) && decide (m ≤ 10)) = (if n ≤ 30 then (if 0 < n then decide (m ≤ 10) else false) else false) := by
  by_cases h1 : n ≤ 30 <;> by_cases h2 : 0 < n <;> simp [h1, h2]
set_option maxRecDepth 100000 in
set_option maxHeartbeats 2000000 in
theorem light_any {w : World} {a : Option Addr} {len cap : Nat} {L : List OO} {rv : Value} {r : List Int} (hl : len ≤ maxLen) (hL : (len = 0 ∧ L = []) ∨ (L.length = len ∧ ORowU w (.slice a len cap) L)) (hr : BRow w rv r) :
    Calls Try.prog 17 #[.slice a len cap, rv] w fun e w' => e = .returned (.bool (lightB L r)) ∧ Below w.heap.size w w' := by
  obtain ⟨ra, rcap, rfl, hr1, hr2, _, _⟩ := hr
  unfold maxLen at hr2 hl
  have hLl : L.length = len := by rcases hL with ⟨h1, h2⟩ | ⟨h1, _⟩; simp [h1, h2]; exact h1
  have HC : Hid (∀ i oo, L[i]? = some oo → ∃ b off, a = some ⟨b, off, none⟩ ∧ OAt w b (off + i * 3) oo) := fun i oo hi => by
    rcases hL with ⟨h1, h2⟩ | ⟨h1, b, off, c, h2, _, _, h4⟩
    · rw [h2] at hi; simp at hi
    · simp at h2
      exact ⟨b, off, h2.1, h4 i oo hi⟩
  clear hL
  subst hLl
  go_enter Try.func17, Try.ntmps17
  go_wp2_with fail
  go_loopw [9] (fun i wr => ∃ k : Nat, k ≤ L.length ∧ i = .int .i64 k ∧ (L.take k).all (fun oo => decide (oo.names.length ≤ 10)) = true ∧ Below w.heap.size w wr)
    (fun i _ => L.length - (intOf i).toNat)
  case atStart => exact ⟨0, Nat.zero_le _, rfl, by simp, Below.refl _ _⟩
  case round =>
    obtain ⟨k, hk, rfl, hall, hb⟩ := hrel
    have HALL : Hid ((L.take k).all (fun oo => decide (oo.names.length ≤ 10)) = true) := hall
    clear hall
    by_cases hlt : k < L.length
    · obtain ⟨oo, hoo⟩ : ∃ oo, L[k]? = some oo := ⟨_, List.getElem?_eq_getElem hlt⟩
      obtain ⟨b, off, rfl, hbl, na, ncap, f0, f1, f2, _, _, n0, n1, _, _⟩ := HC.out k oo hoo
      have q0 := (hb.cell (p := ⟨b, off + k * 3, none⟩) hbl).trans f0
      have q1 := (hb.cell (p := ⟨b, off + k * 3 + 1, none⟩) hbl).trans f1
      have q2 := (hb.cell (p := ⟨b, off + k * 3 + 2, none⟩) hbl).trans f2
      have hidx : 0 ≤ (k : Int) ∧ (k : Int) < (L.length : Int) := ⟨by omega, by omega⟩
      have hts : (L.take (k + 1)).all (fun oo => decide (oo.names.length ≤ 10)) = ((L.take k).all (fun oo => decide (oo.names.length ≤ 10)) && decide (oo.names.length ≤ 10)) := by
        rw [List.take_add_one, hoo]; simp
      have hmem : oo ∈ L := List.mem_of_getElem? hoo
      unfold maxLen at n1
      have hbs := hb.size
      clear f0 f1 f2 hoo
      by_cases hn : oo.names.length ≤ 10
      · have HT : Hid ((L.take (k + 1)).all (fun oo => decide (oo.names.length ≤ 10)) = true) := by show _ = _; rw [hts, HALL.out]; simp [hn]
        clear hts
        go_wp2_with fail
        exact ⟨⟨k + 1, by omega, by go_num, HT.out, hb.alloc hbs _⟩, by simp [intOf]; omega⟩
      · have hF : Hid (lightB L r = false) := by
          show _ = _
          unfold lightB
          have : L.all (fun oo => decide (oo.names.length ≤ 10)) = false := by
            rw [List.all_eq_false]
            exact ⟨oo, hmem, by simpa using hn⟩
          rw [this]; rfl
        clear hts
        go_wp2
        go_ret
        exact ⟨ret_bool hF.out.symm, hb.alloc hbs _⟩
    · obtain rfl : k = L.length := by omega
      have hA := HALL.out
      rw [List.take_length] at hA
      have hF : Hid (lightB L r = (decide (L.length ≤ 30) && decide (0 < L.length) && decide (r.length ≤ 10))) := by show _ = _; unfold lightB; rw [hA]; rfl
      clear hA HALL
      by_cases h1 : L.length ≤ 30
      · by_cases h2 : 0 < L.length
        · go_wp2
          go_ret
          exact ⟨ret_bool (by rw [hF.out]; simp only [h1, h2, decide_true, Bool.true_and]; exact decide_eq_decide.2 (by omega)), hb⟩
        · obtain h2 : L.length = 0 := by omega
          rw [h2]
          go_wp2
          go_ret
          exact ⟨ret_bool (by rw [hF.out]; simp [h2]), hb⟩
      · have h3 : decide ((L.length : Int) ≤ 30) = false := by simp; omega
        go_wp2
        go_ret
        exact ⟨ret_bool (by rw [hF.out]; simp [h1]), hb⟩
/-- Refs that bytes name. -/
def picks (n : Nat) (l : List Int) : List Int := l.map fun b => refI (atN n b)
theorem picks_snoc {n : Nat} {l : List Int} {k : Nat} {x : Int} (h : l[k]? = some x) : picks n (l.take (k + 1)) = picks n (l.take k) ++ [refI (atN n x)] := by
  unfold picks
  rw [List.take_add_one, h]; simp
/-- The row of Refs, as it is only looked at. -/
def RefsAt (w : World) (rg n : Nat) : Prop := rg < w.heap.size ∧ ∀ j, j < n → w.cell? ⟨rg, j, none⟩ = some (.int .u64 (refI j))
theorem RefsAt.below {w w' : World} {rg n : Nat} (h : RefsAt w rg n) (hb : Below w.heap.size w w') : RefsAt w' rg n :=
  ⟨Nat.lt_of_lt_of_le h.1 hb.size, fun j hj => (hb.cell (p := ⟨rg, j, none⟩) h.1).trans (h.2 j hj)⟩
end Go.Proofs.Ytebcojkeblpbjaa

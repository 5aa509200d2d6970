/-
 The law ScopeInner.
 Conditions: the listed variables as they are laid.
-/
import Derived.Test.YtpboencfnjmmbaaGreatDoorZScLib
import Derived.Test.YtpboencfnjmmbaaGreatDoorZEzAw8
import Derived.Test.YtpboencfnjmmbaaGreatDoorZOpenX
set_option maxRecDepth 100000
set_option linter.unusedVariables false
set_option linter.unusedSimpArgs false
namespace Go.Proofs.YtpboencfnjmmbaaGreatDoor
open Go.RowKit TM
theorem sc_wf : ∀ {T : List TS}, (∀ e ∈ T, wfS e) → wfSs T
 | [], _ => trivial
 | e :: T, h => ⟨h e (by simp), sc_wf fun x hx => h x (by simp [hx])⟩
theorem sc_lenT : ∀ {T : List TS}, (∀ e ∈ T, (txS e).length ≤ 1000000) → (txSs T).length ≤ 1000000 * T.length
 | [], _ => by simp [txSs]
 | e :: T, h => by
  have h1 := h e (by simp)
  have h2 := sc_lenT (T := T) fun x hx => h x (by simp [hx])
  simp only [txSs, List.length_append, List.length_cons]
  omega
theorem sc_nm (n : Nat) : (nm n).size ≤ 3 := by
 unfold nm
 have h8 : n % 8 < 8 := Nat.mod_lt _ (by decide)
 generalize n % 8 = q at *
 rcases (show q = 0 ∨ q = 1 ∨ q = 2 ∨ q = 3 ∨ q = 4 ∨ q = 5 ∨ q = 6 ∨ q = 7 from by omega) with rfl | rfl | rfl | rfl | rfl | rfl | rfl | rfl <;> decide
theorem sc_wtN : ∀ l : List Nat, wtNs (l.map nm) ≤ 4 * l.length
 | [] => by simp [wtNs]
 | n :: l => by
  have h1 := sc_nm n
  have h2 := sc_wtN l
  simp only [List.map_cons, wtNs, List.length_cons]
  omega
theorem sc_wtP (l : List Nat) : wtNs (fnP l) ≤ 12 := by
 have h := sc_wtN (l.take 3)
 have : (l.take 3).length ≤ 3 := by rw [List.length_take]; omega
 unfold fnP
 omega
theorem sc_wtT {T : List TS} {n : Nat} (h : ∀ e ∈ T, wfS e ∧ dpS e ≤ 5 ∧ (txS e).length ≤ 1000000) (hn : T.length ≤ n) (h60 : n ≤ 60) : wtSs T ≤ 120000000 := by
 have h1 := wtSs_le (sc_wf fun e he => (h e he).1)
 have h2 := sc_lenT fun e he => (h e he).2.2
 omega
theorem ein_upS {w w' : World} {x : TE} {a b c : Value} (h : EIn (· < w.heap.size) w x a b c) (hb : Below w.heap.size w w') : EIn (· < w'.heap.size) w' x a b c := EIn.kept (fun k hk => ⟨Nat.lt_of_lt_of_le hk hb.size, hb.block k hk⟩) x h
end Go.Proofs.YtpboencfnjmmbaaGreatDoor
namespace Go.Proofs.YtpboencfnjmmbaaGreatDoor
open Go.ChangeShapes Go.WideShapes Go.ChangeAt Go.RowKit
theorem open_rowU8 {H : Type} {enc : TypeId × Value → H} {W : World} {sp : Nat → Bool} {a : Option Addr} {len cap : Nat} {d : DataW H} {p : List MemPlace}
 (h : DataW.Trod enc Tryz.prog W 0 sp true 73 (.slice a len cap) d p) : ∃ xs : List Nat, (∀ x ∈ xs, x ≤ 255) ∧ U8s W (.slice a len cap) xs := by
 obtain ⟨fuel, hf⟩ := h
 rcases Deep.open_slice Tryz.underlying73 hf with ⟨hcs, _⟩ | ⟨x, l, c, m, n, D, Pl, hcs, _, hl, hm, hmm, _, hx⟩
 ·simp [Value.cells] at hcs
  obtain ⟨rfl, rfl, rfl⟩ := hcs
  exact ⟨[], by simp, none, 0, rfl, Nat.le_refl _, by simp [maxLen], fun h => absurd h (by simp)⟩
 ·simp [Value.cells] at hcs
  obtain ⟨rfl, rfl, rfl⟩ := hcs
  by_cases hz : len = 0
  ·subst hz
   exact ⟨[], by simp, some x, cap, rfl, Nat.zero_le _, hm, fun h => absurd h (by simp)⟩
  have hlm : len ≤ m := by rw [hmm]; split <;> omega
  rw [cellsX8] at hx
  have each : ∀ i, i < len → ∃ q : Nat, q ≤ 255 ∧ W.cell? (x.add i) = some (.int .u8 (q : Int)) := by
   intro i hi
   obtain ⟨cs', h1, h2⟩ := hx i (by omega)
   obtain ⟨k0, hk0, _, w0⟩ := DataW.trod_int Tryz.underlying5 h2
   subst hk0
   obtain ⟨_, hlen, hcell⟩ := World.cells?_some h1
   have e0 := hcell 0 (by omega)
   have b0 := bounds_u8 w0
   obtain ⟨m0, rfl⟩ : ∃ m : Nat, k0 = (m : Int) := ⟨k0.toNat, by omega⟩
   rw [add_two] at e0
   exact ⟨m0, by omega, by simpa using e0⟩
  obtain ⟨b, off, spot⟩ := x
  obtain ⟨q0, _, h00⟩ := each 0 (by omega)
  have hspot : spot = none := by simpa [Addr.add] using World.cell?_spot h00
  subst hspot
  have hbl : b < W.heap.size := World.block_lt_of_cell? _ _ (by simpa [Addr.add] using h00)
  simp only [add_plain] at each
  obtain ⟨L, hL1, hL2⟩ := choose_rows len _ each
  refine ⟨L, fun y hy => ?_, some ⟨b, off, none⟩, cap, by rw [hL1], by rw [hL1]; exact hl, hm, fun _ => ⟨b, off, rfl, hbl, fun j y hj => (hL2 j y hj).2⟩⟩
  obtain ⟨i, hi⟩ := List.getElem?_of_mem hy
  exact (hL2 i y hi).1
end Go.Proofs.YtpboencfnjmmbaaGreatDoor

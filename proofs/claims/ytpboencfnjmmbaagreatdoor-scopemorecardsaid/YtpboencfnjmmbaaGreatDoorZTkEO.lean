/-
 The maker's expr at the lowest depths: leaves.
 Conditions: as each theorem says.
-/
import Derived.Test.YtpboencfnjmmbaaGreatDoorZTkLeaf
import Derived.Lib.ItoaLen
set_option linter.unusedVariables false
namespace Go.Proofs.YtpboencfnjmmbaaGreatDoor
open Go.RowKit TM
theorem nm_size (n : Nat) : (nm n).data.toList.length ≤ 3 := by
 have h8 : n % 8 < 8 := Nat.mod_lt _ (by decide)
 unfold nm
 generalize n % 8 = q at h8 ⊢
 rcases (show q = 0 ∨ q = 1 ∨ q = 2 ∨ q = 3 ∨ q = 4 ∨ q = 5 ∨ q = 6 ∨ q = 7 from by omega) with rfl | rfl | rfl | rfl | rfl | rfl | rfl | rfl <;> decide
theorem tx_size (n : Nat) : (tx n).data.toList.length ≤ 9 := by
 have h8 : n % 6 < 6 := Nat.mod_lt _ (by decide)
 unfold tx
 generalize n % 6 = q at h8 ⊢
 rcases (show q = 0 ∨ q = 1 ∨ q = 2 ∨ q = 3 ∨ q = 4 ∨ q = 5 from by omega) with rfl | rfl | rfl | rfl | rfl | rfl <;> decide
theorem numF_le (op : Nat) {x : XX} (h : x.ok) : 0 ≤ numF op x ∧ numF op x ≤ 9223372036854775807 := by
 have := h.2.2.1
 unfold numF
 split
 ·split <;> omega
 ·omega
theorem leaf_wf {op : Nat} (hop : op ≤ 5) {x : XX} (h : x.ok) : wfE (.mk op (numF op x) (textF op x) [] [] []) := by
 have hn := numF_le op h
 refine ⟨⟨by omega, hn.1, hn.2⟩, fun h => by omega, fun h => by omega, fun h => by omega, fun h => by omega, fun _ => rfl, fun h => ?_, fun h => ?_, fun h => ?_, fun h1 h2 => ?_, fun _ => ⟨rfl, rfl⟩, fun p hp => (by simp at hp), trivial, trivial⟩
 ·unfold numF; rw [if_neg h]
 ·unfold textF; rw [if_pos h]; exact tx_mem _
 ·unfold textF; rw [if_neg (by omega), if_pos h]; exact nm_mem _
 ·unfold textF; rw [if_neg h1, if_neg h2]
theorem leaf_len {op : Nat} (hop : op ≤ 5) {x : XX} (h : x.ok) : (txE (.mk op (numF op x) (textF op x) [] [] [])).length ≤ 100 := by
 have hn := numF_le op h
 rw [txE]
 rcases (show op = 0 ∨ op = 1 ∨ op = 2 ∨ op = 3 ∨ op = 4 ∨ op = 5 from by omega) with rfl | rfl | rfl | rfl | rfl | rfl
 ·show ([110, 105, 108] : Bs).length ≤ 100; decide
 ·show ([102, 97, 108, 115, 101] : Bs).length ≤ 100; decide
 ·show ([116, 114, 117, 101] : Bs).length ≤ 100; decide
 ·have := Lib.itoa_length_le (numF 3 x) (by omega) (by omega)
  show (Lib.itoa (numF 3 x)).length ≤ 100
  omega
 ·have h1 := (quoF_len (tx x.s).data.toList).2
  have h2 := tx_size x.s
  show (quoteT (tx x.s).data.toList).length ≤ 100
  simp only [quoteT, List.length_append, List.length_cons, List.length_nil]
  omega
 ·have h2 := nm_size x.s
  show (nm x.s).data.toList.length ≤ 100
  omega
theorem leaf_many {op : Nat} (hop : op ≤ 5) (x : XX) : manyF op x = 0 := by
 unfold manyF
 rw [if_neg (by omega), if_neg (by omega), if_neg (by omega), if_neg (by omega)]
theorem leaf_any {xs : List XX} {left D : Int} (hok : ∀ x ∈ xs, x.ok) (hl0 : -500000000 ≤ left) (hl1 : left ≤ 1000) (hD : (-1 ≤ D ∧ D ≤ 0) ∨ (1 ≤ D ∧ D ≤ 10 ∧ left - 1 ≤ 0)) {w : World} {mb : Nat} (hm : MkAt w mb xs left) :
 Calls Tryz.prog 74 #[.pointer (some ⟨mb, 0, none⟩), .int .i64 D] w fun en w' => ∃ a b c, en = .returned (exV (.mk ((hd xs).d % 18 % 6) (numF ((hd xs).d % 18 % 6) (hd xs)) (textF ((hd xs).d % 18 % 6) (hd xs)) [] [] []) a b c) ∧ MkAt w' mb xs.tail (left - 1) ∧ w.grownBy w' (some mb) ∧ EIn (Fresh w.heap.size w'.heap.size) w' (.mk ((hd xs).d % 18 % 6) (numF ((hd xs).d % 18 % 6) (hd xs)) (textF ((hd xs).d % 18 % 6) (hd xs)) [] [] []) a b c := by
 have h5 : (hd xs).d % 18 % 6 ≤ 5 := by have := Nat.mod_lt ((hd xs).d % 18) (show 0 < 6 by decide); omega
 rcases hD with ⟨h1, h2⟩ | ⟨h1, h2, h3⟩
 ·exact expr_leaf1 hok hl0 hl1 h1 h2 rfl hm (many := 0) (by decide) (numF_le _ (hd_ok hok)) rfl rfl (leaf_many h5 _).symm (fun _ => xs.tail) (fun _ => left - 1) (fun _ => noE) rfl rfl (fun j hj => absurd hj (by simp))
 ·exact expr_leaf2 hok hl0 hl1 h1 h2 h3 rfl hm (many := 0) (by decide) (numF_le _ (hd_ok hok)) rfl rfl (leaf_many h5 _).symm (fun _ => xs.tail) (fun _ => left - 1) (fun _ => noE) rfl rfl (fun j hj => absurd hj (by simp))
theorem eo_leaf {d : Nat} (hd1 : d ≤ 1) : EO d := by
 intro xs left hok hl0 hl1
 have hp : (1 : Int) ≤ (10 : Int) ^ d := by rcases (show d = 0 ∨ d = 1 from by omega) with rfl | rfl <;> decide
 have hp2 : 100 ≤ 100 * 10 ^ d := by rcases (show d = 0 ∨ d = 1 from by omega) with rfl | rfl <;> decide
 have h5 : (hd xs).d % 18 % 6 ≤ 5 := by have := Nat.mod_lt ((hd xs).d % 18) (show 0 < 6 by decide); omega
 refine ⟨_, xs.tail, left - 1, tail_ok hok, by simp, by omega, by omega, leaf_wf h5 (hd_ok hok), (by simp [dpE, dpEs, dpSs]), Nat.le_trans (leaf_len h5 (hd_ok hok)) hp2, fun w mb hm => leaf_any hok (by omega) hl1 (.inl ⟨by omega, by omega⟩) hm⟩
end Go.Proofs.YtpboencfnjmmbaaGreatDoor

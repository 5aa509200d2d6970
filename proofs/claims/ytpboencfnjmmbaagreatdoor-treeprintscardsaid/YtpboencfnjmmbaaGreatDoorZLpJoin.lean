/-
 The laws' join of layer 6: texts, commas between.
 Conditions: as each theorem says.
-/
import Derived.Test.YtpboencfnjmmbaaGreatDoorZTrB
set_option maxRecDepth 100000
set_option maxHeartbeats 2000000
set_option linter.unusedVariables false
namespace Go.Proofs.YtpboencfnjmmbaaGreatDoor
open Go.RowKit TM
theorem commas_snoc (l : List Bs) (x : Bs) : commas (l ++ [x]) = commas l ++ (if l.length = 0 then [] else [44, 32]) ++ x := by
 cases l with
 | nil => simp [commas]
 | cons y l => simp [commas]
theorem strAt_get {w : World} {g : Nat} : ∀ {l : List ByteArray} {o j : Nat} {x : ByteArray}, StrAt w g o l → l[j]? = some x → w.cell? ⟨g, o + j, none⟩ = some (.string x)
 | [], o, j, x, _, h => by simp at h
 | s :: l, o, 0, x, h, hx => by simp at hx; subst hx; exact h.1
 | s :: l, o, j + 1, x, h, hx => by
  have := strAt_get (j := j) h.2 (by simpa using hx)
  rwa [show o + 1 + j = o + (j + 1) from by omega] at this
def bl (p : ByteArray) : Bs := p.data.toList
def cmB (l : List ByteArray) : ByteArray := ⟨(commas (l.map bl)).toArray⟩
theorem cmB_size (l : List ByteArray) : (cmB l).size = (commas (l.map bl)).length := by simp [cmB, ByteArray.size]
theorem takeB_snoc {l : List ByteArray} {j : Nat} {x : ByteArray} (hx : l[j]? = some x) : l.take (j + 1) = l.take j ++ [x] := by
 rw [List.take_add_one, hx]; rfl
theorem cmB_snoc {l : List ByteArray} {j : Nat} {x : ByteArray} (hx : l[j]? = some x) : (j = 0 → cmB (l.take (j + 1)) = x) ∧ (0 < j → cmB (l.take (j + 1)) = cmB (l.take j) ++ ⟨#[44, 32]⟩ ++ x) ∧ (cmB (l.take (j + 1))).size = (cmB (l.take j)).size + (if j = 0 then 0 else 2) + x.size := by
 have hj := (List.getElem?_eq_some_iff.1 hx).1
 have hl : ((l.take j).map bl).length = j := by simp; omega
 have hc : commas ((l.take (j + 1)).map bl) = commas ((l.take j).map bl) ++ (if j = 0 then [] else [44, 32]) ++ bl x := by
  rw [takeB_snoc hx, List.map_append, List.map_cons, List.map_nil, commas_snoc, hl]
 refine ⟨fun h0 => ?_, fun h0 => ?_, ?_⟩
 ·subst h0
  have : commas ((l.take 0).map bl) = [] := rfl
  rw [this] at hc
  unfold cmB
  rw [hc]
  simp [bl]
 ·unfold cmB
  rw [hc, if_neg (by omega)]
  apply ByteArray.ext
  rw [ByteArray.data_append, ByteArray.data_append]
  simp [bl]
 ·rw [cmB_size, cmB_size, hc, List.length_append, List.length_append]
  have : (bl x).length = x.size := rfl
  rw [this]
  by_cases h0 : j = 0
  ·rw [if_pos h0, if_pos h0]; rfl
  ·rw [if_neg h0, if_neg h0]; rfl
theorem commas_take (l : List Bs) (j : Nat) : (commas (l.take j)).length ≤ (commas l).length := by
 have h : commas l = commas (l.take j ++ l.drop j) := by rw [List.take_append_drop]
 rw [h]
 cases l.take j with
 | nil => exact Nat.zero_le _
 | cons y m => simp [commas]
theorem cmB_take (l : List ByteArray) (j : Nat) : (cmB (l.take j)).size ≤ (cmB l).size := by
 rw [cmB_size, cmB_size, List.map_take]; exact commas_take _ _
theorem join_any {l : List ByteArray} {v : Value} {w : World} {P : Nat → Prop} (h : SlAt P v l.length (fun g o => StrAt w g o l)) (hl : (cmB l).size ≤ 1000000000) :
 Calls Tryz.prog 53 #[v] w fun e w' => e = .returned (.string (cmB l)) ∧ Below w.heap.size w w' := by
 obtain ⟨ao, cap, rfl, hc1, hc2, hg⟩ := h
 unfold maxLen at hc2
 have HG := Lib.hid hg
 have HL : Hid ((cmB l).size ≤ 1000000000) := hl
 clear hg hl
 go_enter Tryz.func53, Tryz.ntmps53
 go_wp2_with fail
 go_loopw [8, 3] (fun i s wr => ∃ (j : Nat) (T : ByteArray), i = .int .i64 (j : Int) ∧ j ≤ l.length ∧ s = .string T ∧ Hid (T = cmB (l.take j)) ∧ Hid (Below w.heap.size w wr) ∧ Hid (wr = w)) (fun i _ _ => l.length - (intOf i).toNat)
 case atStart => exact ⟨0, ⟨#[]⟩, rfl, Nat.zero_le _, rfl, rfl, Below.refl _ _, rfl⟩
 case round =>
  obtain ⟨j, T, rfl, hjl, rfl, HT, HB, HW⟩ := hrel
  by_cases hlt : j < l.length
  ·obtain ⟨g, o, rfl, _, hA⟩ := HG.out (by omega)
   obtain ⟨x, hx⟩ : ∃ x, l[j]? = some x := ⟨_, List.getElem?_eq_getElem hlt⟩
   obtain ⟨c1, c2, c3⟩ := cmB_snoc hx
   have hcell : wr.cell? ⟨g, o + j, none⟩ = some (.string x) := by rw [HW.out]; exact strAt_get hA hx
   have hb1 := cmB_take l (j + 1)
   have hb0 := HL.out
   have ht : (cmB (l.take j)).size = T.size := by rw [HT.out]
   rw [ht] at c3
   have hsum : T.size + (if j = 0 then 0 else 2) + x.size ≤ 1000000000 := by omega
   have C1 := Lib.hid c1
   have C2 := Lib.hid c2
   clear c1 c2 c3 hb1 hb0 ht hA hx
   by_cases h0 : j = 0
   ·subst h0
    have hT0 : T = ⟨#[]⟩ := by rw [HT.out]; rfl
    subst hT0
    simp only [Nat.add_zero] at hcell
    have hx9 : x.size ≤ 1000000000 := by omega
    have hxe : (⟨#[]⟩ : ByteArray) ++ x = x := by apply ByteArray.ext; rw [ByteArray.data_append]; simp
    have HXE := Lib.hid hxe
    clear hxe hsum
    go_wp2_with fail
    go_roundw
    case rel => exact ⟨1, _, by go_num, by omega, rfl, HXE.out.trans (C1.out rfl).symm, HB, HW⟩
    case measure => simp [intOf]; omega
   ·rw [if_neg h0] at hsum
    have hj0 : 0 < j := by omega
    have hs2 : T.size + 2 + x.size ≤ 1000000000 := hsum
    clear hsum
    have hT2 : T.size ≤ 999999998 := by omega
    have hsz2 : (T ++ ⟨#[44, 32]⟩).size = T.size + 2 := by
     have h : ((⟨#[44, 32]⟩ : ByteArray)).size = 2 := rfl
     rw [ByteArray.size_append, h]
    go_wp2_with fail
    go_roundw
    case rel => exact ⟨j + 1, _, by go_num, by omega, rfl, (by show _ = _; rw [HT.out]; exact (C2.out hj0).symm), HB, HW⟩
    case measure => simp [intOf]; omega
  ·have hje : j = l.length := by omega
   subst hje
   have hT : T = cmB l := by rw [HT.out, List.take_length]
   subst hT
   go_wp2
   go_ret
   exact ⟨rfl, HB.out⟩
end Go.Proofs.YtpboencfnjmmbaaGreatDoor

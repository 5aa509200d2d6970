/-
 The library's calls on rows of texts, as the laws of layer 8 make them.
 Conditions: as each theorem says.
-/
import Derived.Test.YtpboencfnjmmbaaGreatDoorZSh8
import Derived.Test.YtpboencfnjmmbaaGreatDoorZSw
import Derived.Test.YtpboencfnjmmbaaGreatDoorZScFn
import Derived.Lib.OwnBridge
set_option linter.unusedVariables false
namespace Go.Proofs.YtpboencfnjmmbaaGreatDoor
open Go.RowKit Go.Shelf Go.Lib Go.Sort TM
theorem bytes_beq (x y : ByteArray) : (x.toList == y.toList) = decide (x = y) := by
 rw [Bool.eq_iff_iff, beq_iff_eq, decide_eq_true_iff, ByteArray.toList_eq, ByteArray.toList_eq]
 exact ⟨fun h => ByteArray.ext (Array.toList_inj.1 h), fun h => by rw [h]⟩
theorem strAt_cell {w : World} {g : Nat} : ∀ {l : List ByteArray} {o : Nat}, StrAt w g o l → ∀ j, j < l.length → w.cell? ⟨g, o + j, none⟩ = some (.string l[j]!)
 | s :: l, o, h, 0, _ => by simpa using h.1
 | s :: l, o, h, j + 1, hj => by
  have := strAt_cell h.2 j (by simpa using hj)
  rw [show o + (j + 1) = o + 1 + j from by omega]
  simpa using this
theorem contS_any {l : List ByteArray} {P : Nat → Prop} {v : Value} {w : World} (h : SlAt P v l.length (fun g o => StrAt w g o l)) (s : ByteArray) :
 Calls Tryz.prog 37 #[v, .string s] w fun e w' => e = .returned (.bool (inN s l)) ∧ w' = w := by
 obtain ⟨a, cap, rfl, hc, hm, hg⟩ := h
 by_cases h0 : l.length = 0
 ·obtain rfl := List.length_eq_zero_iff.1 h0
  exact AnyE.slices_Contains_empty Tryz.contStrs a cap (.string s) w
 ·obtain ⟨g, o, rfl, _, hA⟩ := hg (by omega)
  refine (AnyE.slices_Contains Tryz.contStrs Value.string (fun x y => x.toList == y.toList) (.string _ _) g o l.length cap l s w (Nat.le_refl _) (by unfold maxLen at hm; omega) (strAt_cell hA)).mono ?_
  rintro e w' ⟨rfl, rfl⟩
  refine ⟨?_, rfl⟩
  rw [List.take_length]
  refine congrArg (fun b => Ending.returned (.bool b)) ?_
  unfold inN
  congr 1
  funext x
  rw [bytes_beq]
  exact decide_eq_decide.2 ⟨fun h => h.symm, fun h => h.symm⟩
theorem row_strs {w : World} {base : Nat} {v : Value} {l : List ByteArray} (h : w.ownsRow base 9 1 v l.length (l.map .string)) : SlAt (fun k => base ≤ k ∧ k < w.heap.size) v l.length (fun g o => StrAt w g o l) := by
 rcases h.2 with ⟨rfl, h0⟩ | ⟨g, cap, cur, rfl, hb, hg, h1, h2, h3, h4⟩
 ·exact ⟨none, 0, by rw [h0], by omega, by simp [maxLen], fun hn => by omega⟩
 ·exact ⟨_, cap, rfl, h1, h2, fun _ => ⟨g, 0, rfl, ⟨hb, lt_of_block hg⟩, strAt_row (n := l.length) hg (by rw [Nat.mul_one] at h4; exact h4)⟩⟩
theorem eqS_same {l : List ByteArray} {P Q : Nat → Prop} {v u : Value} {w : World} (hv : SlAt P v l.length (fun g o => StrAt w g o l)) (hu : SlAt Q u l.length (fun g o => StrAt w g o l)) :
 Calls Tryz.prog 29 #[v, u] w fun e w' => e = .returned (.bool true) ∧ ∃ q, w' = w.drewN q := by
 obtain ⟨a, cap, rfl, hc, hm, hg⟩ := hv
 obtain ⟨a2, cap2, rfl, hc2, hm2, hg2⟩ := hu
 by_cases h0 : l.length = 0
 ·obtain rfl := List.length_eq_zero_iff.1 h0
  refine (Any.slices_Equal_string_empty Tryz.eqSs a a2 cap 0 cap2 w (by omega)).mono ?_
  rintro e w' ⟨rfl, rfl⟩
  exact ⟨rfl, 0, rfl⟩
 ·obtain ⟨g, o, rfl, _, hA⟩ := hg (by omega)
  obtain ⟨g2, o2, rfl, _, hA2⟩ := hg2 (by omega)
  have key : ∀ (g o : Nat), StrAt w g o l → ∀ j, j < l.length → w.cell? ⟨g, o + j, none⟩ = some (.string (l.getD j ByteArray.empty)) := fun g o h j hj => by
   have := strAt_cell h j hj
   rwa [getElem!_pos l j hj, show l[j] = l.getD j ByteArray.empty from by simp [List.getD, hj]] at this
  refine (Any.slices_Equal_string Tryz.eqSs g o l.length cap g2 o2 l.length cap2 l l w (Nat.le_refl _) (Nat.le_refl _) (by unfold maxLen at hm; omega) (by unfold maxLen at hm; omega) (key g o hA) (key g2 o2 hA2)).mono ?_
  rintro e w' ⟨rfl, q, rfl⟩
  exact ⟨by simp, q, rfl⟩
theorem inner1_any {ps : List ByteArray} {P : Nat → Prop} {vp : Value} {b : Nat} {w : World} (hb : w.cell? ⟨b, 4, none⟩ = some vp) (h : SlAt P vp ps.length (fun g o => StrAt w g o ps)) (s : ByteArray) :
 Calls Tryz.prog 36 #[.string s, .pointer (some ⟨b, 0, none⟩)] w fun e w' => e = .returned (.bool (inN s ps)) ∧ w' = w := by
 have HC := Lib.hid (contS_any h s)
 obtain ⟨a, cap, rfl, _, _, _⟩ := h
 generalize inN s ps = z at HC
 go_enter Tryz.func36, Tryz.ntmps36
 go_wp2_with (go_at_call 37; refine HC.out.mono ?_; rintro e w1 ⟨rfl, rfl⟩)
 go_ret
 exact ⟨rfl, rfl⟩
theorem grown_putS {enc : ByteArray → Value} {w : World} {g q : Nat} {d : Array ByteArray} : w.grownBy (putRow enc (Sort.ahead w q) g 0 d) (some g) :=
 ⟨rfl, rfl, rfl, by simp [putRow, mapBlock, Sort.ahead], fun k hk hne => by
  simp [putRow, mapBlock, Sort.ahead, Array.getElem?_modify, show g ≠ k from fun e => hne (by rw [e])]⟩
theorem entersInner (args : Array Value) (w : World) : (callFunc 36 args).run Tryz.prog w = .ok (.enter 36 args) w := by kernel_rfl
theorem zeroStrS (w : World) : (zeroValue 9).run Tryz.prog w = .ok (.string ⟨#[]⟩) w := by kernel_rfl
theorem idxF_nil (f : Value) (w : World) : Calls Tryz.prog 60 #[.slice none 0 0, f] w fun e w' => e = .returned (.int .i64 (-1)) ∧ w' = w := by
 go_enter Tryz.func60, Tryz.ntmps60
 go_wp2_with fail
 go_loopw [8] (fun i wr => i = .int .i64 0 ∧ wr = w) (fun i _ => 0)
 case atStart => exact ⟨rfl, rfl⟩
 case round =>
  obtain ⟨rfl, rfl⟩ := hrel
  go_wp2
  go_ret
  exact ⟨rfl, rfl⟩
theorem delF_nil (f : Value) (w : World) : Calls Tryz.prog 34 #[.slice none 0 0, f] w fun e w' => e = .returned (.slice none 0 0) ∧ w' = w := by
 go_enter Tryz.func34, Tryz.ntmps34
 go_wp2_with (go_at_call 60; refine (idxF_nil _ _).mono ?_; rintro e w1 ⟨rfl, rfl⟩)
 go_ret
 exact ⟨rfl, rfl⟩
theorem delS_any {l ps : List ByteArray} {base b : Nat} {v vp : Value} {w : World} (h : w.ownsRow base 9 1 v l.length (l.map .string))
 (hb : w.cell? ⟨b, 4, none⟩ = some vp) (hbb : b < base) (hbl : base ≤ w.heap.size) (hp : SlAt (fun k => k < base) vp ps.length (fun g o => StrAt w g o ps)) :
 Calls Tryz.prog 34 #[v, .func (.func 36) #[] #[.pointer (some ⟨b, 0, none⟩)]] w fun e w' => ∃ v', e = .returned v' ∧ w'.ownsRow base 9 1 v' (outN ps l).length ((outN ps l).map .string) ∧ w.grownBy w' v.ownBlock := by
 have HX : ∀ W : World, (∀ k, k < base → W.heap[k]? = w.heap[k]?) → ∀ x, FnGives Tryz.prog 36 #[.pointer (some ⟨b, 0, none⟩)] #[.string x] (.bool (inN x ps)) W := fun W hW x =>
  (inner1_any (w := W) ((World.cell?_of_block (w := w) (hW b hbb)).trans hb) (SlAt.imp hp (fun k hk => hk) fun g o hg hA => StrAt.kept (hW g hg) ps _ hA) x).mono fun e w' ⟨h1, h2⟩ => ⟨h1, 0, by rw [h2]; rfl⟩
 by_cases h0 : v = .slice none 0 0
 ·subst h0
  obtain rfl : l = [] := by
   rcases h.2 with ⟨_, h1⟩ | ⟨g, cap, cur, h1, _⟩
   ·exact List.length_eq_zero_iff.1 h1
   ·simp at h1
  refine (delF_nil _ w).mono ?_
  rintro e w' ⟨rfl, rfl⟩
  exact ⟨_, rfl, World.ownsRow_nil _ _ _ _, ⟨rfl, rfl, rfl, Nat.le_refl _, fun _ _ _ => rfl⟩⟩
 ·obtain ⟨g, cap, rfl, hbg, hlt, hn, hm, _, hH⟩ := holds_of_ownsRow h h0
  have hc := AnyE.slices_DeleteFunc Tryz.delFStrs Value.string (fun _ => rfl) (fun x => inN x ps) 36 #[.pointer (some ⟨b, 0, none⟩)] entersInner ⟨#[]⟩ zeroStrS g 0 cap l.toArray w
   (fun W x hb2 => HX W (fun k hk => hb2.block k (by omega)) x)
   (fun n os dk x _ => HX _ (fun k hk => by
    unfold sortWorld
    rw [Go.Sort.heap_grow_old _ _ (by simp [putRow, mapBlock, Sort.ahead]; omega)]
    exact (grown_putS (w := w) (g := g) (q := n) (d := dk) (enc := Value.string)).block k (by omega) (by simp; omega)) x)
   hH (by unfold maxLen at hm; simp; omega) (by simpa using hn)
  refine Calls.mono hc ?_
  rintro e w' ⟨rfl, q, rfl⟩
  have e1 : (l.toArray.toList.filter fun x => !inN x ps) = outN ps l := by simp [outN]
  rw [e1]
  have hfl : (outN ps l).length ≤ l.length := List.length_filter_le _ _
  have := ownsRow_putRow (q := q) (k := (outN ps l).length) (ys := outN ps l ++ List.replicate (l.length - (outN ps l).length) ⟨#[]⟩) h (by simp only [List.length_append, List.length_replicate]; omega) hfl
  rw [List.take_left' rfl] at this
  exact ⟨_, rfl, by simpa using this, grown_putS⟩
end Go.Proofs.YtpboencfnjmmbaaGreatDoor

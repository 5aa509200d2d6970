/-
  Package valid: spans.
  Conditions: as each theorem says.
-/
import Derived.Test.YtpboencfnjmmbaaGreatDoorVdSmall
import Derived.Laws.MakeOwn
import Derived.Deep.RegionHeld3
namespace Go.Proofs.YtpboencfnjmmbaaGreatDoor
open Go.RowKit
set_option linter.unusedVariables false
set_option linter.unusedSimpArgs false
theorem infoSp : (Tryz.prog.info? 120).map (fun i => (i.zero, i.size, i.bytes)) = some (some (.agg #[.int .i64 0, .int .i64 0]), 2, 16) := by kernel_rfl
def lo (l : List Int) : Int := l.foldl (fun a x => if x < a then x else a) 0
def hi (l : List Int) : Int := l.foldl (fun a x => if a < x then x else a) 0
theorem lo_snoc (l : List Int) (x : Int) : lo (l ++ [x]) = if x < lo l then x else lo l := by unfold lo; rw [List.foldl_append]; rfl
theorem hi_snoc (l : List Int) (x : Int) : hi (l ++ [x]) = if hi l < x then x else hi l := by unfold hi; rw [List.foldl_append]; rfl
def part (k m j : Nat) (l : List Int) : List Int := if j < k then l else if j = k then l.take m else []
def SpC (fs : List VF) (k m : Nat) (cs : Array Value) : Prop := cs.size = fs.length * 2 ∧ ∀ j f, fs[j]? = some f → cs[j * 2]? = some (.int .i64 (lo (part k m j f.h))) ∧ cs[j * 2 + 1]? = some (.int .i64 (hi (part k m j f.h)))
theorem SpC.start (fs : List VF) : SpC fs 0 0 (madeCells (#[.int .i64 0, .int .i64 0] : Array Value) (fs.length * 2)) := by
  refine ⟨size_madeCells _ _, fun j f hf => ?_⟩
  have hj : j < fs.length := (List.getElem?_eq_some_iff.1 hf).1
  have e : part 0 0 j f.h = [] := by simp [part]
  rw [e]
  have h1 : j * 2 < fs.length * 2 := by omega
  have h2 : j * 2 + 1 < fs.length * 2 := by omega
  constructor
  · simp [madeCells, h1, lo, show j * 2 % 2 = 0 from by omega]
  · simp [madeCells, h2, hi, show (j * 2 + 1) % 2 = 1 from by omega]
theorem SpC.next {fs : List VF} {k : Nat} {f : VF} {cs : Array Value} (h : SpC fs k f.h.length cs) (hf : fs[k]? = some f) : SpC fs (k + 1) 0 cs := by
  refine ⟨h.1, fun j g hg => ?_⟩
  have e : part (k + 1) 0 j g.h = part k f.h.length j g.h := by
    unfold part
    by_cases h1 : j < k
    · simp [h1, show j < k + 1 from by omega]
    · by_cases h2 : j = k
      · subst h2
        rw [hf] at hg
        cases hg
        simp
      · simp [h1, h2, show ¬ j < k + 1 from by omega]
  rw [e]
  exact h.2 j g hg
theorem SpC.step {fs : List VF} {k m : Nat} {f : VF} {x : Int} {cs : Array Value} (h : SpC fs k m cs) (hf : fs[k]? = some f) (hx : f.h[m]? = some x) (a b : Int) (ha : a = if x < lo (f.h.take m) then x else lo (f.h.take m)) (hb : b = if hi (f.h.take m) < x then x else hi (f.h.take m)) :
    SpC fs k (m + 1) ((cs.setIfInBounds (k * 2) (.int .i64 a)).setIfInBounds (k * 2 + 1) (.int .i64 b)) := by
  have hk : k < fs.length := (List.getElem?_eq_some_iff.1 hf).1
  refine ⟨by simp [h.1], fun j g hg => ?_⟩
  have hz := h.1
  by_cases hj : j = k
  · subst hj
    rw [hf] at hg
    cases hg
    have e : part j (m + 1) j f.h = f.h.take m ++ [x] := by simp [part, List.take_add_one, hx]
    rw [e]
    constructor
    · rw [Array.getElem?_setIfInBounds_ne (by omega), Array.getElem?_setIfInBounds_self_of_lt (by omega)]
      rw [lo_snoc, ← ha]
    · rw [Array.getElem?_setIfInBounds_self_of_lt (by simp; omega)]
      rw [hi_snoc, ← hb]
  · have e : part k (m + 1) j g.h = part k m j g.h := by simp [part, hj]
    rw [e, Array.getElem?_setIfInBounds_ne (by omega), Array.getElem?_setIfInBounds_ne (by omega), Array.getElem?_setIfInBounds_ne (by omega), Array.getElem?_setIfInBounds_ne (by omega)]
    exact h.2 j g hg
theorem lo_bounds {l : List Int} (h : ∀ n ∈ l, Z64 n) : Z64 (lo l) := by
  unfold lo
  suffices ∀ a, Z64 a → Z64 (l.foldl (fun a x => if x < a then x else a) a) from this 0 (by unfold Z64; omega)
  induction l with
  | nil => exact fun a ha => ha
  | cons x l ih =>
    intro a ha
    refine ih (fun n hn => h n (by simp [hn])) _ ?_
    dsimp only
    split
    · exact h x (by simp)
    · exact ha
theorem hi_bounds {l : List Int} (h : ∀ n ∈ l, Z64 n) : Z64 (hi l) := by
  unfold hi
  suffices ∀ a, Z64 a → Z64 (l.foldl (fun a x => if a < x then x else a) a) from this 0 (by unfold Z64; omega)
  induction l with
  | nil => exact fun a ha => ha
  | cons x l ih =>
    intro a ha
    refine ih (fun n hn => h n (by simp [hn])) _ ?_
    dsimp only
    split
    · exact h x (by simp)
    · exact ha
set_option maxRecDepth 100000 in
set_option maxHeartbeats 2000000 in
theorem spans_any {fs : List VF} {v : Value} {w : World} (h : FSl w v fs) (hlen : fs.length ≤ 100) (hok : ∀ f ∈ fs, f.ok) :
    Calls Tryz.prog 39 #[v] w fun e w' => ∃ sb cs, e = .returned (.slice (some ⟨sb, 0, none⟩) fs.length fs.length) ∧ w'.heap[sb]? = some (.cells cs 120 (0, 0)) ∧ SpC fs fs.length 0 cs ∧ Below w.heap.size w w' := by
  have HF : Hid (FSl w v fs) := h
  have HOK : Hid (∀ f ∈ fs, f.ok) := hok
  obtain ⟨ad, cap, rfl, hc1, hx1, hg1⟩ := h
  unfold maxLen at hx1
  have HG := Lib.hid hg1
  clear hg1 hok
  obtain ⟨i0, hi0, hz0, hz1, hz2⟩ := info_parts infoSp
  have hmk := run_make (P := Tryz.prog) w 87 120 i0 _ Tryz.underlying87 hi0 hz0 .i64 .i64 (fs.length : Int) (fs.length : Int) (by omega) (Int.le_refl _) (by rw [hz2]; omega) (by omega)
  rw [hz1, Int.toNat_natCast] at hmk
  clear hi0 hz0 hz1 hz2
  go_enter Tryz.func39, Tryz.ntmps39
  go_wp2_with fail
  obtain ⟨w0, hw0⟩ : ∃ w0, w0 = w.alloc (.cells (madeCells (#[.int .i64 0, .int .i64 0] : Array Value) (fs.length * 2)) 120) := ⟨_, rfl⟩
  have HS0 : Hid (w0.heap[w.heap.size]? = some (.cells (madeCells (#[.int .i64 0, .int .i64 0] : Array Value) (fs.length * 2)) 120 (0, 0))) := by rw [hw0]; exact heap_alloc_new _ _
  have HB0 : Hid (Below w.heap.size w w0) := by rw [hw0]; exact bl0 _ _
  first | rw [← hw0] | skip
  clear hw0 hmk
  go_loopw [13] (fun i wr => ∃ k : Nat, i = .int .i64 (k : Int) ∧ k ≤ fs.length ∧ Hid (Below w.heap.size w wr) ∧ Hid (∃ cs, wr.heap[w.heap.size]? = some (.cells cs 120 (0, 0)) ∧ SpC fs k 0 cs))
    (fun i _ => fs.length - (intOf i).toNat)
  case atStart => exact ⟨0, rfl, Nat.zero_le _, HB0.out, _, HS0.out, SpC.start fs⟩
  case round =>
    obtain ⟨k, rfl, hk, HBk, HSk⟩ := hrel
    obtain ⟨W0, hW0⟩ : ∃ W0, W0 = wr := ⟨_, rfl⟩
    subst hW0
    by_cases hlt : k < fs.length
    · obtain ⟨f, hf⟩ : ∃ f, fs[k]? = some f := ⟨_, List.getElem?_eq_getElem hlt⟩
      have HFk : Hid (fs[k]? = some f) := hf
      obtain ⟨g, o, rfl, gl, A⟩ := HG.out (by omega)
      obtain ⟨hv, cv, iv, V0, c0, c1, c2, c3, c4⟩ := A k f hf
      have e : ∀ o, W0.cell? ⟨g, o, none⟩ = w.cell? ⟨g, o, none⟩ := fun o => vcell (HBk.out.block g gl)
      rw [← e] at c0 c1 c2 c3 c4
      obtain ⟨adh, caph, rfl, hch, hxh, hgh⟩ := V0.h
      obtain ⟨adc, capc, rfl⟩ := V0.c
      obtain ⟨adi, capi, rfl, _, _, _⟩ := V0.i
      unfold maxLen at hxh
      have HGH := Lib.hid hgh
      have hidx : 0 ≤ (k : Int) ∧ (k : Int) < (fs.length : Int) := ⟨by omega, by omega⟩
      clear A hf V0 hgh e
      go_wp2_with fail
      obtain ⟨W1, hW1⟩ : ∃ W1, W1 = W0.alloc (.cells #[.int .i64 f.p, .slice adh f.h.length caph, .int .i64 f.r, .slice adc f.nc capc, .slice adi f.cd.length capi] 47) := ⟨_, rfl⟩
      have HB1 : Hid (Below W0.heap.size W0 W1) := by rw [hW1]; exact bl0 _ _
      have hlt0 : w.heap.size < W0.heap.size := by obtain ⟨cs, h1, _⟩ := HSk.out; exact lt_of_block h1
      have HS1 : Hid (∃ cs, W1.heap[w.heap.size]? = some (.cells cs 120 (0, 0)) ∧ SpC fs k 0 cs) := by obtain ⟨cs, h1, h2⟩ := HSk.out; exact ⟨cs, (HB1.out.block _ hlt0).trans h1, h2⟩
      have HBk1 : Hid (Below w.heap.size w W1) := HBk.out.trans (HB1.out.mono (Nat.le_of_lt hlt0))
      first | rw [← hW1] | skip
      clear hW1 c0 c1 c2 c3 c4
      go_loopw [21] (fun i wr => ∃ m : Nat, i = .int .i64 (m : Int) ∧ m ≤ f.h.length ∧ Hid (Below w.heap.size w wr) ∧ Hid (∃ cs, wr.heap[w.heap.size]? = some (.cells cs 120 (0, 0)) ∧ SpC fs k m cs))
        (fun i _ => f.h.length - (intOf i).toNat)
      case atStart => exact ⟨0, rfl, Nat.zero_le _, HBk1.out, HS1.out⟩
      case round =>
        obtain ⟨m, rfl, hm, HBm, HSm⟩ := hrel
        obtain ⟨W2, hW2⟩ : ∃ W2, W2 = wr := ⟨_, rfl⟩
        subst hW2
        by_cases hlt2 : m < f.h.length
        · obtain ⟨x, hx⟩ : ∃ x, f.h[m]? = some x := ⟨_, List.getElem?_eq_getElem hlt2⟩
          obtain ⟨gh, oh, rfl, hgl, Ah⟩ := HGH.out (by omega)
          have hq := Ah m x hx
          rw [← vcell (HBm.out.block gh hgl)] at hq
          obtain ⟨cs, h1, h2⟩ := HSm.out
          obtain ⟨d0, d1⟩ := h2.2 k f HFk.out
          rw [show part k m k f.h = f.h.take m from by simp [part]] at d0 d1
          have hcs : cs.size = fs.length * 2 := h2.1
          have hidx2 : 0 ≤ (m : Int) ∧ (m : Int) < (f.h.length : Int) := ⟨by omega, by omega⟩
          obtain ⟨a, ha⟩ : ∃ a, a = if x < lo (f.h.take m) then x else lo (f.h.take m) := ⟨_, rfl⟩
          obtain ⟨b, hb⟩ : ∃ b, b = if hi (f.h.take m) < x then x else hi (f.h.take m) := ⟨_, rfl⟩
          have HN : Hid (SpC fs k (m + 1) ((cs.setIfInBounds (k * 2) (.int .i64 a)).setIfInBounds (k * 2 + 1) (.int .i64 b))) := h2.step HFk.out hx a b ha hb
          have HSK : Hid (Below w.heap.size w ((W2.setCell ⟨w.heap.size, k * 2, none⟩ (.int .i64 a)).setCell ⟨w.heap.size, k * 2 + 1, none⟩ (.int .i64 b))) := (HBm.out.setCell (by simp) _).setCell (by simp) _
          have HSC : Hid (((W2.setCell ⟨w.heap.size, k * 2, none⟩ (.int .i64 a)).setCell ⟨w.heap.size, k * 2 + 1, none⟩ (.int .i64 b)).heap[w.heap.size]? = some (.cells ((cs.setIfInBounds (k * 2) (.int .i64 a)).setIfInBounds (k * 2 + 1) (.int .i64 b)) 120 (0, 0))) := heap_setCell_same _ _ _ _ _ _ (heap_setCell_same _ _ _ _ _ _ h1)
          have e0 : W2.cell? ⟨w.heap.size, k * 2, none⟩ = some (.int .i64 (lo (f.h.take m))) := by simp only [World.cell?, h1]; exact d0
          have e1 : W2.cell? ⟨w.heap.size, k * 2 + 1, none⟩ = some (.int .i64 (hi (f.h.take m))) := by simp only [World.cell?, h1]; exact d1
          have f0 : W2.frozen? ⟨w.heap.size, k * 2, none⟩ = false := frozen_of_row _ _ _ _ _ h1
          have f1 : W2.frozen? ⟨w.heap.size, k * 2 + 1, none⟩ = false := frozen_of_row _ _ _ _ _ h1
          have HA := Lib.hid ha
          have HB := Lib.hid hb
          clear Ah hx h1 h2 d0 d1 ha hb
          go_wp2_with fail
          have hk2 : 0 ≤ (k : Int) ∧ (k : Int) < (fs.length : Int) := ⟨by omega, by omega⟩
          go_region
          rw [← HA.out, ← HB.out]
          obtain ⟨W3, hW3⟩ : ∃ W3, W3 = (W2.setCell ⟨w.heap.size, k * 2, none⟩ (.int .i64 a)).setCell ⟨w.heap.size, k * 2 + 1, none⟩ (.int .i64 b) := ⟨_, rfl⟩
          rw [← hW3] at HSK HSC ⊢
          clear hW3 e0 e1 f0 f1 hq
          go_wp2_with fail
          go_roundw
          case rel => exact ⟨m + 1, by go_num, by omega, HSK.out.drew, _, HSC.out, HN.out⟩
          case measure => simp [intOf]; omega
        · obtain rfl : m = f.h.length := by omega
          have HS3 : Hid (∃ cs, W2.heap[w.heap.size]? = some (.cells cs 120 (0, 0)) ∧ SpC fs (k + 1) 0 cs) := by obtain ⟨cs, h1, h2⟩ := HSm.out; exact ⟨cs, h1, h2.next HFk.out⟩
          go_wp2_with fail
          go_roundw
          case rel => exact ⟨k + 1, by go_num, by omega, HBm.out, HS3.out⟩
          case measure => simp [intOf]; omega
    · obtain rfl : k = fs.length := by omega
      obtain ⟨cs, h1, h2⟩ := HSk.out
      have HR : Hid (W0.heap[w.heap.size]? = some (.cells cs 120 (0, 0)) ∧ SpC fs fs.length 0 cs) := ⟨h1, h2⟩
      clear h1 h2
      go_wp2
      go_ret
      exact ⟨_, _, rfl, HR.out.1, HR.out.2, HBk.out⟩
end Go.Proofs.YtpboencfnjmmbaaGreatDoor

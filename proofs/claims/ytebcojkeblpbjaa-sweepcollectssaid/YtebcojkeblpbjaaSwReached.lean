/-
  The laws' reached: what it marks.
  Conditions: as each theorem says.
-/
import Derived.Test.YtebcojkeblpbjaaRounds
import Derived.Test.YtebcojkeblpbjaaSwJoins
namespace Go.Proofs.Ytebcojkeblpbjaa
open Go.ChangeShapes Go.WideShapes Go.ChangeAt Go.RowKit Go.Maps Go.Sort Go.Lib
set_option linter.unusedVariables false
/-- A row of numbers that is only looked at. -/
def IRow (w : World) (v : Value) (l : List Nat) : Prop :=
  ∃ a cap, v = .slice a l.length cap ∧ l.length ≤ cap ∧ cap ≤ maxLen ∧ (l ≠ [] → ∃ g off, a = some ⟨g, off, none⟩ ∧ g < w.heap.size ∧ ∀ (j x : Nat), l[j]? = some x → w.cell? ⟨g, off + j, none⟩ = some (.int .i64 (x : Int)))
theorem IRow.below {w w' : World} {v : Value} {l : List Nat} (h : IRow w v l) (hb : Below w.heap.size w w') : IRow w' v l := by
  obtain ⟨a, cap, h1, h2, h3, h5⟩ := h
  refine ⟨a, cap, h1, h2, h3, fun hne => ?_⟩
  obtain ⟨g, off, e1, e2, e3⟩ := h5 hne
  exact ⟨g, off, e1, Nat.lt_of_lt_of_le e2 hb.size, fun j x hj => (hb.cell (p := ⟨g, off + j, none⟩) e2).trans (e3 j x hj)⟩
def b01 (b : Bool) : Int := if b then 1 else 0
def ins (n : Nat) (f : Nat → Bool) : Array Value := ((List.range n).map fun j => Value.int .i64 (b01 (f j))).toArray
/-- The row of marks. -/
def InR (w : World) (g n : Nat) (f : Nat → Bool) : Prop := w.heap[g]? = some (.cells (ins n f) 3 (0, 0))
theorem InR.cell {w : World} {g n j : Nat} {f : Nat → Bool} (h : InR w g n f) (hj : j < n) : w.cell? ⟨g, j, none⟩ = some (.int .i64 (b01 (f j))) ∧ w.frozen? ⟨g, j, none⟩ = false := by
  refine ⟨?_, ?_⟩
  · rw [cell_of_row w g j _ 3 (0, 0) h]
    simp [ins, hj]
  · have h' : w.heap[g]? = some (.cells (ins n f) 3 (0, 0)) := h
    simp [World.frozen?, h']
theorem ins_put {n j : Nat} {f : Nat → Bool} (hj : j < n) : (ins n f).setIfInBounds j (.int .i64 1) = ins n (put1 f [j]) := by
  apply Array.ext_getElem?
  intro i
  rw [Array.getElem?_setIfInBounds]
  by_cases hi : j = i
  · subst hi
    simp [ins, hj, put1, b01]
  · simp only [hi, if_false, ins]
    by_cases hin : i < n
    · simp [hin, put1, b01, show ¬ i = j from fun e => hi e.symm]
    · simp [hin]
theorem InR.put {w : World} {g n j : Nat} {f : Nat → Bool} (h : InR w g n f) (hj : j < n) : InR (w.setCell ⟨g, j, none⟩ (.int .i64 1)) g n (put1 f [j]) := by
  have := heap_setCell_same w g j _ 3 (.int .i64 1) h
  unfold InR
  rw [← ins_put hj]
  exact this
theorem made_ins (n : Nat) : madeCells (Value.int .i64 0).cells (n * 1) = ins n (fun _ => false) := by
  apply Array.ext_getElem?
  intro i
  by_cases hi : i < n
  · simp [madeCells, ins, b01, hi, Value.cells, Nat.mod_one]
  · simp [madeCells, ins, hi]
theorem put_roots {at_ : List Nat} {k x : Nat} (hx : at_[k]? = some x) : put1 (fun j => (at_.take k).contains j) [x] = fun j => (at_.take (k + 1)).contains j := by
  funext j
  rw [List.take_add_one, hx]
  simp [put1]
theorem put_none (f : Nat → Bool) : put1 f [] = f := by funext j; simp [put1]
theorem put_snoc (f : Nat → Bool) (l : List Nat) (x : Nat) : put1 (put1 f l) [x] = put1 f (l ++ [x]) := by funext j; simp [put1, Bool.or_assoc]
theorem names_snoc {n : Nat} {l : List Int} {m : Nat} {x : Int} (h : l[m]? = some x) : (l.take (m + 1)).map (atN n) = (l.take m).map (atN n) ++ [atN n x] := by rw [List.take_add_one, h]; simp
def lastTo (n : Nat) (l : List Int) (m : Nat) : List Nat := if m = l.length then (match l.getLast? with | none => [] | some b => [atN n b]) else []
theorem lastTo_less {n m : Nat} {l : List Int} (h : m < l.length) : lastTo n l m = [] := by unfold lastTo; rw [if_neg (by omega)]
theorem lastTo_zero (n : Nat) (l : List Int) : lastTo n l 0 = [] := by
  cases l with
  | nil => rfl
  | cons a l => exact lastTo_less (by simp)
theorem lastTo_end {n m : Nat} {l : List Int} {x : Int} (h : m + 1 = l.length) (hx : l[m]? = some x) : lastTo n l (m + 1) = [atN n x] := by
  unfold lastTo
  rw [if_pos h, List.getLast?_eq_getElem?, ← h, Nat.add_sub_cancel, hx]
theorem InR.lt {w : World} {g n : Nat} {f : Nat → Bool} (h : InR w g n f) : g < w.heap.size := lt_of_block h
set_option maxRecDepth 100000 in
set_option maxHeartbeats 4000000 in
theorem reached_any {w : World} {a : Option Addr} {cap : Nat} {L : List OO} {rv : Value} {at_ : List Nat} {d : Int} (hO : ORow w (.slice a L.length cap) L) (l30 : L.length ≤ 30) (l0 : 0 < L.length) (hr : IRow w rv at_) (hat : ∀ j ∈ at_, j < L.length) (hal : at_.length ≤ 1000) (hd0 : 0 ≤ d) (hd1 : d ≤ 255) :
    Calls Try.prog 23 #[.slice a L.length cap, rv, .int .u8 d] w fun e w' => ∃ g, e = .returned (.slice (some ⟨g, 0, none⟩) L.length L.length) ∧ w.heap.size ≤ g ∧ InR w' g L.length (rnds (nmL L (ddOf d)) L.length L.length (fun j => at_.contains j)) ∧ Below w.heap.size w w' := by
  obtain ⟨ra, rcap, rfl, hr1, hr2, hr3⟩ := hr
  obtain ⟨b, off, cap', hv, hc1, hc2, hat3⟩ := hO
  obtain ⟨rfl, rfl⟩ : a = some ⟨b, off, none⟩ ∧ cap = cap' := by simpa using hv
  unfold maxLen at hr2 hc2
  have HAT : Hid (∀ (w' : World), Below w.heap.size w w' → ∀ i oo, L[i]? = some oo → OAt w' b (off + i * 3) oo ∧ oo.names.length ≤ 1000) := fun w' hb i oo hi => ⟨(hat3 i oo hi).1.below hb, (hat3 i oo hi).2⟩
  have HR : Hid (at_ ≠ [] → ∃ g off, ra = some ⟨g, off, none⟩ ∧ g < w.heap.size ∧ ∀ (j x : Nat), at_[j]? = some x → w.cell? ⟨g, off + j, none⟩ = some (.int .i64 (x : Int))) := hr3
  have HJ : Hid (∀ j ∈ at_, j < L.length) := hat
  clear hat3 hr3 hat hv
  go_enter Try.func23, Try.ntmps23
  have hmk : (Instr.makeSlice 58 (.int .i64 (L.length : Int)) (.int .i64 (L.length : Int))).run Try.prog w = .ok (.slice (some ⟨w.heap.size, 0, none⟩) L.length L.length) (w.alloc (.cells (ins L.length (fun _ => false)) 3)) := by
    obtain ⟨ti, hti, hz0, hz1, hz2⟩ := info_parts (show (Try.prog.info? 3).map (fun i => (i.zero, i.size, i.bytes)) = some (some (.int .i64 0), 1, 8) by kernel_rfl)
    have := run_makeSlice (P := Try.prog) w 58 3 ti (.int .i64 0) Try.underlying58 hti hz0 .i64 .i64 L.length L.length (by omega) (by omega) (by rw [hz1]; omega) (by rw [hz2]; omega) (by omega)
    rw [hz1] at this
    rw [this, Int.toNat_natCast, made_ins]
  go_wp2_with fail
  have hi0 : InR (w.alloc (.cells (ins L.length (fun _ => false)) 3)) w.heap.size L.length (fun j => (at_.take 0).contains j) := by
    have : (fun j => (at_.take 0).contains j) = fun _ => false := by funext j; simp
    rw [this]
    exact heap_alloc_new w _
  have hb0 : Below w.heap.size w (w.alloc (.cells (ins L.length (fun _ => false)) 3)) := (Below.refl _ w).alloc (Nat.le_refl _) _
  clear hmk
  generalize w.alloc (.cells (ins L.length (fun _ => false)) 3) = w1 at hi0 hb0 ⊢
  obtain ⟨g, hg⟩ : ∃ g, g = w.heap.size := ⟨_, rfl⟩
  rw [← hg] at hi0 ⊢
  have HGE : Hid (w.heap.size ≤ g) := by show _ ≤ _; omega
  clear hg
  go_loopw [19] (fun i wr => ∃ k : Nat, k ≤ at_.length ∧ i = .int .i64 k ∧ Hid (InR wr g L.length (fun j => (at_.take k).contains j) ∧ Below w.heap.size w wr))
    (fun i _ => at_.length - (intOf i).toNat)
  case atStart => exact ⟨0, Nat.zero_le _, rfl, ⟨hi0, hb0⟩⟩
  case round =>
    obtain ⟨k, hk, rfl, HI⟩ := hrel
    by_cases hlt : k < at_.length
    · obtain ⟨x, hx⟩ : ∃ x, at_[k]? = some x := ⟨_, List.getElem?_eq_getElem hlt⟩
      obtain ⟨g2, off2, hga, hgl, hgc⟩ := HR.out (by rintro e; rw [e] at hlt; simp at hlt)
      subst hga
      have q0 := (HI.out.2.cell (p := ⟨g2, off2 + k, none⟩) hgl).trans (hgc k x hx)
      have hxn := HJ.out x (List.mem_of_getElem? hx)
      obtain ⟨c0, f0⟩ := HI.out.1.cell hxn
      have hgl2 := HI.out.1.lt
      have hidx : 0 ≤ (k : Int) ∧ (k : Int) < (at_.length : Int) := ⟨by omega, by omega⟩
      have hidx2 : 0 ≤ (x : Int) ∧ (x : Int) < (L.length : Int) := ⟨by omega, by omega⟩
      have HI2 : Hid (InR (wr.setCell ⟨g, x, none⟩ (.int .i64 1)) g L.length (fun j => (at_.take (k + 1)).contains j) ∧ Below w.heap.size w (wr.setCell ⟨g, x, none⟩ (.int .i64 1))) := ⟨by rw [← put_roots hx]; exact HI.out.1.put hxn, HI.out.2.setCell HGE.out _⟩
      clear hgc hx
      go_wp2_with fail
      go_roundw
      case rel => exact ⟨k + 1, by omega, by go_num, HI2⟩
      case measure => simp [intOf]; omega
    · obtain rfl : k = at_.length := by omega
      have HI0 : Hid (InR wr g L.length (rnds (nmL L (ddOf d)) L.length 0 (fun j => at_.contains j)) ∧ Below w.heap.size w wr) := by
        have := HI.out
        rw [List.take_length] at this
        exact this
      clear HI
      obtain ⟨F0, hF0⟩ : ∃ F : Nat → Bool, F = fun j => at_.contains j := ⟨_, rfl⟩
      rw [← hF0] at HI0
      have HF0 : Hid (F0 = fun j => at_.contains j) := hF0
      clear hF0
      go_wp2_with fail
      go_loopw [29] (fun i wq => ∃ k : Nat, k ≤ L.length ∧ i = .int .i64 k ∧ Hid (InR wq g L.length (rnds (nmL L (ddOf d)) L.length k F0) ∧ Below w.heap.size w wq))
        (fun i _ => L.length - (intOf i).toNat)
      case atStart => exact ⟨0, Nat.zero_le _, rfl, HI0⟩
      case round =>
        obtain ⟨k2, hk2, rfl, HI2⟩ := hrel
        by_cases hlt2 : k2 < L.length
        · go_wp2_with fail
          have HI3 : Hid (InR wr g L.length (rndTo (nmL L (ddOf d)) 0 (rnds (nmL L (ddOf d)) L.length k2 F0)) ∧ Below w.heap.size w wr) := HI2
          clear HI2 HI0
          go_loopw [33] (fun i wq => ∃ k : Nat, k ≤ L.length ∧ i = .int .i64 k ∧ Hid (InR wq g L.length (rndTo (nmL L (ddOf d)) k (rnds (nmL L (ddOf d)) L.length k2 F0)) ∧ Below w.heap.size w wq))
            (fun i _ => L.length - (intOf i).toNat)
          case atStart => exact ⟨0, Nat.zero_le _, rfl, HI3⟩
          case round =>
            obtain ⟨k3, hk3, rfl, HI4⟩ := hrel
            clear HI3
            by_cases hlt3 : k3 < L.length
            · obtain ⟨oo, hoo⟩ : ∃ oo, L[k3]? = some oo := ⟨_, List.getElem?_eq_getElem hlt3⟩
              obtain ⟨⟨hbl, na, ncap, f0, f1, f2, m0, m1, n0, n1, n2, n3⟩, nl⟩ := HAT.out w (Below.refl _ _) k3 oo hoo
              replace f0 := (HI4.out.2.cell (p := ⟨b, off + k3 * 3, none⟩) hbl).trans f0
              replace f1 := (HI4.out.2.cell (p := ⟨b, off + k3 * 3 + 1, none⟩) hbl).trans f1
              replace f2 := (HI4.out.2.cell (p := ⟨b, off + k3 * 3 + 2, none⟩) hbl).trans f2
              have hbl2 : b < wr.heap.size := Nat.lt_of_lt_of_le hbl HI4.out.2.size
              unfold maxLen at n1
              have hidx : 0 ≤ (k3 : Int) ∧ (k3 : Int) < (L.length : Int) := ⟨by omega, by omega⟩
              have hgl := HI4.out.1.lt
              have HS := rndTo_succ (nmL L (ddOf d)) k3 (rnds (nmL L (ddOf d)) L.length k2 F0)
              generalize hF : rndTo (nmL L (ddOf d)) k3 (rnds (nmL L (ddOf d)) L.length k2 F0) = F at HI4 HS
              obtain ⟨c0, _⟩ := HI4.out.1.cell hlt3
              have HN : Hid (nmL L (ddOf d) k3 = if oo.proxy then (if ddOf d (oo.mem % 4) then [] else match oo.names.getLast? with | none => [] | some b => [atN L.length b]) else oo.names.map (atN L.length)) := by show _ = _; unfold nmL; rw [hoo]; rfl
              have HS2 : Hid (rndTo (nmL L (ddOf d)) (k3 + 1) (rnds (nmL L (ddOf d)) L.length k2 F0) = go1 (nmL L (ddOf d)) F k3) := HS
              have HN2 : Hid (∀ x ∈ oo.names, 0 ≤ x ∧ x ≤ 255) := n2
              have HN3 : Hid (oo.names ≠ [] → ∃ g o2, na = some ⟨g, o2, none⟩ ∧ g < w.heap.size ∧ ∀ j x, oo.names[j]? = some x → w.cell? ⟨g, o2 + j, none⟩ = some (.int .u8 x)) := n3
              clear hF HS hoo n2 n3
              cases hc : F k3 with
              | false =>
                rw [hc] at c0
                simp only [b01] at c0
                go_wp2_with fail
                go_roundw
                case rel => exact ⟨k3 + 1, by omega, by go_num, by
                  rw [HS2.out, go1, hc]
                  exact ⟨block_alloc HI4.out.1 _, HI4.out.2.alloc HI4.out.2.size _⟩⟩
                case measure => simp [intOf]; omega
              | true =>
                rw [hc] at c0
                simp only [b01] at c0
                cases hp : oo.proxy with
                | true =>
                  rw [hp] at f1
                  cases hdd : ddOf d (oo.mem % 4) with
                  | true =>
                    have HDD : Hid (ddOf d (oo.mem % 4) = true) := hdd
                    unfold ddOf at hdd
                    go_wp2_with fail
                    go_roundw
                    case rel => exact ⟨k3 + 1, by omega, by go_num, by
                      rw [HS2.out, go1, hc, HN.out, hp, HDD.out]
                      simp only [if_true, put_none]
                      exact ⟨block_alloc HI4.out.1 _, HI4.out.2.alloc HI4.out.2.size _⟩⟩
                    case measure => simp [intOf]; omega
                  | false =>
                    have HDD : Hid (ddOf d (oo.mem % 4) = false) := hdd
                    unfold ddOf at hdd
                    go_wp2_with fail
                    have HI5 : Hid (InR (wr.alloc (.cells #[.slice na oo.names.length ncap, .bool true, .int .u8 oo.mem] 92)) g L.length (put1 F (lastTo L.length oo.names 0)) ∧ Below w.heap.size w (wr.alloc (.cells #[.slice na oo.names.length ncap, .bool true, .int .u8 oo.mem] 92)) ∧ (wr.alloc (.cells #[.slice na oo.names.length ncap, .bool true, .int .u8 oo.mem] 92)).heap[wr.heap.size]? = some (.cells #[.slice na oo.names.length ncap, .bool true, .int .u8 oo.mem] 92 (0, 0)) ∧ g ≠ wr.heap.size) :=
                      ⟨block_alloc (by rw [lastTo_zero, put_none]; exact HI4.out.1) _, HI4.out.2.alloc HI4.out.2.size _, heap_alloc_new wr _, Nat.ne_of_lt hgl⟩
                    generalize wr.heap.size = ob at HI5 ⊢
                    clear f0 f1 f2 c0 HI4
                    go_loopw [59] (fun i wq => ∃ m : Nat, m ≤ oo.names.length ∧ i = .int .i64 m ∧ Hid (InR wq g L.length (put1 F (lastTo L.length oo.names m)) ∧ Below w.heap.size w wq ∧ wq.heap[ob]? = some (.cells #[.slice na oo.names.length ncap, .bool true, .int .u8 oo.mem] 92 (0, 0)) ∧ g ≠ ob))
                      (fun i _ => oo.names.length - (intOf i).toNat)
                    case atStart => exact ⟨0, Nat.zero_le _, rfl, HI5⟩
                    case round =>
                      obtain ⟨m, hm, rfl, HI6⟩ := hrel
                      clear HI5
                      by_cases hlt4 : m < oo.names.length
                      · obtain ⟨x, hx⟩ : ∃ x, oo.names[m]? = some x := ⟨_, List.getElem?_eq_getElem hlt4⟩
                        have hxr := HN2.out x (List.mem_of_getElem? hx)
                        obtain ⟨t, rfl⟩ : ∃ t : Nat, x = (t : Int) := ⟨x.toNat, by omega⟩
                        obtain ⟨gn, on, hga, hgnl, hgnc⟩ := HN3.out (by rintro e; rw [e] at hlt4; simp at hlt4)
                        subst hga
                        have q0 := (HI6.out.2.1.cell (p := ⟨gn, on + m, none⟩) hgnl).trans (hgnc m _ hx)
                        have htl : t % L.length < L.length := Nat.mod_lt _ l0
                        obtain ⟨cc, cfz⟩ := HI6.out.1.cell htl
                        have o1 : wr.cell? ⟨ob, 1, none⟩ = some (.bool true) := by rw [cell_of_row wr ob 1 _ _ _ HI6.out.2.2.1]; rfl
                        have o0 : wr.cell? ⟨ob, 0, none⟩ = some (.slice (some ⟨gn, on, none⟩) oo.names.length ncap) := by rw [cell_of_row wr ob 0 _ _ _ HI6.out.2.2.1]; rfl
                        have hidx4 : 0 ≤ (m : Int) ∧ (m : Int) < (oo.names.length : Int) := ⟨by omega, by omega⟩
                        have ht255 : t ≤ 255 := by omega
                        have hne : ¬ L.length = 0 := by omega
                        have hwt : IntKind.i64.wrap (t : Int) = (t : Int) := by simp [IntKind.wrap, IntKind.bits, IntKind.signed]; omega
                        have htm : ((t : Int)).tmod (L.length : Int) = ((t % L.length : Nat) : Int) := by rw [Int.tmod_eq_emod_of_nonneg (by omega)]; omega
                        have hix : 0 ≤ (t : Int) % (L.length : Int) ∧ (t : Int) % (L.length : Int) < (L.length : Int) := ⟨by omega, by omega⟩
                        have htn : ((t : Int) % (L.length : Int)).toNat = t % L.length := by omega
                        by_cases hml : m + 1 = oo.names.length
                        · have heq : (oo.names.length : Int) - 1 = (m : Int) := by omega
                          have HI7 : Hid (InR (wr.setCell ⟨g, t % L.length, none⟩ (.int .i64 1)) g L.length (put1 F (lastTo L.length oo.names (m + 1))) ∧ Below w.heap.size w (wr.setCell ⟨g, t % L.length, none⟩ (.int .i64 1)) ∧ (wr.setCell ⟨g, t % L.length, none⟩ (.int .i64 1)).heap[ob]? = some (.cells #[.slice (some ⟨gn, on, none⟩) oo.names.length ncap, .bool true, .int .u8 oo.mem] 92 (0, 0)) ∧ g ≠ ob) :=
                          ⟨by rw [lastTo_end hml hx, atN_nat]; have := HI6.out.1.put htl; rw [lastTo_less hlt4, put_none] at this; exact this, HI6.out.2.1.setCell HGE.out _, block_set HI6.out.2.2.1 (fun e => HI6.out.2.2.2 e.symm) _, HI6.out.2.2.2⟩
                          clear hx hgnc
                          go_wp2_with fail
                          go_roundw
                          case rel => exact ⟨m + 1, by omega, by go_num, HI7⟩
                          case measure => simp [intOf]; omega
                        · have heq : ¬ (m : Int) = (oo.names.length : Int) - 1 := by omega
                          have HI7 : Hid (InR wr g L.length (put1 F (lastTo L.length oo.names (m + 1))) ∧ Below w.heap.size w wr ∧ wr.heap[ob]? = some (.cells #[.slice (some ⟨gn, on, none⟩) oo.names.length ncap, .bool true, .int .u8 oo.mem] 92 (0, 0)) ∧ g ≠ ob) := by
                            have := HI6.out
                            rw [lastTo_less hlt4] at this
                            show _ ∧ _
                            rw [lastTo_less (by omega)]
                            exact this
                          clear hx hgnc
                          go_wp2_with fail
                          go_roundw
                          case rel => exact ⟨m + 1, by omega, by go_num, HI7⟩
                          case measure => simp [intOf]; omega
                      · obtain rfl : m = oo.names.length := by omega
                        go_wp2_with fail
                        go_roundw
                        case rel => exact ⟨k3 + 1, by omega, by go_num, by
                          rw [HS2.out, go1, hc, HN.out, hp, HDD.out]
                          have := HI6.out
                          rw [lastTo, if_pos rfl] at this
                          exact ⟨this.1, this.2.1⟩⟩
                        case measure => simp [intOf]; omega
                | false =>
                  rw [hp] at f1
                  go_wp2_with fail
                  have HI5 : Hid (InR (wr.alloc (.cells #[.slice na oo.names.length ncap, .bool false, .int .u8 oo.mem] 92)) g L.length (put1 F ((oo.names.take 0).map (atN L.length))) ∧ Below w.heap.size w (wr.alloc (.cells #[.slice na oo.names.length ncap, .bool false, .int .u8 oo.mem] 92)) ∧ (wr.alloc (.cells #[.slice na oo.names.length ncap, .bool false, .int .u8 oo.mem] 92)).heap[wr.heap.size]? = some (.cells #[.slice na oo.names.length ncap, .bool false, .int .u8 oo.mem] 92 (0, 0)) ∧ g ≠ wr.heap.size) :=
                    ⟨block_alloc (by rw [List.take_zero, List.map_nil, put_none]; exact HI4.out.1) _, HI4.out.2.alloc HI4.out.2.size _, heap_alloc_new wr _, Nat.ne_of_lt hgl⟩
                  generalize wr.heap.size = ob at HI5 ⊢
                  clear f0 f1 f2 c0 HI4
                  go_loopw [59] (fun i wq => ∃ m : Nat, m ≤ oo.names.length ∧ i = .int .i64 m ∧ Hid (InR wq g L.length (put1 F ((oo.names.take m).map (atN L.length))) ∧ Below w.heap.size w wq ∧ wq.heap[ob]? = some (.cells #[.slice na oo.names.length ncap, .bool false, .int .u8 oo.mem] 92 (0, 0)) ∧ g ≠ ob))
                    (fun i _ => oo.names.length - (intOf i).toNat)
                  case atStart => exact ⟨0, Nat.zero_le _, rfl, HI5⟩
                  case round =>
                    obtain ⟨m, hm, rfl, HI6⟩ := hrel
                    clear HI5
                    by_cases hlt4 : m < oo.names.length
                    · obtain ⟨x, hx⟩ : ∃ x, oo.names[m]? = some x := ⟨_, List.getElem?_eq_getElem hlt4⟩
                      have hxr := HN2.out x (List.mem_of_getElem? hx)
                      obtain ⟨t, rfl⟩ : ∃ t : Nat, x = (t : Int) := ⟨x.toNat, by omega⟩
                      obtain ⟨gn, on, hga, hgnl, hgnc⟩ := HN3.out (by rintro e; rw [e] at hlt4; simp at hlt4)
                      subst hga
                      have q0 := (HI6.out.2.1.cell (p := ⟨gn, on + m, none⟩) hgnl).trans (hgnc m _ hx)
                      have htl : t % L.length < L.length := Nat.mod_lt _ l0
                      obtain ⟨cc, cfz⟩ := HI6.out.1.cell htl
                      have o1 : wr.cell? ⟨ob, 1, none⟩ = some (.bool false) := by rw [cell_of_row wr ob 1 _ _ _ HI6.out.2.2.1]; rfl
                      have o0 : wr.cell? ⟨ob, 0, none⟩ = some (.slice (some ⟨gn, on, none⟩) oo.names.length ncap) := by rw [cell_of_row wr ob 0 _ _ _ HI6.out.2.2.1]; rfl
                      have hidx4 : 0 ≤ (m : Int) ∧ (m : Int) < (oo.names.length : Int) := ⟨by omega, by omega⟩
                      have ht255 : t ≤ 255 := by omega
                      have hne : ¬ L.length = 0 := by omega
                      have hwt : IntKind.i64.wrap (t : Int) = (t : Int) := by simp [IntKind.wrap, IntKind.bits, IntKind.signed]; omega
                      have htm : ((t : Int)).tmod (L.length : Int) = ((t % L.length : Nat) : Int) := by rw [Int.tmod_eq_emod_of_nonneg (by omega)]; omega
                      have hix : 0 ≤ (t : Int) % (L.length : Int) ∧ (t : Int) % (L.length : Int) < (L.length : Int) := ⟨by omega, by omega⟩
                      have htn : ((t : Int) % (L.length : Int)).toNat = t % L.length := by omega
                      have HI7 : Hid (InR (wr.setCell ⟨g, t % L.length, none⟩ (.int .i64 1)) g L.length (put1 F ((oo.names.take (m + 1)).map (atN L.length))) ∧ Below w.heap.size w (wr.setCell ⟨g, t % L.length, none⟩ (.int .i64 1)) ∧ (wr.setCell ⟨g, t % L.length, none⟩ (.int .i64 1)).heap[ob]? = some (.cells #[.slice (some ⟨gn, on, none⟩) oo.names.length ncap, .bool false, .int .u8 oo.mem] 92 (0, 0)) ∧ g ≠ ob) :=
                        ⟨by rw [names_snoc hx, ← put_snoc, atN_nat]; exact HI6.out.1.put htl, HI6.out.2.1.setCell HGE.out _, block_set HI6.out.2.2.1 (fun e => HI6.out.2.2.2 e.symm) _, HI6.out.2.2.2⟩
                      clear hx hgnc
                      go_wp2_with fail
                      go_roundw
                      case rel => exact ⟨m + 1, by omega, by go_num, HI7⟩
                      case measure => simp [intOf]; omega
                    · obtain rfl : m = oo.names.length := by omega
                      go_wp2_with fail
                      go_roundw
                      case rel => exact ⟨k3 + 1, by omega, by go_num, by
                        rw [HS2.out, go1, hc, HN.out, hp]
                        have := HI6.out
                        rw [List.take_length] at this
                        exact ⟨this.1, this.2.1⟩⟩
                      case measure => simp [intOf]; omega
            · obtain rfl : k3 = L.length := by omega
              go_wp2_with fail
              go_roundw
              case rel => exact ⟨k2 + 1, by omega, by go_num, HI4⟩
              case measure => simp [intOf]; omega
        · obtain rfl : k2 = L.length := by omega
          go_wp2
          go_ret
          exact ⟨g, rfl, HGE.out, by rw [← HF0.out]; exact HI2.out.1, HI2.out.2⟩
end Go.Proofs.Ytebcojkeblpbjaa

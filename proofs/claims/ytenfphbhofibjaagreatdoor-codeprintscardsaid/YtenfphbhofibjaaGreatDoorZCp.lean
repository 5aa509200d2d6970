/-
 From an argument of type code.Func to its cells.
 Conditions: none beyond the argument's reading.
-/
import Derived.Lib.SmallJoins
import Derived.Test.YtenfphbhofibjaaGreatDoorCards
import Derived.Test.YtenfphbhofibjaaGreatDoorTie
import Derived.Test.YtenfphbhofibjaaGreatDoorZCtLaid
set_option maxRecDepth 1000000
set_option maxHeartbeats 2000000
set_option linter.unusedVariables false
namespace Go.Proofs.YtenfphbhofibjaaGreatDoor
open Go.ChangeShapes Go.WideShapes Go.ChangeAt Go.RowKit
theorem cellsFn : Tryz.prog.cellsOf 73 = 5 := by kernel_rfl
theorem cellsIn : Tryz.prog.cellsOf 66 = 4 := by kernel_rfl
theorem cellsOp : Tryz.prog.cellsOf 64 = 1 := by kernel_rfl
theorem cellsI : Tryz.prog.cellsOf 3 = 1 := by kernel_rfl
theorem cellsSI : Tryz.prog.cellsOf 69 = 1 := by kernel_rfl
theorem cellsSV : Tryz.prog.cellsOf 70 = 1 := by kernel_rfl
theorem cellsSIn : Tryz.prog.cellsOf 71 = 1 := by kernel_rfl
theorem add_twoF {a : Addr} (i j : Nat) : (a.add i).add j = a.add (i + j) := by
 unfold Addr.add
 by_cases h : i = 0
 ·subst h; simp
 ·by_cases h' : j = 0
  ·subst h'; simp
  ·simp [h, h', Nat.add_assoc]
theorem choose_rowsF {α : Type} (n : Nat) (p : Nat → α → Prop) (h : ∀ i, i < n → ∃ x, p i x) : ∃ l : List α, l.length = n ∧ ∀ i x, l[i]? = some x → p i x := by
 induction n with
 | zero => exact ⟨[], rfl, by simp⟩
 | succ n ih =>
  obtain ⟨l, h1, h2⟩ := ih (fun i hi => h i (by omega))
  obtain ⟨x, hx⟩ := h n (by omega)
  refine ⟨l ++ [x], by simp [h1], fun i y hy => ?_⟩
  by_cases e : i < l.length
  ·rw [List.getElem?_append_left e] at hy
   exact h2 i y hy
  ·have hi : i = n := by
    have := (List.getElem?_eq_some_iff.1 hy).1
    simp at this
    omega
   subst hi
   rw [List.getElem?_append_right (by omega), h1] at hy
   simp at hy
   subst hy
   exact hx
theorem array5 {α : Type} {cs : Array α} (h : cs.size = 5) : ∃ c0 c1 c2 c3 c4, cs = #[c0, c1, c2, c3, c4] := by
 obtain ⟨l⟩ := cs
 match l, h with
 | [c0, c1, c2, c3, c4], _ => exact ⟨c0, c1, c2, c3, c4, rfl⟩
theorem trod_struct5 {P : Program} {H : Type} {enc : TypeId × Value → H} {w : World} {base : Nat} {spare : Nat → Bool} {held : Bool} {t : TypeId} {f0 f1 f2 f3 f4 : Field} {fuel : Nat} {cs : List Value} {x : DataW H × List MemPlace} (ht : P.underlying t = some (.struct #[f0, f1, f2, f3, f4])) (h : DataW.trod enc P w base spare held fuel t cs = some x) :
 ∃ y0 y1 y2 y3 y4 n, DataW.trod enc P w base spare held n f0.type ((cs.drop f0.offset).take (P.cellsOf f0.type)) = some y0 ∧
  DataW.trod enc P w base spare held n f1.type ((cs.drop f1.offset).take (P.cellsOf f1.type)) = some y1 ∧ DataW.trod enc P w base spare held n f2.type ((cs.drop f2.offset).take (P.cellsOf f2.type)) = some y2 ∧
  DataW.trod enc P w base spare held n f3.type ((cs.drop f3.offset).take (P.cellsOf f3.type)) = some y3 ∧ DataW.trod enc P w base spare held n f4.type ((cs.drop f4.offset).take (P.cellsOf f4.type)) = some y4 := by
 obtain ⟨xs, n, _, rfl, hl, hlen, hf⟩ := DataW.trod_struct ht h
 match xs, hlen with
 | [y0, y1, y2, y3, y4], _ => exact ⟨y0, y1, y2, y3, y4, n, by simpa using hf 0 f0 rfl, by simpa using hf 1 f1 rfl, by simpa using hf 2 f2 rfl, by simpa using hf 3 f3 rfl, by simpa using hf 4 f4 rfl⟩
theorem open_rowI {H : Type} {enc : TypeId × Value → H} {W : World} {sp : Nat → Bool} {fuel : Nat} {cs : List Value} {y : DataW H × List MemPlace}
 (hf : DataW.trod enc Tryz.prog W 0 sp true fuel 71 cs = some y) : ∃ iv xs, cs = [iv] ∧ ISl W iv xs ∧ ∀ x ∈ xs, x.ok := by
 rcases Deep.open_slice Tryz.underlying71 hf with ⟨rfl, _⟩ | ⟨x, len, cap, m, n, D, Pl, rfl, _, hl, hm, hmm, _, hx⟩
 ·exact ⟨_, [], rfl, ⟨none, 0, rfl, Nat.le_refl _, by simp [maxLen], fun h => absurd h (by simp)⟩, by simp⟩
 ·by_cases hz : len = 0
  ·subst hz
   exact ⟨_, [], rfl, ⟨some x, cap, rfl, Nat.zero_le _, hm, fun h => absurd h (by simp)⟩, by simp⟩
  have hlm : len ≤ m := by rw [hmm]; split <;> omega
  rw [cellsIn] at hx
  have each : ∀ i, i < len → ∃ q : Ins, q.ok ∧ W.cell? (x.add (i * 4)) = some (.int .u8 (q.op : Int)) ∧ W.cell? (x.add (i * 4 + 1)) = some (.int .i64 q.a) ∧ W.cell? (x.add (i * 4 + 2)) = some (.int .i64 q.b) ∧ W.cell? (x.add (i * 4 + 3)) = some (.int .i64 q.c) := by
   intro i hi
   obtain ⟨cs', h1, h2⟩ := hx i (by omega)
   obtain ⟨_, hlen, hcell⟩ := World.cells?_some h1
   obtain ⟨y0, y1, y2, y3, n', _, _, g0, g1, g2, g3⟩ := Go.Joins.trod_struct4 Tryz.underlying66 h2
   match cs', hlen with
   | [v0, v1, v2, v3], _ =>
    simp [cellsOp, cellsI] at g0 g1 g2 g3
    obtain ⟨k0, hk0, _, w0⟩ := DataW.trod_int Tryz.underlying64 g0
    obtain ⟨k1, hk1, _, w1⟩ := DataW.trod_int Tryz.underlying3 g1
    obtain ⟨k2, hk2, _, w2⟩ := DataW.trod_int Tryz.underlying3 g2
    obtain ⟨k3, hk3, _, w3⟩ := DataW.trod_int Tryz.underlying3 g3
    simp at hk0 hk1 hk2 hk3
    subst hk0 hk1 hk2 hk3
    have b0 := bounds_u8 w0
    have b1 := bounds_i64 w1
    have b2 := bounds_i64 w2
    have b3 := bounds_i64 w3
    have e0 := hcell 0 (by omega)
    have e1 := hcell 1 (by omega)
    have e2 := hcell 2 (by omega)
    have e3 := hcell 3 (by omega)
    rw [add_twoF] at e0 e1 e2 e3
    obtain ⟨m0, rfl⟩ : ∃ m : Nat, k0 = (m : Int) := ⟨k0.toNat, by omega⟩
    exact ⟨⟨m0, k1, k2, k3⟩, ⟨by show m0 < 256; omega, b1, b2, b3⟩, by simpa using e0, by simpa using e1, by simpa using e2, by simpa using e3⟩
  obtain ⟨b, off, spot⟩ := x
  obtain ⟨q0, _, h00, _⟩ := each 0 (by omega)
  have hspot : spot = none := by simpa [Addr.add] using World.cell?_spot h00
  subst hspot
  have hbl : b < W.heap.size := World.block_lt_of_cell? _ _ (by simpa [Addr.add] using h00)
  simp only [add_plain, ← Nat.add_assoc] at each
  obtain ⟨L, hL1, hL2⟩ := choose_rowsF len _ each
  refine ⟨_, L, rfl, ⟨some ⟨b, off, none⟩, cap, by rw [hL1], by rw [hL1]; exact hl, hm, fun _ => ⟨b, off, rfl, hbl, fun j y hj => (hL2 j y hj).2⟩⟩, fun y hy => ?_⟩
  obtain ⟨i, hi⟩ := List.getElem?_of_mem hy
  exact (hL2 i y hi).1
theorem slice_len {H : Type} {enc : TypeId × Value → H} {W : World} {base : Nat} {sp : Nat → Bool} {held : Bool} {t e : TypeId} {fuel : Nat} {cs : List Value} {y : DataW H × List MemPlace} (ht : Tryz.prog.underlying t = some (.slice e)) (hf : DataW.trod enc Tryz.prog W base sp held fuel t cs = some y) : ∃ a l c, cs = [.slice a l c] ∧ l ≤ maxLen := by
 rcases Deep.open_slice ht hf with ⟨hcs, _⟩ | ⟨a', len', cap', m, n, D, Pl, hcs, _, hl, hm, _⟩
 ·exact ⟨_, _, _, hcs, by simp [maxLen]⟩
 ·exact ⟨_, _, _, hcs, Nat.le_trans hl hm⟩
theorem open_func {H : Type} {enc : TypeId × Value → H} {W : World} {b0 : Nat} {sp : Nat → Bool} {v : Value} {d : DataW H} {p : List MemPlace}
 (hv : Value.okWide Tryz.prog W .any b0 73 v) (h : DataW.Trod enc Tryz.prog W 0 sp true 73 v d p) :
 ∃ (q r : Int) (ha : Option Addr) (hel hc : Nat) (cv iv : Value) (xs : List Ins), v = .agg #[.int .i64 q, .slice ha hel hc, .int .i64 r, cv, iv] ∧ InZ q ∧ InZ r ∧ hel ≤ maxLen ∧ ISl W iv xs ∧ ∀ x ∈ xs, x.ok := by
 obtain ⟨cs, rfl, hsz⟩ := okWide_struct Tryz.underlying73 hv
 rw [cellsFn] at hsz
 obtain ⟨c0, c1, c2, c3, c4, rfl⟩ := array5 hsz
 obtain ⟨fuel, hf⟩ := h
 obtain ⟨y0, y1, y2, y3, y4, n, h0, h1, h2, h3, h4⟩ := trod_struct5 Tryz.underlying73 hf
 simp [Value.cells, cellsI, cellsSI, cellsSV, cellsSIn] at h0 h1 h2 h3 h4
 obtain ⟨q, hq, _, wq⟩ := DataW.trod_int Tryz.underlying3 h0
 obtain ⟨r, hr, _, wr⟩ := DataW.trod_int Tryz.underlying3 h2
 obtain ⟨ha, hel, hc, hh, hm⟩ := slice_len Tryz.underlying69 h1
 obtain ⟨iv, xs, hi, hI, hok⟩ := open_rowI h4
 simp at hq hr hh hi
 subst hq hr hh hi
 exact ⟨q, r, ha, hel, hc, c3, _, xs, rfl, bounds_i64 wq, bounds_i64 wr, hm, hI, hok⟩
end Go.Proofs.YtenfphbhofibjaaGreatDoor
namespace Go.Proofs.YtenfphbhofibjaaGreatDoor.codePrints
open Go.ChangeShapes Go.WideShapes Go.ChangeAt Go.RowKit Go.Lib
open Go.ChangeMaps (open_string shut_string)
theorem laidOut : laidOutB Tryz.prog = true := by kernel_rfl
theorem witness_row (os : Os) {H : Type} (enc : TypeId × Value → H) :
 (OpenSpec.ofChange Rows.codePrintsSpec).preRow enc Tryz.prog Tryz.f12 Rows.codePrintsRow.domain false Rows.codePrintsRow.laid ((laidIn (World.settled Tryz.prog os).heap.size (World.holding Tryz.prog os ⟨errsMore, #[], []⟩)).forCall (fun _ _ => 0) ⟨#[], #[.agg #[.int .i64 0, .slice none 0 0, .int .i64 0, .slice none 0 0, .slice none 0 0]], []⟩).memory #[.agg #[.int .i64 0, .slice none 0 0, .int .i64 0, .slice none 0 0, .slice none 0 0]] := by
 have hw : (DataW.whole enc Tryz.prog ((laidIn (World.settled Tryz.prog os).heap.size (World.holding Tryz.prog os ⟨errsMore, #[], []⟩)).forCall (fun _ _ => 0) ⟨#[], #[.agg #[.int .i64 0, .slice none 0 0, .int .i64 0, .slice none 0 0, .slice none 0 0]], []⟩).memory Tryz.f12.params.toList (OpenSpec.ofChange Rows.codePrintsSpec).vars false (#[.agg #[.int .i64 0, .slice none 0 0, .int .i64 0, .slice none 0 0, .slice none 0 0]] : Array Value).toList 8).map (fun x => (x.1, x.2.1)) =
  some ([.agg [.lit (.int .i64 0), .nil, .lit (.int .i64 0), .nil, .nil]], []) := by kernel_rfl
 obtain ⟨⟨x1, x2, x3⟩, hx, hx1⟩ := Option.map_eq_some_iff.1 hw
 simp only [Prod.mk.injEq] at hx1
 obtain ⟨rfl, rfl⟩ := hx1
 exact OpenSpec.preRow_of_cond 8 hx (by kernel_rfl) (fun k hk => by cases hk) (by kernel_rfl) (laid_met os _)
theorem lifted (os : Os) (started : os.Started) (H : Type) (enc : TypeId × Value → H) (F : Stop.Interp) :
 ReturnsInHanded {} Tryz.checked os 12 .any ((OpenSpec.ofChange Rows.codePrintsSpec).preRow enc Tryz.prog Tryz.f12 Rows.codePrintsRow.domain false Rows.codePrintsRow.laid) (((OpenSpec.ofChange Rows.codePrintsSpec).at F).post enc Tryz.prog Tryz.f12 false true false false) := by
 refine returnsInHanded_of_row (C := Tryz.checked) (s := OpenSpec.ofChange Rows.codePrintsSpec) own started (by kernel_rfl) Tryz.func12
  (witness_row_atRef (enc := enc) (C := Tryz.checked) false (laidIn (World.settled Tryz.prog os).heap.size (World.holding Tryz.prog os ⟨errsMore, #[], []⟩)) #[.agg #[.int .i64 0, .slice none 0 0, .int .i64 0, .slice none 0 0, .slice none 0 0]] rfl (by kernel_rfl) (by kernel_rfl) (by kernel_rfl) (witness_row os enc)) ?_
 intro W base args ds gs before hval0 hW hcnd0 _ _ hL _ _
 have hval : ∀ (j : Nat) t v, Tryz.f12.params[j]? = some t → args[j]? = some v → Value.okWide Tryz.prog W .any base t v := hval0
 have hW' := hW
 obtain ⟨p, q, hA0, hV, rfl, hfz, hnd⟩ := hW
 have hA : DataW.TrodAll enc Tryz.prog W 0 (fun _ => true) true Tryz.f12.params.toList args.toList ds p := hA0
 rw [Tryz.params12] at hA hval
 obtain ⟨v0, vs0, d0, ds0, p0, q0, hargs, rfl, rfl, h0, r0⟩ := trodAll_cons hA
 obtain ⟨rfl, rfl, rfl⟩ := trodAll_nil r0
 obtain rfl : args = #[v0] := by cases args; simp_all
 obtain ⟨rfl, rfl⟩ := trodVars_none hV
 have k0 := h0
 have lt0 : ∀ x ∈ p0, x.block < W.heap.size := by obtain ⟨m, hm⟩ := k0; exact DataW.trod_lt m _ _ _ hm
 obtain ⟨fq0, fr0, fa0, fl0, fc0, fv0, fi0, fx0, rfl, hq0, hr0, hl0, hi0, hk0⟩ := open_func (hval 0 73 v0 rfl rfl) h0
 clear hA0 hval0
 refine ((fun hl => codePrints_any W hl hq0 hr0 hl0 hi0 hk0) (lt_of hL)).mono fun e W' ⟨he, bel⟩ => ?_
 subst he
 exact ⟨_, rfl, _, _, _, [], _, [], hW', trodAll_mk1 (shut_bool Tryz.underlying4 _), (trodAll_cons_mk (Below.trod laidOut (by kernel_rfl) (of_decide_eq_true (by kernel_rfl)) k0 bel lt0) trodAll_mk0), rfl, bel.frame _, fun h => by cases h⟩
end Go.Proofs.YtenfphbhofibjaaGreatDoor.codePrints
namespace Go.Proofs.YtenfphbhofibjaaGreatDoor.codePrints
open Go.RowKit
theorem and_mk {a b : Bool} (h : a = true) (k : b = true) : (a && b) = true := by rw [h, k]; rfl
theorem k0 : (Rows.codePrintsRow.wf (OpenSpec.ofChange (OpenSpec.ofChange Rows.codePrintsSpec).bare)) = true := by kernel_rfl
theorem k1 : (laidOutB Tryz.prog) = true := by kernel_rfl
theorem k2 : (mapsRowed Tryz.prog) = true := by kernel_rfl
theorem k3 : (Tryz.f12.params.all (Tryz.prog.readableRec ·)) = true := by kernel_rfl
theorem k4 : (namedTie Tryz.prog Rows.codePrintsRow.named (OpenSpec.ofChange Rows.codePrintsSpec).bare.vars) = true := by kernel_rfl
theorem k5 : ((Rows.codePrintsRow.stops == [])) = true := by kernel_rfl
theorem k6 : ((Tryz.prog.stops == [])) = true := by kernel_rfl
theorem k7 : ((Rows.codePrintsRow.knobs == [])) = true := by kernel_rfl
theorem k8 : ((Tryz.prog.stopKnobs == [])) = true := by kernel_rfl
theorem k9 : ((Rows.codePrintsRow.inPlace == Tryz.prog.inPlace 12)) = true := by kernel_rfl
theorem k10 : ((Rows.codePrintsRow.unfollowed == Tryz.prog.unfollowed 12)) = true := by kernel_rfl
theorem k11 : ((Rows.codePrintsRow.recurses == Tryz.prog.recurses 12)) = true := by kernel_rfl
theorem k12 : ((Rows.codePrintsRow.named == Tryz.prog.varsNamed 12)) = true := by kernel_rfl
theorem k13 : ((Rows.codePrintsRow.maps == (Tryz.f12.params.toList ++ (OpenSpec.ofChange Rows.codePrintsSpec).bare.plain.varTypes Tryz.prog).any (Tryz.prog.mapsRec ·))) = true := by kernel_rfl
theorem k14 : ((Rows.codePrintsRow.ifaces == (Tryz.f12.params.toList ++ (OpenSpec.ofChange Rows.codePrintsSpec).bare.plain.varTypes Tryz.prog).any (Tryz.prog.ifacesRec ·))) = true := by kernel_rfl
theorem k15 : ((Rows.codePrintsRow.mapsOut == Tryz.prog.mapsAmong Tryz.f12.resultTypes.toList)) = true := by kernel_rfl
theorem k16 : ((Rows.codePrintsRow.loops == (Tryz.f12.params.toList ++ (OpenSpec.ofChange Rows.codePrintsSpec).bare.plain.varTypes Tryz.prog).any (Tryz.prog.loopsFrom ·))) = true := by kernel_rfl
theorem k17 : ((Rows.codePrintsRow.wideKeys == (Tryz.f12.params.toList ++ (OpenSpec.ofChange Rows.codePrintsSpec).bare.plain.varTypes Tryz.prog ++ Tryz.f12.resultTypes.toList).any (Tryz.prog.wideKeysFrom ·))) = true := by kernel_rfl
theorem k18 : ((OpenSpec.ofChange Rows.codePrintsSpec).bare.vars.all (Tryz.prog.varReadable ·)) = true := by kernel_rfl
theorem k19 : (Tryz.f12.resultTypes.all (fun t => Tryz.prog.readableRec t && decide (t < Tryz.prog.types.size))) = true := by kernel_rfl
theorem k20 : ((Rows.codePrintsRow.ifacesOut == Tryz.f12.resultTypes.toList.any (Tryz.prog.ifacesRec ·))) = true := by kernel_rfl
theorem k21 : ((Rows.codePrintsRow.loopsOut == Tryz.f12.resultTypes.toList.any (Tryz.prog.loopsFrom ·))) = true := by kernel_rfl
theorem k22 : ((Rows.codePrintsRow.plainKeys == Tryz.prog.plainKeys)) = true := by kernel_rfl
theorem k23 : (Rows.codePrintsRow.shortTexts.isNone) = true := by kernel_rfl
theorem k24 : (Tryz.prog.stopsHeard) = true := by kernel_rfl
theorem k25 : (Tryz.prog.mayEnter) = true := by kernel_rfl
theorem k26 : ((Rows.codePrintsRow.lifted == Tryz.prog.liftsFinal)) = true := by kernel_rfl
theorem k27 : ((Tryz.prog.make == some Rows.codePrintsRow.make)) = true := by kernel_rfl
theorem k28 : ((Rows.codePrintsRow.kinds == (if Rows.codePrintsRow.domain.isEmpty then [] else Tryz.f12.params.toList.map fun t => match Tryz.prog.underlying t with | some (.int k) => some k | _ => none))) = true := by kernel_rfl
theorem k29 : ((Rows.codePrintsRow.pinned == Rows.codePrintsRow.pinnedBy)) = true := by kernel_rfl
theorem k30 : ((Rows.codePrintsRow.veiled == (Tryz.f12.params.toList ++ (OpenSpec.ofChange Rows.codePrintsSpec).bare.plain.varTypes Tryz.prog ++ Tryz.f12.resultTypes.toList).any (Tryz.prog.veiledRec ·))) = true := by kernel_rfl
theorem k31 : (Rows.codePrintsRow.veiledFits Tryz.prog Tryz.f12.params.toList (Tryz.f12.params.toList ++ (OpenSpec.ofChange Rows.codePrintsSpec).bare.plain.varTypes Tryz.prog ++ Tryz.f12.resultTypes.toList)) = true := by kernel_rfl
theorem closed : joinedFacts Tryz.prog 12 Tryz.f12 (OpenSpec.ofChange Rows.codePrintsSpec).bare Rows.codePrintsRow = true := by
 unfold joinedFacts
 exact and_mk (and_mk (and_mk (and_mk (and_mk (and_mk (and_mk (and_mk (and_mk (and_mk (and_mk (and_mk (and_mk (and_mk (and_mk (and_mk (and_mk (and_mk (and_mk (and_mk (and_mk (and_mk (and_mk (and_mk (and_mk (and_mk (and_mk (and_mk (and_mk (and_mk (and_mk (k0) k1) k2) k3) k4) k5) k6) k7) k8) k9) k10) k11) k12) k13) k14) k15) k16) k17) k18) k19) k20) k21) k22) k23) k24) k25) k26) k27) k28) k29) k30) k31
end Go.Proofs.YtenfphbhofibjaaGreatDoor.codePrints

/-
  From what the rows list of the library's ten variables to the tables as the contracts ask for them; and a world in which all ten are so laid.
  Conditions: none.
-/
import Derived.Test.YtgdjdbbjfnhdeaaDoorTexts
import Derived.PinnedBridge
import Derived.Deep.DeepHandedRow
import Derived.Deep.DeepWitnessRowRef
import Derived.Lib.LaidIn
import Derived.Lib.LaidSlice
import Derived.Lib.LaidTab
import Derived.ProofKit
import Derived.SizedLaws
namespace Go.Proofs.YtgdjdbbjfnhdeaaDoor
open Go.Shelf
open Go.ChangeShapes Go.WideShapes Go.ChangeAt Go.RowKit Go.Lib
set_option linter.unusedVariables false
theorem own : ownKnob Tryd.prog.godebug = none := by kernel_rfl
/-- The cells of a table of numbers, off its datum. -/
def flatCells (d : DataW Unit) : Array Value :=
  match d with
  | .agg ps => (ps.map fun p => match p with | .lit l => l.value | _ => undef).toArray
  | _ => #[]
/-- The blocks that the five slices lead to. -/
def rowsMore : Array Obj := #[.cells (intCellsOf .u16 Lib.goPrintTabs.p16) 73, .cells (intCellsOf .u16 Lib.goPrintTabs.n16) 73, .cells (intCellsOf .u32 Lib.goPrintTabs.p32) 44, .cells (intCellsOf .u16 Lib.goPrintTabs.n32) 73, .cells (intCellsOf .u16 Go.Pinned.isGraphicZ) 73]
/-- What one variable's block holds, put in. -/
def putIn (h : Array Obj) (g : Nat) (cs : Array Value) : Array Obj := h.modify g fun
  | .cells _ t frozen => .cells cs t frozen
  | o => o
/-- The witness: a world w0 with five blocks more from block N on (the five slices' rows), the ten variables holding what their initialisers lay. -/
def laidIn (N : Nat) (w0 : World) : World :=
  let T := Lib.goPrintTabs
  let h0 := putIn w0.heap 0 (flatCells Rows.laid_internal_strconv_uint64pow10)
  let h1 := putIn h0 1 (flatCells Rows.laid_math_bits_deBruijn32tab)
  let h2 := putIn h1 2 (flatCells Rows.laid_math_bits_deBruijn64tab)
  let h3 := putIn h2 3 (Lib.firstTab.map fun z => Value.int .u8 z).toArray
  let h4 := putIn h3 4 ((List.range 16).flatMap fun i => [Value.int .u8 (Lib.accLo i), Value.int .u8 (Lib.accHi i)]).toArray
  let h5 := putIn h4 5 #[.slice (some ⟨N, 0, none⟩) T.p16.length T.p16.length]
  let h6 := putIn h5 6 #[.slice (some ⟨N + 1, 0, none⟩) T.n16.length T.n16.length]
  let h7 := putIn h6 7 #[.slice (some ⟨N + 2, 0, none⟩) T.p32.length T.p32.length]
  let h8 := putIn h7 8 #[.slice (some ⟨N + 3, 0, none⟩) T.n32.length T.n32.length]
  let h9 := putIn h8 9 #[.slice (some ⟨N + 4, 0, none⟩) Go.Pinned.isGraphicZ.length Go.Pinned.isGraphicZ.length]
  { w0 with heap := h9 }
theorem pieceA (os : Os) (args : Array Value) : LaidIn Tryd.prog ((laidIn (World.settled Tryd.prog os).heap.size (World.holding Tryd.prog os ⟨rowsMore, #[], []⟩)).forCall (fun _ _ => 0) ⟨#[], args, []⟩).memory [("math/bits.deBruijn32tab", Rows.laid_math_bits_deBruijn32tab), ("math/bits.deBruijn64tab", Rows.laid_math_bits_deBruijn64tab), ("internal/strconv.uint64pow10", Rows.laid_internal_strconv_uint64pow10), ("unicode/utf8.acceptRanges", Rows.laid_unicode_utf8_acceptRanges)] [1, 2, 0, 4] :=
  LaidIn.of_run [1, 2, 0, 4] 8 (by kernel_rfl) (by kernel_rfl) (by kernel_rfl) (by kernel_rfl)
theorem pieceF (os : Os) (args : Array Value) : LaidIn Tryd.prog ((laidIn (World.settled Tryd.prog os).heap.size (World.holding Tryd.prog os ⟨rowsMore, #[], []⟩)).forCall (fun _ _ => 0) ⟨#[], args, []⟩).memory [("unicode/utf8.first", Rows.laid_unicode_utf8_first)] [3] :=
  LaidIn.of_run [3] 8 (by kernel_rfl) (by kernel_rfl) (by kernel_rfl) (by kernel_rfl)
theorem isGraphic_eq : Go.Pinned.isGraphic = sliceData .u16 Go.Pinned.isGraphicZ := by kernel_rfl
set_option maxRecDepth 1000000 in
theorem pieceG (os : Os) (args : Array Value) : LaidIn Tryd.prog ((laidIn (World.settled Tryd.prog os).heap.size (World.holding Tryd.prog os ⟨rowsMore, #[], []⟩)).forCall (fun _ _ => 0) ⟨#[], args, []⟩).memory [("strconv.isGraphic", Rows.laid_strconv_isGraphic)] [9, (World.settled Tryd.prog default).heap.size + 4] := by
  unfold Rows.laid_strconv_isGraphic
  rw [isGraphic_eq]
  exact laidIn_slice (t := 74) (e := 73) (te := 73) Go.Pinned.isGraphicZ ((World.settled Tryd.prog default).heap.size + 4) (by kernel_rfl) (by kernel_rfl) (by kernel_rfl) (by kernel_rfl) (by kernel_rfl) (by kernel_rfl) (by kernel_rfl) (by kernel_rfl) (of_decide_eq_true (by kernel_rfl)) (of_decide_eq_true (by kernel_rfl))
set_option maxRecDepth 1000000 in
theorem pieceN16 (os : Os) (args : Array Value) : LaidIn Tryd.prog ((laidIn (World.settled Tryd.prog os).heap.size (World.holding Tryd.prog os ⟨rowsMore, #[], []⟩)).forCall (fun _ _ => 0) ⟨#[], args, []⟩).memory [("strconv.isNotPrint16", Rows.laid_strconv_isNotPrint16)] [6, (World.settled Tryd.prog default).heap.size + 1] := by
  unfold Rows.laid_strconv_isNotPrint16
  rw [Pinned.isNotPrint16_eq]
  exact laidIn_slice (t := 74) (e := 73) (te := 73) Lib.goPrintTabs.n16 ((World.settled Tryd.prog default).heap.size + 1) (by kernel_rfl) (by kernel_rfl) (by kernel_rfl) (by kernel_rfl) (by kernel_rfl) (by kernel_rfl) (by kernel_rfl) (by kernel_rfl) (of_decide_eq_true (by kernel_rfl)) (of_decide_eq_true (by kernel_rfl))
set_option maxRecDepth 1000000 in
theorem pieceN32 (os : Os) (args : Array Value) : LaidIn Tryd.prog ((laidIn (World.settled Tryd.prog os).heap.size (World.holding Tryd.prog os ⟨rowsMore, #[], []⟩)).forCall (fun _ _ => 0) ⟨#[], args, []⟩).memory [("strconv.isNotPrint32", Rows.laid_strconv_isNotPrint32)] [8, (World.settled Tryd.prog default).heap.size + 3] := by
  unfold Rows.laid_strconv_isNotPrint32
  rw [Pinned.isNotPrint32_eq]
  exact laidIn_slice (t := 74) (e := 73) (te := 73) Lib.goPrintTabs.n32 ((World.settled Tryd.prog default).heap.size + 3) (by kernel_rfl) (by kernel_rfl) (by kernel_rfl) (by kernel_rfl) (by kernel_rfl) (by kernel_rfl) (by kernel_rfl) (by kernel_rfl) (of_decide_eq_true (by kernel_rfl)) (of_decide_eq_true (by kernel_rfl))
set_option maxRecDepth 1000000 in
theorem pieceP16 (os : Os) (args : Array Value) : LaidIn Tryd.prog ((laidIn (World.settled Tryd.prog os).heap.size (World.holding Tryd.prog os ⟨rowsMore, #[], []⟩)).forCall (fun _ _ => 0) ⟨#[], args, []⟩).memory [("strconv.isPrint16", Rows.laid_strconv_isPrint16)] [5, (World.settled Tryd.prog default).heap.size + 0] := by
  unfold Rows.laid_strconv_isPrint16
  rw [Pinned.isPrint16_eq]
  exact laidIn_slice (t := 74) (e := 73) (te := 73) Lib.goPrintTabs.p16 ((World.settled Tryd.prog default).heap.size + 0) (by kernel_rfl) (by kernel_rfl) (by kernel_rfl) (by kernel_rfl) (by kernel_rfl) (by kernel_rfl) (by kernel_rfl) (by kernel_rfl) (of_decide_eq_true (by kernel_rfl)) (of_decide_eq_true (by kernel_rfl))
set_option maxRecDepth 1000000 in
theorem pieceP32 (os : Os) (args : Array Value) : LaidIn Tryd.prog ((laidIn (World.settled Tryd.prog os).heap.size (World.holding Tryd.prog os ⟨rowsMore, #[], []⟩)).forCall (fun _ _ => 0) ⟨#[], args, []⟩).memory [("strconv.isPrint32", Rows.laid_strconv_isPrint32)] [7, (World.settled Tryd.prog default).heap.size + 2] := by
  unfold Rows.laid_strconv_isPrint32
  rw [Pinned.isPrint32_eq]
  exact laidIn_slice (t := 77) (e := 44) (te := 44) Lib.goPrintTabs.p32 ((World.settled Tryd.prog default).heap.size + 2) (by kernel_rfl) (by kernel_rfl) (by kernel_rfl) (by kernel_rfl) (by kernel_rfl) (by kernel_rfl) (by kernel_rfl) (by kernel_rfl) (of_decide_eq_true (by kernel_rfl)) (of_decide_eq_true (by kernel_rfl))
/-- What the rows list. -/
def listed : List (String × DataW Unit) := [("math/bits.deBruijn32tab", Rows.laid_math_bits_deBruijn32tab), ("math/bits.deBruijn64tab", Rows.laid_math_bits_deBruijn64tab), ("internal/strconv.uint64pow10", Rows.laid_internal_strconv_uint64pow10), ("unicode/utf8.acceptRanges", Rows.laid_unicode_utf8_acceptRanges), ("strconv.isGraphic", Rows.laid_strconv_isGraphic), ("strconv.isNotPrint16", Rows.laid_strconv_isNotPrint16), ("strconv.isNotPrint32", Rows.laid_strconv_isNotPrint32), ("strconv.isPrint16", Rows.laid_strconv_isPrint16), ("strconv.isPrint32", Rows.laid_strconv_isPrint32), ("unicode/utf8.first", Rows.laid_unicode_utf8_first)]
theorem laid_met (os : Os) (args : Array Value) : laidMet Tryd.prog listed ((laidIn (World.settled Tryd.prog os).heap.size (World.holding Tryd.prog os ⟨rowsMore, #[], []⟩)).forCall (fun _ _ => 0) ⟨#[], args, []⟩).memory :=
  (((((((pieceA os args).append (pieceG os args) (by kernel_rfl)).append (pieceN16 os args) (by kernel_rfl)).append (pieceN32 os args) (by kernel_rfl)).append (pieceP16 os args) (by kernel_rfl)).append (pieceP32 os args) (by kernel_rfl)).append (pieceF os args) (by kernel_rfl)).met
theorem tabIs_of_reads {P : Program} {W : World} {name : String} {k : IntKind} {zs : List Int} {g : Nat} {t e : TypeId} {n : Nat}
    (hg : P.globalNamed name = some g) (hty : (P.globals[g]?).map (·.type) = some t) (ht : P.underlying t = some (.array n e)) (he : P.underlying e = some (.int k)) (hce : P.cellsOf e = 1) (hct : P.cellsOf t = n)
    (h : VarReads P W name (tabData k zs)) : TabIs P W name k zs := by
  obtain ⟨g', t', cs, fuel, p, hg', ht', hvar, hd⟩ := h
  obtain rfl := Option.some.inj (hg.symm.trans hg')
  obtain rfl := Option.some.inj (hty.symm.trans ht')
  unfold TabIs
  rw [hvar, ← cells_of_tab ht he hce hct hd]
theorem tabs_of {W : World} (hL : laidMet Tryd.prog listed W) : Tabs W := by
  have e0 : Rows.laid_internal_strconv_uint64pow10 = tabData (H := Unit) .u64 Lib.pow10Tab := by kernel_rfl
  have e4 : Rows.laid_unicode_utf8_acceptRanges = (Lib.acceptData : DataW Unit) := by kernel_rfl
  have r0 := Lib.laidMet.reads hL (.tail _ (.tail _ (.head _)))
  have r4 := Lib.laidMet.reads hL (.tail _ (.tail _ (.tail _ (.head _))))
  have r6 := Lib.laidMet.reads hL (.tail _ (.tail _ (.tail _ (.tail _ (.tail _ (.head _))))))
  have r8 := Lib.laidMet.reads hL (.tail _ (.tail _ (.tail _ (.tail _ (.tail _ (.tail _ (.head _)))))))
  have r5 := Lib.laidMet.reads hL (.tail _ (.tail _ (.tail _ (.tail _ (.tail _ (.tail _ (.tail _ (.head _))))))))
  have r7 := Lib.laidMet.reads hL (.tail _ (.tail _ (.tail _ (.tail _ (.tail _ (.tail _ (.tail _ (.tail _ (.head _)))))))))
  have r3 := Lib.laidMet.reads hL (.tail _ (.tail _ (.tail _ (.tail _ (.tail _ (.tail _ (.tail _ (.tail _ (.tail _ (.head _))))))))))
  rw [e0] at r0
  rw [e4] at r4
  unfold Rows.laid_strconv_isNotPrint16 at r6
  unfold Rows.laid_strconv_isNotPrint32 at r8
  unfold Rows.laid_strconv_isPrint16 at r5
  unfold Rows.laid_strconv_isPrint32 at r7
  unfold Rows.laid_unicode_utf8_first at r3
  rw [Pinned.isNotPrint16_eq] at r6
  rw [Pinned.isNotPrint32_eq] at r8
  rw [Pinned.isPrint16_eq] at r5
  rw [Pinned.isPrint32_eq] at r7
  rw [Pinned.utf8First_eq] at r3
  exact ⟨printTabs_of_reads (ρ := Tryd.lays177_ren) { Tryd.lays177 with } ⟨by kernel_rfl, by kernel_rfl, by kernel_rfl, by kernel_rfl, by kernel_rfl, by kernel_rfl, by kernel_rfl, by kernel_rfl, by kernel_rfl, by kernel_rfl⟩ r5 r6 r7 r8,
    utf8Tabs_of_reads (ρ := Tryd.lays177_ren) { Tryd.lays177 with } ⟨by kernel_rfl, by kernel_rfl, by kernel_rfl, by kernel_rfl, by kernel_rfl, by kernel_rfl, by kernel_rfl⟩ r3 r4,
    tabIs_of_reads (g := 0) (t := 57) (e := 24) (n := 20) (by kernel_rfl) (by kernel_rfl) Tryd.underlying57 Tryd.underlying24 (by kernel_rfl) (by kernel_rfl) r0⟩
end Go.Proofs.YtgdjdbbjfnhdeaaDoor

/-
  From what the rows list of the library's five variables to what the contracts ask for; and a world in which all five are so laid.
  Conditions: none.
-/
import Derived.Test.YtebcojkeblpbjaaGreatDoorLx6
import Derived.Deep.DeepHandedRow
import Derived.Deep.DeepWitnessRowRef
import Derived.Stop.LaidErr
import Derived.Lib.LaidIn
import Derived.Lib.LaidTab
import Derived.ProofKit
import Derived.SizedLaws
namespace Go.Proofs.YtebcojkeblpbjaaGreatDoor
open Go.Shelf
open Go.ChangeShapes Go.WideShapes Go.ChangeAt Go.RowKit Go.Lib
set_option linter.unusedVariables false
theorem own : ownKnob Tryz.prog.godebug = none := by kernel_rfl
/-- The cells of a table of numbers, off its datum. -/
def flatCells (d : DataW Unit) : Array Value :=
  match d with
  | .agg ps => (ps.map fun p => match p with | .lit l => l.value | _ => undef).toArray
  | _ => #[]
/-- An error's text, off its datum. -/
def errText (d : DataW Unit) : Array UInt8 :=
  match d with
  | .iface _ (.ptr (.agg [.lit (.string t)])) => t.toArray
  | _ => #[]
/-- The two errors' blocks. -/
def errsMore : Array Obj := #[.cells #[.string ⟨errText Rows.laid_strconv_ErrRange⟩] 185, .cells #[.string ⟨errText Rows.laid_strconv_ErrSyntax⟩] 185]
/-- What one variable's block holds, put in. -/
def putIn (h : Array Obj) (g : Nat) (cs : Array Value) : Array Obj := h.modify g fun
  | .cells _ t frozen => .cells cs t frozen
  | o => o
/-- The witness: a world w0 with two blocks more from block n on, the five variables holding what their initialisers lay. -/
def laidIn (n : Nat) (w0 : World) : World :=
  let h0 := putIn w0.heap 0 (flatCells Rows.laid_internal_strconv_uint64pow10)
  let h1 := putIn h0 2 (flatCells Rows.laid_math_bits_deBruijn32tab)
  let h2 := putIn h1 3 (flatCells Rows.laid_math_bits_deBruijn64tab)
  let h3 := putIn h2 5 #[.iface 183 (.pointer (some ⟨n, 0, none⟩))]
  let h4 := putIn h3 4 #[.iface 183 (.pointer (some ⟨n + 1, 0, none⟩))]
  { w0 with heap := h4 }
/-- What the rows list. -/
def listed : List (String × DataW Unit) := [("math/bits.deBruijn32tab", Rows.laid_math_bits_deBruijn32tab), ("math/bits.deBruijn64tab", Rows.laid_math_bits_deBruijn64tab), ("internal/strconv.uint64pow10", Rows.laid_internal_strconv_uint64pow10), ("strconv.ErrRange", Rows.laid_strconv_ErrRange), ("strconv.ErrSyntax", Rows.laid_strconv_ErrSyntax)]
theorem laid_met (os : Os) (args : Array Value) : laidMet Tryz.prog listed ((laidIn (World.settled Tryz.prog os).heap.size (World.holding Tryz.prog os ⟨errsMore, #[], []⟩)).forCall (fun _ _ => 0) ⟨#[], args, []⟩).memory :=
  laidMet_of_run' 8 (by kernel_rfl) (by kernel_rfl)
theorem star : "*" ++ "errors.errorString" = "*errors.errorString" := by decide
theorem rowErr (u : TypeId) (h : Tryz.prog.typeName? 3 u = some "*errors.errorString") : u = 183 :=
  typeName_ptr_named (nm := "errors.errorString") (by rw [star]; kernel_rfl) (by kernel_rfl) (by decide) u (by rw [star]; exact h)
theorem lv_of {W : World} (hL : laidMet Tryz.prog listed W) : Lv W := by
  have h3 := hL.tail.tail.tail
  have e : Rows.laid_strconv_ErrRange = (.iface "*errors.errorString" (.ptr (.agg [.lit (.string [118, 97, 108, 117, 101, 32, 111, 117, 116, 32, 111, 102, 32, 114, 97, 110, 103, 101])])) : DataW Unit) := rfl
  rw [e] at h3
  obtain ⟨a, s, hv, _⟩ := laid_sentinel (g := 5) (ti := 52) (tp := 183) (te := 185) (ts := 9) h3 (by kernel_rfl) (by kernel_rfl) Tryz.underlying52 rowErr Tryz.underlying183 Tryz.underlying185 rfl rfl Tryz.underlying9 (by kernel_rfl) (by kernel_rfl)
  refine ⟨5, by kernel_rfl, ?_, _, _, hv⟩
  have h0 := World.var?_cell (g := 5) (by kernel_rfl) hv 0
  rcases Nat.lt_or_ge 5 W.heap.size with h1 | h1
  · exact h1
  · simp [World.cell?, Array.getElem?_eq_none h1] at h0
end Go.Proofs.YtebcojkeblpbjaaGreatDoor

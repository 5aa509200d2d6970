/-
  From what the rows list to the library's table of powers.
  Conditions: none.
-/
import Derived.Test.YtebcojkeblpbjaaGreatDoorLxLaid
import Derived.Test.YtebcojkeblpbjaaGreatDoorLxNumbers
import Derived.Lib.LaidU8
namespace Go.Proofs.YtebcojkeblpbjaaGreatDoor
open Go.ChangeShapes Go.WideShapes Go.ChangeAt Go.RowKit Go.Lib
set_option linter.unusedVariables false
theorem tabIs_of_reads {P : Program} {W : World} {name : String} {k : IntKind} {zs : List Int} {g : Nat} {t e : TypeId} {n : Nat}
    (hg : P.globalNamed name = some g) (hty : (P.globals[g]?).map (·.type) = some t) (ht : P.underlying t = some (.array n e)) (he : P.underlying e = some (.int k)) (hce : P.cellsOf e = 1) (hct : P.cellsOf t = n)
    (h : VarReads P W name (tabData k zs)) : TabIs P W name k zs := by
  obtain ⟨g', t', cs, fuel, p, hg', ht', hvar, hd⟩ := h
  obtain rfl := Option.some.inj (hg.symm.trans hg')
  obtain rfl := Option.some.inj (hty.symm.trans ht')
  unfold TabIs
  rw [hvar, ← cells_of_tab ht he hce hct hd]
theorem pow_of {W : World} (hL : laidMet Tryz.prog listed W) : Lib.TabIs Tryz.prog W "internal/strconv.uint64pow10" .u64 Lib.pow10Tab := by
  have e0 : Rows.laid_internal_strconv_uint64pow10 = tabData (H := Unit) .u64 Lib.pow10Tab := by kernel_rfl
  have r0 := Lib.laidMet.reads hL (.tail _ (.tail _ (.head _)))
  rw [e0] at r0
  exact tabIs_of_reads (g := 0) (t := 121) (e := 37) (n := 20) (by kernel_rfl) (by kernel_rfl) Tryz.underlying121 Tryz.underlying37 (by kernel_rfl) (by kernel_rfl) r0
end Go.Proofs.YtebcojkeblpbjaaGreatDoor

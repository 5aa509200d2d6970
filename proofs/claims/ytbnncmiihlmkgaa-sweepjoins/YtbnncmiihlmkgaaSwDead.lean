/-
  The laws' closure isDead: which membranes it calls dead.
  Conditions: as each theorem says.
-/
import Derived.Test.YtbnncmiihlmkgaaSwBase
namespace Go.Proofs.Ytbnncmiihlmkgaa
open Go.ChangeShapes Go.WideShapes Go.ChangeAt Go.RowKit Go.Maps Go.Sort Go.Lib
set_option linter.unusedVariables false
/-- Which membranes are dead, as isDead says. -/
def ddOf (d x : Int) : Bool := bits .and .u8 (d / 2 ^ x.toNat) 1 == 1
set_option maxRecDepth 100000 in
theorem dead_any {w : World} {bd : Nat} {d x : Int} (hbx : w.heap[bd]? = some (.cells #[.int .u8 d] 5 (0, 0))) (h0 : 0 ≤ x) (h3 : x ≤ 3) (hd0 : 0 ≤ d) (hd1 : d ≤ 255) :
    Calls Try.prog 34 #[.int .i64 x, .pointer (some ⟨bd, 0, none⟩)] w fun e w' => e = .returned (.bool (ddOf d x)) ∧ ∃ q, w' = w.drewN q := by
  obtain ⟨c0, cf⟩ := box1 hbx
  have hxn : ¬ x < 0 := by omega
  go_enter Try.func34, Try.ntmps34
  go_wp2
  go_ret
  exact ⟨rfl, 0, rfl⟩
end Go.Proofs.Ytbnncmiihlmkgaa

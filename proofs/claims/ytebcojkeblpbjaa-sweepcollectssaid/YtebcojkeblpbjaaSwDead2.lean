/-
  The closure isDead of the other three laws of layer 4: the same contract as SweepJoins' own; and each as a function that says which membranes are dead.
  Conditions: as each theorem says.
-/
import Derived.Test.YtebcojkeblpbjaaSwJoins
namespace Go.Proofs.Ytebcojkeblpbjaa
open Go.ChangeShapes Go.WideShapes Go.ChangeAt Go.RowKit Go.Maps Go.Sort Go.Lib
set_option linter.unusedVariables false
set_option maxRecDepth 100000 in
theorem dead_anyR {w : World} {bd : Nat} {d x : Int} (hbx : w.heap[bd]? = some (.cells #[.int .u8 d] 5 (0, 0))) (h0 : 0 ≤ x) (h3 : x ≤ 3) (hd0 : 0 ≤ d) (hd1 : d ≤ 255) :
    Calls Try.prog 22 #[.int .i64 x, .pointer (some ⟨bd, 0, none⟩)] w fun e w' => e = .returned (.bool (ddOf d x)) ∧ ∃ q, w' = w.drewN q := by
  obtain ⟨c0, cf⟩ := box1 hbx
  have hxn : ¬ x < 0 := by omega
  go_enter Try.func22, Try.ntmps22
  go_wp2
  go_ret
  exact ⟨rfl, 0, rfl⟩
theorem dead_entersR (args : Array Value) (w : World) : (callFunc 22 args).run Try.prog w = .ok (.enter 22 args) w := by kernel_rfl
theorem dead_FR {W : World} {bd : Nat} {d : Int} (hbx : W.heap[bd]? = some (.cells #[.int .u8 d] 5 (0, 0))) (hd0 : 0 ≤ d) (hd1 : d ≤ 255) : DeadF W 22 #[.pointer (some ⟨bd, 0, none⟩)] (ddOf d) :=
  ⟨dead_entersR, fun W' x hW h0 h3 => by rw [one_more]; exact dead_anyR ((hW.block _ (lt_of_block hbx)).trans hbx) h0 h3 hd0 hd1⟩
set_option maxRecDepth 100000 in
theorem dead_anyC {w : World} {bd : Nat} {d x : Int} (hbx : w.heap[bd]? = some (.cells #[.int .u8 d] 5 (0, 0))) (h0 : 0 ≤ x) (h3 : x ≤ 3) (hd0 : 0 ≤ d) (hd1 : d ≤ 255) :
    Calls Try.prog 26 #[.int .i64 x, .pointer (some ⟨bd, 0, none⟩)] w fun e w' => e = .returned (.bool (ddOf d x)) ∧ ∃ q, w' = w.drewN q := by
  obtain ⟨c0, cf⟩ := box1 hbx
  have hxn : ¬ x < 0 := by omega
  go_enter Try.func26, Try.ntmps26
  go_wp2
  go_ret
  exact ⟨rfl, 0, rfl⟩
theorem dead_entersC (args : Array Value) (w : World) : (callFunc 26 args).run Try.prog w = .ok (.enter 26 args) w := by kernel_rfl
theorem dead_FC {W : World} {bd : Nat} {d : Int} (hbx : W.heap[bd]? = some (.cells #[.int .u8 d] 5 (0, 0))) (hd0 : 0 ≤ d) (hd1 : d ≤ 255) : DeadF W 26 #[.pointer (some ⟨bd, 0, none⟩)] (ddOf d) :=
  ⟨dead_entersC, fun W' x hW h0 h3 => by rw [one_more]; exact dead_anyC ((hW.block _ (lt_of_block hbx)).trans hbx) h0 h3 hd0 hd1⟩
set_option maxRecDepth 100000 in
theorem dead_anyT {w : World} {bd : Nat} {d x : Int} (hbx : w.heap[bd]? = some (.cells #[.int .u8 d] 5 (0, 0))) (h0 : 0 ≤ x) (h3 : x ≤ 3) (hd0 : 0 ≤ d) (hd1 : d ≤ 255) :
    Calls Try.prog 30 #[.int .i64 x, .pointer (some ⟨bd, 0, none⟩)] w fun e w' => e = .returned (.bool (ddOf d x)) ∧ ∃ q, w' = w.drewN q := by
  obtain ⟨c0, cf⟩ := box1 hbx
  have hxn : ¬ x < 0 := by omega
  go_enter Try.func30, Try.ntmps30
  go_wp2
  go_ret
  exact ⟨rfl, 0, rfl⟩
theorem dead_entersT (args : Array Value) (w : World) : (callFunc 30 args).run Try.prog w = .ok (.enter 30 args) w := by kernel_rfl
theorem dead_FT {W : World} {bd : Nat} {d : Int} (hbx : W.heap[bd]? = some (.cells #[.int .u8 d] 5 (0, 0))) (hd0 : 0 ≤ d) (hd1 : d ≤ 255) : DeadF W 30 #[.pointer (some ⟨bd, 0, none⟩)] (ddOf d) :=
  ⟨dead_entersT, fun W' x hW h0 h3 => by rw [one_more]; exact dead_anyT ((hW.block _ (lt_of_block hbx)).trans hbx) h0 h3 hd0 hd1⟩
end Go.Proofs.Ytebcojkeblpbjaa

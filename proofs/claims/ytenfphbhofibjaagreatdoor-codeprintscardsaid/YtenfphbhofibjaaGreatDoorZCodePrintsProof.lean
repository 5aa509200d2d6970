/-
 Proved: P9.1: at whatever function the law CodePrints answers true: a function's text.
 Conditions: the row's own: five variables of the library and the project's tables tree.signs, scope.words, code.words and palinglaw09.words as their initialisers lay them (the card ties them to the program's text).
-/
import Derived.Test.YtenfphbhofibjaaGreatDoorZCp
set_option linter.unusedVariables false
namespace Go.Proofs.YtenfphbhofibjaaGreatDoor.codePrints
open Go.ChangeShapes Go.WideShapes Go.ChangeAt Go.RowKit Go.Lib
open Go.ChangeMaps (open_string shut_string)
theorem over : Rows.CodePrintsSaid :=
 OpenClaim.holds_of_cond 12 Tryz.f12 rfl rfl rfl rfl rfl rfl rfl ⟨rfl, rfl, rfl, rfl, rfl⟩ rfl rfl rfl rfl rfl (by kernel_rfl) Tryz.func12 closed
  (of_decide_eq_true (by kernel_rfl)) (by unfold Func.isWrapper; first | (rw [if_pos (by decide +kernel)]; kernel_rfl) | (rw [if_neg (by decide +kernel)]; exact ⟨rfl, rfl⟩))
  (fun os started H enc _ F0 => by rw [OpenClaim.pre_eq_preRow]; exact lifted os started H enc F0)
theorem card : Rows.CodePrintsCardSaid :=
 Claim7.holds_tied_plain_at .later [] [.data, .data, .data, .sentinel, .sentinel, .data, .data, .data, .data] true (true, "8099820c95568d196aa77973d442e8b58e11f339432d056511d85bf716a5dfe7") true
  over (fun _ h => by cases h) (by kernel_rfl) (fun _ h => by cases h) codePrints_row_tie rfl ⟨rfl, rfl⟩ (by kernel_rfl) rfl
  (fun f fn hf hfn => by
   obtain rfl : f = 12 := Option.some.inj ((show Tryz.prog.funcNamed "paling/palinglaw09.CodePrints" = some 12 by kernel_rfl).symm.trans hf) |>.symm
   obtain rfl : fn = Tryz.f12 := (Option.some.inj (Tryz.func12.symm.trans hfn)).symm
   exact ⟨by kernel_rfl, fun j t ht => by
    rw [Tryz.params12] at ht
    have h3 : t = 73 := by
     rcases j with _ | j
     ·exact (by simpa using ht.symm)
     ·simp at ht
    subst h3
    exact (show Tryz.prog.wantsStandIn 73 = false by kernel_rfl)⟩)
  (by kernel_rfl)
#print axioms card
end Go.Proofs.YtenfphbhofibjaaGreatDoor.codePrints
namespace Go.Proofs.YtenfphbhofibjaaGreatDoor
theorem codePrints_holds : Rows.CodePrintsCardSaid := codePrints.card
end Go.Proofs.YtenfphbhofibjaaGreatDoor

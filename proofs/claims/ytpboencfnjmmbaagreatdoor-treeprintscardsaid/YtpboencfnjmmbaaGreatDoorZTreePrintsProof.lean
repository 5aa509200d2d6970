/-
 Proved: package tree prints any tree that the laws make as the laws' own printing does, as a whole, statement by statement, expression by expression.
 Conditions: the row's own: five variables of the library and one of the project as their initialisers lay them (the card ties them to the program's text).
-/
import Derived.Test.YtpboencfnjmmbaaGreatDoorZTpLift
import Derived.Test.YtpboencfnjmmbaaGreatDoorZTpFacts
set_option linter.unusedVariables false
namespace Go.Proofs.YtpboencfnjmmbaaGreatDoor.treePrints
open Go.ChangeShapes Go.WideShapes Go.ChangeAt Go.RowKit Go.Lib
open Go.ChangeMaps (open_string shut_string)
theorem over : Rows.TreePrintsSaid :=
 OpenClaim.holds_of_cond 7 Tryz.f7 rfl rfl rfl rfl rfl rfl rfl ⟨rfl, rfl, rfl, rfl, rfl⟩ rfl rfl rfl rfl rfl (by kernel_rfl) Tryz.func7 closed
  (of_decide_eq_true (by kernel_rfl)) (by unfold Func.isWrapper; first | (rw [if_pos (by decide +kernel)]; kernel_rfl) | (rw [if_neg (by decide +kernel)]; exact ⟨rfl, rfl⟩))
  (fun os started H enc _ F0 => by rw [OpenClaim.pre_eq_preRow]; exact lifted os started H enc F0)
theorem card : Rows.TreePrintsCardSaid :=
 Claim7.holds_tied_plain_at .later [] [.data, .data, .data, .sentinel, .sentinel, .data] true (true, "26be1f79f5995bc8ef07ad1215d2e35791fe1b635a95ed222ebd83efc896d142") true
  over (fun _ h => by cases h) (by kernel_rfl) (fun _ h => by cases h) treePrints_row_tie rfl ⟨rfl, rfl⟩ (by kernel_rfl) rfl
  (fun f fn hf hfn => by
   obtain rfl : f = 7 := Option.some.inj ((show Tryz.prog.funcNamed "paling/palinglaw06.TreePrints" = some 7 by kernel_rfl).symm.trans hf) |>.symm
   obtain rfl : fn = Tryz.f7 := (Option.some.inj (Tryz.func7.symm.trans hfn)).symm
   exact ⟨by kernel_rfl, fun j t ht => by
    rw [Tryz.params7] at ht
    have h3 : t = 37 := by
     rcases j with _ | j
     ·exact (by simpa using ht.symm)
     ·simp at ht
    subst h3
    exact (show Tryz.prog.wantsStandIn 37 = false by kernel_rfl)⟩)
  (by kernel_rfl)
#print axioms card
end Go.Proofs.YtpboencfnjmmbaaGreatDoor.treePrints
namespace Go.Proofs.YtpboencfnjmmbaaGreatDoor
theorem treePrints_holds : Rows.TreePrintsCardSaid := treePrints.card
end Go.Proofs.YtpboencfnjmmbaaGreatDoor

/-
  Proved: package valid's Check says of any module that is made of small numbers what the law's own Check says.
  Conditions: the row's own: five variables of the library and four of the project as their initialisers lay them (the card ties them to the program's text).
-/
import Derived.Test.YtpboencfnjmmbaaGreatDoorVcLift
import Derived.Test.YtpboencfnjmmbaaGreatDoorVcFacts
import Derived.Test.YtpboencfnjmmbaaGreatDoorRows
import Derived.Test.YtpboencfnjmmbaaGreatDoorCards
import Derived.Test.YtpboencfnjmmbaaGreatDoorTie
import Derived.Test.YtpboencfnjmmbaaGreatDoorVdChecks
import Derived.ChangeMaps5
import Derived.Carry
import Derived.ChangeOld
import Derived.ShutString
namespace Go.Proofs.YtpboencfnjmmbaaGreatDoor.validChecks
open Go.ChangeShapes Go.WideShapes Go.ChangeAt Go.RowKit Go.Lib
open Go.ChangeMaps (open_string shut_string)
set_option linter.unusedVariables false
theorem over : Rows.ValidChecksSaid :=
  OpenClaim.holds_of_cond 3 Tryz.f3 rfl rfl rfl rfl rfl rfl rfl ⟨rfl, rfl, rfl, rfl, rfl⟩ rfl rfl rfl rfl rfl (by kernel_rfl) Tryz.func3 closed
    (of_decide_eq_true (by kernel_rfl)) (by unfold Func.isWrapper; first | (rw [if_pos (by decide +kernel)]; kernel_rfl) | (rw [if_neg (by decide +kernel)]; exact ⟨rfl, rfl⟩))
    (fun os started H enc _ F0 => by rw [OpenClaim.pre_eq_preRow]; exact lifted os started H enc F0)
theorem card : Rows.ValidChecksCardSaid :=
  Claim7.holds_tied_plain_at .later [] [.data, .data, .data, .sentinel, .sentinel, .data, .data, .data, .data] true (true, "26be1f79f5995bc8ef07ad1215d2e35791fe1b635a95ed222ebd83efc896d142") true
    over (fun _ h => by cases h) (by kernel_rfl) (fun _ h => by cases h) validChecks_row_tie rfl ⟨rfl, rfl⟩ (by kernel_rfl) rfl
    (fun f fn hf hfn => by
      obtain rfl : f = 3 := Option.some.inj ((show Tryz.prog.funcNamed "paling/palinglaw11.ValidChecks" = some 3 by kernel_rfl).symm.trans hf) |>.symm
      obtain rfl : fn = Tryz.f3 := (Option.some.inj (Tryz.func3.symm.trans hfn)).symm
      exact ⟨by kernel_rfl, fun j t ht => by
        rw [Tryz.params3] at ht
        have h3 : t = 22 := by
          rcases j with _ | j
          · exact (by simpa using ht.symm)
          · simp at ht
        subst h3
        exact (show Tryz.prog.wantsStandIn 22 = false by kernel_rfl)⟩)
    (by kernel_rfl)
#print axioms card
end Go.Proofs.YtpboencfnjmmbaaGreatDoor.validChecks
namespace Go.Proofs.YtpboencfnjmmbaaGreatDoor
theorem validChecks_holds : Rows.ValidChecksCardSaid := validChecks.card
end Go.Proofs.YtpboencfnjmmbaaGreatDoor

/-
  Proved: package valid's Check says of modules of any number of functions, instructions and registers about the limits what the law's own Check says.
  Conditions: the row's own: five variables of the library and four of the project as their initialisers lay them (the card ties them to the program's text).
-/
import Derived.Test.YtpboencfnjmmbaaGreatDoorVmLift
import Derived.Test.YtpboencfnjmmbaaGreatDoorVmFacts
import Derived.Test.YtpboencfnjmmbaaGreatDoorRows
import Derived.Test.YtpboencfnjmmbaaGreatDoorCards
import Derived.Test.YtpboencfnjmmbaaGreatDoorTie
import Derived.Test.YtpboencfnjmmbaaGreatDoorVdMany
import Derived.ChangeMaps5
import Derived.Carry
import Derived.ChangeOld
import Derived.ShutString
namespace Go.Proofs.YtpboencfnjmmbaaGreatDoor.validMany
open Go.ChangeShapes Go.WideShapes Go.ChangeAt Go.RowKit Go.Lib
open Go.ChangeMaps (open_string shut_string)
set_option linter.unusedVariables false
theorem over : Rows.ValidManySaid :=
  OpenClaim.holds_of_cond 5 Tryz.f5 rfl rfl rfl rfl rfl rfl rfl ⟨rfl, rfl, rfl, rfl, rfl⟩ rfl rfl rfl rfl rfl (by kernel_rfl) Tryz.func5 closed
    (of_decide_eq_true (by kernel_rfl)) (by unfold Func.isWrapper; first | (rw [if_pos (by decide +kernel)]; kernel_rfl) | (rw [if_neg (by decide +kernel)]; exact ⟨rfl, rfl⟩))
    (fun os started H enc _ F0 => by rw [OpenClaim.pre_eq_preRow]; exact lifted os started H enc F0)
theorem card : Rows.ValidManyCardSaid :=
  Claim7.holds_tied_plain_at .later [] [.data, .data, .data, .sentinel, .sentinel, .data, .data, .data, .data] true (true, "26be1f79f5995bc8ef07ad1215d2e35791fe1b635a95ed222ebd83efc896d142") true
    over (fun _ h => by cases h) (by kernel_rfl) (fun _ h => by cases h) validMany_row_tie rfl ⟨rfl, rfl⟩ (by kernel_rfl) rfl
    (fun f fn hf hfn => by
      obtain rfl : f = 5 := Option.some.inj ((show Tryz.prog.funcNamed "paling/palinglaw11.ValidMany" = some 5 by kernel_rfl).symm.trans hf) |>.symm
      obtain rfl : fn = Tryz.f5 := (Option.some.inj (Tryz.func5.symm.trans hfn)).symm
      exact ⟨by kernel_rfl, fun j t ht => by
        rw [Tryz.params5] at ht
        have h3 : t = 5 ∨ t = 54 := by
          rcases j with _ | _ | _ | j
          · exact .inl (by simpa using ht.symm)
          · exact .inl (by simpa using ht.symm)
          · exact .inr (by simpa using ht.symm)
          · simp at ht
        rcases h3 with rfl | rfl
        · exact (show Tryz.prog.wantsStandIn 5 = false by kernel_rfl)
        · exact (show Tryz.prog.wantsStandIn 54 = false by kernel_rfl)⟩)
    (by kernel_rfl)
#print axioms card
end Go.Proofs.YtpboencfnjmmbaaGreatDoor.validMany
namespace Go.Proofs.YtpboencfnjmmbaaGreatDoor
theorem validMany_holds : Rows.ValidManyCardSaid := validMany.card
end Go.Proofs.YtpboencfnjmmbaaGreatDoor

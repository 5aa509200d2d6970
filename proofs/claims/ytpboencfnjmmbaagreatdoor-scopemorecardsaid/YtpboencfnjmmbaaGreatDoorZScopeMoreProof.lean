/-
 Proved: a parameter more is a function's own, and what else it uses it uses still.
 Conditions: the row's own: five variables of the library and two of the project as their initialisers lay them (the card ties them to the program's text).
-/
import Derived.Test.YtpboencfnjmmbaaGreatDoorZSmLift
import Derived.Test.YtpboencfnjmmbaaGreatDoorZSmFacts
set_option linter.unusedVariables false
namespace Go.Proofs.YtpboencfnjmmbaaGreatDoor.scopeMore
open Go.ChangeShapes Go.WideShapes Go.ChangeAt Go.RowKit Go.Lib
open Go.ChangeMaps (open_string shut_string)
theorem over : Rows.ScopeMoreSaid :=
 OpenClaim.holds_of_cond 10 Tryz.f10 rfl rfl rfl rfl rfl rfl rfl ⟨rfl, rfl, rfl, rfl, rfl⟩ rfl rfl rfl rfl rfl (by kernel_rfl) Tryz.func10 closed
  (of_decide_eq_true (by kernel_rfl)) (by unfold Func.isWrapper; first | (rw [if_pos (by decide +kernel)]; kernel_rfl) | (rw [if_neg (by decide +kernel)]; exact ⟨rfl, rfl⟩))
  (fun os started H enc _ F0 => by rw [OpenClaim.pre_eq_preRow]; exact lifted os started H enc F0)
theorem card : Rows.ScopeMoreCardSaid :=
 Claim7.holds_tied_plain_at .later [] [.data, .data, .data, .sentinel, .sentinel, .data, .data] true (true, "26be1f79f5995bc8ef07ad1215d2e35791fe1b635a95ed222ebd83efc896d142") true
  over (fun _ h => by cases h) (by kernel_rfl) (fun _ h => by cases h) scopeMore_row_tie rfl ⟨rfl, rfl⟩ (by kernel_rfl) rfl
  (fun f fn hf hfn => by
   obtain rfl : f = 10 := Option.some.inj ((show Tryz.prog.funcNamed "paling/palinglaw08.ScopeMore" = some 10 by kernel_rfl).symm.trans hf) |>.symm
   obtain rfl : fn = Tryz.f10 := (Option.some.inj (Tryz.func10.symm.trans hfn)).symm
   exact ⟨by kernel_rfl, fun j t ht => by
    rw [Tryz.params10] at ht
    have h3 : t = 73 ∨ t = 37 ∨ t = 5 := by
     rcases j with _ | _ | _ | j
     ·exact .inl (by simpa using ht.symm)
     ·exact .inr (.inl (by simpa using ht.symm))
     ·exact .inr (.inr (by simpa using ht.symm))
     ·simp at ht
    rcases h3 with rfl | rfl | rfl
    ·exact (show Tryz.prog.wantsStandIn 73 = false by kernel_rfl)
    ·exact (show Tryz.prog.wantsStandIn 37 = false by kernel_rfl)
    ·exact (show Tryz.prog.wantsStandIn 5 = false by kernel_rfl)⟩)
  (by kernel_rfl)
#print axioms card
end Go.Proofs.YtpboencfnjmmbaaGreatDoor.scopeMore
namespace Go.Proofs.YtpboencfnjmmbaaGreatDoor
theorem scopeMore_holds : Rows.ScopeMoreCardSaid := scopeMore.card
end Go.Proofs.YtpboencfnjmmbaaGreatDoor

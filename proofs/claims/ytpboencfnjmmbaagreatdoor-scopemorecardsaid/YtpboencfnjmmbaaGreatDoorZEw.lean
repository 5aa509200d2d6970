/-
 The laws' Awake of layer 1 answers true and turns nothing that was there.
 Conditions: the listed variables as they are laid.
-/
import Derived.Test.YtpboencfnjmmbaaGreatDoorZEzGs
namespace Go.Proofs.YtpboencfnjmmbaaGreatDoor
open Go.Ex Go.RowKit
set_option maxRecDepth 1000000
theorem awakeX1 (w : World) (hw : Held gs0 w) : Calls Tryz.prog 176 #[] w fun e w' => e = .returned (.bool true) ∧ Below w.heap.size w w' :=
 awake_of (n := 200) (l := []) fits0 (fun f hf => by cases hf) hw (by kernel_rfl) (by kernel_rfl)
end Go.Proofs.YtpboencfnjmmbaaGreatDoor
namespace Go.Proofs.YtpboencfnjmmbaaGreatDoor
open Go.Ex Go.RowKit
set_option maxRecDepth 1000000
theorem awakeX2 (w : World) (hw : Held gs0 w) : Calls Tryz.prog 131 #[] w fun e w' => e = .returned (.bool true) ∧ Below w.heap.size w w' :=
 awake_of (n := 200) (l := [176]) fits0 (fun f hf => by obtain rfl := List.mem_singleton.1 hf; exact awakeX1) hw (by kernel_rfl) (by kernel_rfl)
end Go.Proofs.YtpboencfnjmmbaaGreatDoor
namespace Go.Proofs.YtpboencfnjmmbaaGreatDoor
open Go.Ex Go.RowKit
set_option maxRecDepth 1000000
theorem awakeX3 (w : World) (hw : Held gs0 w) : Calls Tryz.prog 105 #[] w fun e w' => e = .returned (.bool true) ∧ Below w.heap.size w w' :=
 awake_of (n := 200) (l := [131]) fits0 (fun f hf => by obtain rfl := List.mem_singleton.1 hf; exact awakeX2) hw (by kernel_rfl) (by kernel_rfl)
end Go.Proofs.YtpboencfnjmmbaaGreatDoor

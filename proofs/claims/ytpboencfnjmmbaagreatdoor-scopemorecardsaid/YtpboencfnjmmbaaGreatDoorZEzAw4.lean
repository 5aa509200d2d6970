/-
 The laws' Awake of layer 4 answers true and turns nothing that was there.
 Conditions: the listed variables as they are laid.
-/
import Derived.Test.YtpboencfnjmmbaaGreatDoorZEw
namespace Go.Proofs.YtpboencfnjmmbaaGreatDoor
open Go.Ex Go.RowKit
set_option maxRecDepth 1000000
theorem awakeX4 (w : World) (hw : Held gs0 w) : Calls Tryz.prog 76 #[] w fun e w' => e = .returned (.bool true) ∧ Below w.heap.size w w' :=
 awake_of (n := 200) (l := [105]) fits0 (fun f hf => by obtain rfl := List.mem_singleton.1 hf; exact awakeX3) hw (by kernel_rfl) (by kernel_rfl)
end Go.Proofs.YtpboencfnjmmbaaGreatDoor

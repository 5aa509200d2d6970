/-
 The laws' Awake of layer 7 answers true and turns nothing that was there.
 Conditions: the listed variables as they are laid.
-/
import Derived.Test.YtpboencfnjmmbaaGreatDoorZEzAw6
namespace Go.Proofs.YtpboencfnjmmbaaGreatDoor
open Go.Ex Go.RowKit
set_option maxRecDepth 1000000
theorem awakeX7 (w : World) (hw : Held gs0 w) : Calls Tryz.prog 56 #[] w fun e w' => e = .returned (.bool true) ∧ Below w.heap.size w w' :=
 awake_of (n := 200) (l := [20]) fits0 (fun f hf => by obtain rfl := List.mem_singleton.1 hf; exact awakeX6) hw (by kernel_rfl) (by kernel_rfl)
end Go.Proofs.YtpboencfnjmmbaaGreatDoor

/-
 The laws' Awake of layer 6 answers true and turns nothing that was there.
 Conditions: the listed variables as they are laid.
-/
import Derived.Test.YtpboencfnjmmbaaGreatDoorZEzAw5
namespace Go.Proofs.YtpboencfnjmmbaaGreatDoor
open Go.Ex Go.RowKit
set_option maxRecDepth 1000000
theorem awakeX6 (w : World) (hw : Held gs0 w) : Calls Tryz.prog 20 #[] w fun e w' => e = .returned (.bool true) ∧ Below w.heap.size w w' :=
 awake_of (n := 200) (l := [47]) fits0 (fun f hf => by obtain rfl := List.mem_singleton.1 hf; exact awakeX5) hw (by kernel_rfl) (by kernel_rfl)
end Go.Proofs.YtpboencfnjmmbaaGreatDoor

/-
 What the plain run is told of this program: its tables, the two functions of the library without a body, the listed variables.
 Conditions: none.
-/
import Derived.Test.YtpboencfnjmmbaaGreatDoorZExColl
set_option linter.unusedVariables false
namespace Go.Proofs.YtpboencfnjmmbaaGreatDoor
open Go.Ex Go.RowKit
set_option maxRecDepth 1000000
abbrev xt : Xt := [(233, Extern.BytealgIndexByte.indexByte), (217, Extern.MapsClone.clone)]
theorem zoks : Tryz.prog.types.toList.all zlB = true := by kernel_rfl
theorem namesOk : named Tryz.prog = true := by kernel_rfl
theorem mixedOk : Tryz.prog.follows .mixedOrders = true := by kernel_rfl
theorem standsI : Stands Tryz.prog 233 Extern.BytealgIndexByte.indexByte := ⟨_, Tryz.func233, by kernel_rfl, by kernel_rfl, by kernel_rfl, by kernel_rfl⟩
theorem standsC : Stands Tryz.prog 217 Extern.MapsClone.clone := ⟨_, Tryz.func217, by kernel_rfl, by kernel_rfl, by kernel_rfl, by kernel_rfl⟩
theorem goodE (gl : Nat → Bool) : Ex.Good (envOf Tryz.prog 400 gl xt) := good_of zoks namesOk (by
 intro x hx
 rcases List.mem_cons.1 hx with rfl | hx
 ·exact ⟨standsI, simmed_index⟩
 ·rcases List.mem_cons.1 hx with rfl | hx
  ·exact ⟨standsC, simmed_clone⟩
  ·cases hx)
theorem awake_of {gs : Gs} {l : List FuncId} {n : Nat} {f : FuncId} {w : World} (hf : fits 400 gs = true) (hl : ∀ f ∈ l, ∀ w, Held gs w → Calls Tryz.prog f #[] w fun e w' => e = .returned (.bool true) ∧ Below w.heap.size w w') (hw : Held gs w)
 (hfn : (fnOf Tryz.prog f).isSome = true) (h : says (acall (envOf Tryz.prog 400 (glOf gs) xt) (orOv collectOv (awakes l)) n f #[] (st0 400 gs)) = true) : Calls Tryz.prog f #[] w fun e w' => e = .returned (.bool true) ∧ Below w.heap.size w w' :=
 closed (goodE _) mixedOk hf hw (collectOv_ok.or (awakes_ok hw hl)) hfn h
end Go.Proofs.YtpboencfnjmmbaaGreatDoor

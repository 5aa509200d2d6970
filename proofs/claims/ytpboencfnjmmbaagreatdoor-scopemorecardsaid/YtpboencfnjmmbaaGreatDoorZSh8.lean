/-
 A contract of the library's, laid at this seat's numbers. Conditions: as the contract says.
-/
import Derived.Shelf.SlicesE.DeleteFunc
import Derived.Test.YtpboencfnjmmbaaGreatDoorProg
import Derived.Shelf.SlicesE.Index
import Derived.Shelf.Slices.Equal
import Derived.Shelf.SlicesE.Clone
namespace Go.Proofs
open Go.Shelf
end Go.Proofs
namespace Go.Proofs
open Go.Shelf
end Go.Proofs
namespace Go.Proofs
open Go.Shelf
def Tryz.eqSs_ren : Go.Shelf.Ren := ⟨fun | 193 => 29 | n => n, fun | 31 => 63 | 9 => 9 | 4 => 4 | 3 => 3 | 0 => 0 | n => n, fun | n => n⟩
theorem Tryz.eqSs : Lays.n193 Tryz.prog Tryz.eqSs_ren := {
 mixed := by kernel_rfl
 f193 := Tryz.func29.trans (congrArg some (by kernel_rfl))
 t0 := Tryz.underlying0
 a0 := Tryz.isAgg0
 z0 := Tryz.sizeOf0
 v0 := Tryz.zeroValue0
 t3 := Tryz.underlying3
 a3 := Tryz.isAgg3
 z3 := Tryz.sizeOf3
 v3 := Tryz.zeroValue3
 t4 := Tryz.underlying4
 a4 := Tryz.isAgg4
 z4 := Tryz.sizeOf4
 v4 := Tryz.zeroValue4
 t9 := Tryz.underlying9
 a9 := Tryz.isAgg9
 z9 := Tryz.sizeOf9
 v9 := Tryz.zeroValue9
 t31 := Tryz.underlying63
 a31 := Tryz.isAgg63
 z31 := Tryz.sizeOf63
 v31 := Tryz.zeroValue63 }
end Go.Proofs
namespace Go.Proofs
open Go.Shelf
def Tryz.cloneStrs_ren : Go.Shelf.Ren := ⟨fun | 41 => 32 | n => n, fun | 22 => 63 | 23 => 9 | 4 => 4 | n => n, fun | n => n⟩
theorem Tryz.cloneStrs : Go.Proofs.SlLaysE0.n41 Tryz.prog Tryz.cloneStrs_ren := {
 mixed := by kernel_rfl
 f41 := ⟨Tryz.f32.name, by decide, Tryz.func32.trans (congrArg some (by kernel_rfl))⟩
 t4 := Tryz.underlying4
 a4 := Tryz.isAgg4
 z4 := Tryz.sizeOf4
 v4 := Tryz.zeroValue4
 t22 := Tryz.underlying63
 a22 := Tryz.isAgg63
 z22 := Tryz.sizeOf63
 v22 := Tryz.zeroValue63 }
end Go.Proofs

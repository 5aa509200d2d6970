/-
  A contract of the library's, laid at this seat's numbers. Conditions: as the contract says.
-/
import Derived.Shelf.SlicesE.DeleteFunc
import Derived.Test.YtebcojkeblpbjaaGreatDoorProg
namespace Go.Proofs
open Go.Shelf
def Tryz.delFRefs_ren : Go.Shelf.Ren := ⟨fun | 10 => 90 | 6 => 104 | n => n, fun | 22 => 58 | 23 => 71 | 25 => 70 | 3 => 3 | 4 => 4 | 0 => 0 | n => n, fun | n => n⟩
theorem Tryz.delFRefs : Go.Proofs.SlLaysH.n10 Tryz.prog Tryz.delFRefs_ren := {
  mixed := by kernel_rfl
  f6 := ⟨Tryz.f104.name, by decide, Tryz.func104.trans (congrArg some (by kernel_rfl))⟩
  f10 := ⟨Tryz.f90.name, by decide, Tryz.func90.trans (congrArg some (by kernel_rfl))⟩
  t0 := Tryz.underlying0
  a0 := Tryz.isAgg0
  z0 := Tryz.sizeOf0
  v0 := Tryz.zeroValue0
  t3 := Tryz.underlying3
  a3 := Tryz.isAgg3
  z3 := Tryz.sizeOf3
  v3 := Tryz.zeroValue3
  t4 := Tryz.underlying4
  a4 := Tryz.isAgg4
  z4 := Tryz.sizeOf4
  v4 := Tryz.zeroValue4
  t22 := Tryz.underlying58
  a22 := Tryz.isAgg58
  z22 := Tryz.sizeOf58
  v22 := Tryz.zeroValue58
  a23 := Tryz.isAgg71
  z23 := Tryz.sizeOf71
  t25 := Tryz.underlying70
  a25 := Tryz.isAgg70
  z25 := Tryz.sizeOf70
  v25 := Tryz.zeroValue70 }
end Go.Proofs

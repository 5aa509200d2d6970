/-
  A contract of the library's, laid at this seat's numbers. Conditions: as the contract says.
-/
import Derived.Shelf.SlicesE.DeleteFunc
import Derived.Test.YthghjnkeofkoiaaGreatDoorProg
namespace Go.Proofs
open Go.Shelf
def Tryz.delFRefs_ren : Go.Shelf.Ren := ⟨fun | 10 => 158 | 6 => 185 | n => n, fun | 22 => 125 | 23 => 139 | 25 => 137 | 3 => 3 | 4 => 4 | 0 => 0 | n => n, fun | n => n⟩
theorem Tryz.delFRefs : Go.Proofs.SlLaysH.n10 Tryz.prog Tryz.delFRefs_ren := {
  mixed := by kernel_rfl
  f6 := ⟨Tryz.f185.name, by decide, Tryz.func185.trans (congrArg some (by kernel_rfl))⟩
  f10 := ⟨Tryz.f158.name, by decide, Tryz.func158.trans (congrArg some (by kernel_rfl))⟩
  t0 := Tryz.underlying0
  a0 := Tryz.isAgg0
  z0 := Tryz.sizeOf0
  v0 := Tryz.zeroValue0
  t3 := Tryz.underlying3
  a3 := Tryz.isAgg3
  z3 := Tryz.sizeOf3
  v3 := Tryz.zeroValue3
  t4 := Tryz.underlying4
  a4 := Tryz.isAgg4
  z4 := Tryz.sizeOf4
  v4 := Tryz.zeroValue4
  t22 := Tryz.underlying125
  a22 := Tryz.isAgg125
  z22 := Tryz.sizeOf125
  v22 := Tryz.zeroValue125
  a23 := Tryz.isAgg139
  z23 := Tryz.sizeOf139
  t25 := Tryz.underlying137
  a25 := Tryz.isAgg137
  z25 := Tryz.sizeOf137
  v25 := Tryz.zeroValue137 }
end Go.Proofs

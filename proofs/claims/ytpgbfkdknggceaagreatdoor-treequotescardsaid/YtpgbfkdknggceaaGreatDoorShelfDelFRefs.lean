/-
  A contract of the library's, laid at this seat's numbers. Conditions: as the contract says.
-/
import Derived.Shelf.SlicesE.DeleteFunc
import Derived.Test.YtpgbfkdknggceaaGreatDoorProg
namespace Go.Proofs
open Go.Shelf
def Tryz.delFRefs_ren : Go.Shelf.Ren := ⟨fun | 10 => 102 | 6 => 121 | n => n, fun | 22 => 80 | 23 => 94 | 25 => 92 | 3 => 3 | 4 => 4 | 0 => 0 | n => n, fun | n => n⟩
theorem Tryz.delFRefs : Go.Proofs.SlLaysH.n10 Tryz.prog Tryz.delFRefs_ren := {
  mixed := by kernel_rfl
  f6 := ⟨Tryz.f121.name, by decide, Tryz.func121.trans (congrArg some (by kernel_rfl))⟩
  f10 := ⟨Tryz.f102.name, by decide, Tryz.func102.trans (congrArg some (by kernel_rfl))⟩
  t0 := Tryz.underlying0
  a0 := Tryz.isAgg0
  z0 := Tryz.sizeOf0
  v0 := Tryz.zeroValue0
  t3 := Tryz.underlying3
  a3 := Tryz.isAgg3
  z3 := Tryz.sizeOf3
  v3 := Tryz.zeroValue3
  t4 := Tryz.underlying4
  a4 := Tryz.isAgg4
  z4 := Tryz.sizeOf4
  v4 := Tryz.zeroValue4
  t22 := Tryz.underlying80
  a22 := Tryz.isAgg80
  z22 := Tryz.sizeOf80
  v22 := Tryz.zeroValue80
  a23 := Tryz.isAgg94
  z23 := Tryz.sizeOf94
  t25 := Tryz.underlying92
  a25 := Tryz.isAgg92
  z25 := Tryz.sizeOf92
  v25 := Tryz.zeroValue92 }
end Go.Proofs

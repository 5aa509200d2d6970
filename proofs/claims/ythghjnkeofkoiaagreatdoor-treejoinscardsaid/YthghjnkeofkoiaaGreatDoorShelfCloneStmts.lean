/-
  A contract of the library's, laid at this seat's numbers. Conditions: as the contract says.
-/
import Derived.Shelf.SlicesE.Clone
import Derived.Test.YthghjnkeofkoiaaGreatDoorProg
namespace Go.Proofs
open Go.Shelf
def Tryz.cloneStmts_ren : Go.Shelf.Ren := ⟨fun | 41 => 20 | n => n, fun | 22 => 24 | 23 => 30 | 4 => 4 | n => n, fun | n => n⟩
theorem Tryz.cloneStmts : Go.Proofs.SlLaysE0.n41 Tryz.prog Tryz.cloneStmts_ren := {
  mixed := by kernel_rfl
  f41 := ⟨Tryz.f20.name, by decide, Tryz.func20.trans (congrArg some (by kernel_rfl))⟩
  t4 := Tryz.underlying4
  a4 := Tryz.isAgg4
  z4 := Tryz.sizeOf4
  v4 := Tryz.zeroValue4
  t22 := Tryz.underlying24
  a22 := Tryz.isAgg24
  z22 := Tryz.sizeOf24
  v22 := Tryz.zeroValue24 }
end Go.Proofs

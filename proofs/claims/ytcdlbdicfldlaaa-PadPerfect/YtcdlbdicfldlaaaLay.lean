/-
  Where the library's functions that this program calls, and their types, lie in it: tables of numbers, and that each is what it is elsewhere.
-/
import Derived.Shelf.SlGeneric
import Derived.Ground.SlmeProg
import Derived.Shelf.SlMaps.Equal
import Derived.Test.YtcdlbdicfldlaaaRows
namespace Go.Proofs.Ytcdlbdicfldlaaa.Lay
open Go.Shelf
def equalA_ren : Go.Shelf.Ren := ⟨fun | 6 => 25 | n => n, fun | 23 => 36 | 24 => 36 | 26 => 3 | 27 => 3 | 4 => 4 | 3 => 3 | 0 => 0 | 36 => 44 | n => n, fun | n => n⟩
theorem equalA : Go.Proofs.SlLaysEq.n6 Try.prog equalA_ren := {
  mixed := by kernel_rfl
  f6 := ⟨Try.f25.name, by decide, Try.func25.trans (congrArg some (by kernel_rfl))⟩
  t0 := Try.underlying0
  a0 := Try.isAgg0
  z0 := Try.sizeOf0
  v0 := Try.zeroValue0
  t3 := Try.underlying3
  a3 := Try.isAgg3
  z3 := Try.sizeOf3
  v3 := Try.zeroValue3
  t4 := Try.underlying4
  a4 := Try.isAgg4
  z4 := Try.sizeOf4
  v4 := Try.zeroValue4
  t23 := Try.underlying36
  a23 := Try.isAgg36
  z23 := Try.sizeOf36
  v23 := Try.zeroValue36
  t24 := Try.underlying36
  a24 := Try.isAgg36
  z24 := Try.sizeOf36
  v24 := Try.zeroValue36
  a26 := Try.isAgg3
  z26 := Try.sizeOf3
  a27 := Try.isAgg3
  z27 := Try.sizeOf3
  t36 := Try.underlying44
  a36 := Try.isAgg44
  z36 := Try.sizeOf44 }
end Go.Proofs.Ytcdlbdicfldlaaa.Lay

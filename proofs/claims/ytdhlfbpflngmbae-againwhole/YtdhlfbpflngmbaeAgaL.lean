/-
  The library's DeleteFunc of a map at this program's own numbers: what the library's contract asks of a program, fact by fact.
-/
import Derived.Test.YtdhlfbpflngmbaeRows
import Derived.Shelf.SlMaps.DeleteFunc
namespace Go.Proofs
open Go.Shelf
def Try.delL_ren : Go.Shelf.Ren := ⟨fun | 5 => 19 | n => n, fun | 23 => 46 | 26 => 3 | 24 => 3 | 27 => 55 | 0 => 0 | 4 => 4 | n => n, fun | n => n⟩
theorem Try.delL : Go.Proofs.SlLaysDf.n5 Try.prog Try.delL_ren := {
  mixed := by kernel_rfl
  f5 := ⟨Try.f19.name, by decide, Try.func19.trans (congrArg some (by kernel_rfl))⟩
  t0 := Try.underlying0
  a0 := Try.isAgg0
  z0 := Try.sizeOf0
  v0 := Try.zeroValue0
  t4 := Try.underlying4
  a4 := Try.isAgg4
  z4 := Try.sizeOf4
  v4 := Try.zeroValue4
  t23 := Try.underlying46
  a23 := Try.isAgg46
  z23 := Try.sizeOf46
  v23 := Try.zeroValue46
  a24 := Try.isAgg3
  z24 := Try.sizeOf3
  a26 := Try.isAgg3
  z26 := Try.sizeOf3
  t27 := Try.underlying55
  a27 := Try.isAgg55
  z27 := Try.sizeOf55
  v27 := Try.zeroValue55 }
end Go.Proofs

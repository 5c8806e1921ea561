/-
  The library's DeleteFunc of a map at this program's own numbers: what the library's contract asks of a program, fact by fact.
-/
import Derived.Test.YtdhlfbpflngmbafDoorRows
import Derived.Shelf.SlMaps.DeleteFunc
namespace Go.Proofs
open Go.Shelf
def Tryd.delL_ren : Go.Shelf.Ren := ⟨fun | 5 => 16 | n => n, fun | 23 => 52 | 26 => 3 | 24 => 3 | 27 => 62 | 0 => 0 | 4 => 4 | n => n, fun | n => n⟩
theorem Tryd.delL : Go.Proofs.SlLaysDf.n5 Tryd.prog Tryd.delL_ren := {
  mixed := by kernel_rfl
  f5 := ⟨Tryd.f16.name, by decide, Tryd.func16.trans (congrArg some (by kernel_rfl))⟩
  t0 := Tryd.underlying0
  a0 := Tryd.isAgg0
  z0 := Tryd.sizeOf0
  v0 := Tryd.zeroValue0
  t4 := Tryd.underlying4
  a4 := Tryd.isAgg4
  z4 := Tryd.sizeOf4
  v4 := Tryd.zeroValue4
  t23 := Tryd.underlying52
  a23 := Tryd.isAgg52
  z23 := Tryd.sizeOf52
  v23 := Tryd.zeroValue52
  a24 := Tryd.isAgg3
  z24 := Tryd.sizeOf3
  a26 := Tryd.isAgg3
  z26 := Tryd.sizeOf3
  t27 := Tryd.underlying62
  a27 := Tryd.isAgg62
  z27 := Tryd.sizeOf62
  v27 := Tryd.zeroValue62 }
end Go.Proofs

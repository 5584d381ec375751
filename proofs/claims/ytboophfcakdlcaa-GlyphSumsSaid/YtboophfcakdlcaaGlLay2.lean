/- The library's contracts that layer 2 uses, laid over this program's numbers. -/
import Derived.Shelf.SlicesE.Clone
import Derived.Ground.SlgnProg
import Derived.Test.YtboophfcakdlcaaProg
namespace Go.Proofs
open Go.Shelf
def Try.cloneIL_ren : Go.Shelf.Ren := ⟨fun | 41 => 90 | n => n, fun | 22 => 68 | 23 => 3 | 4 => 4 | n => n, fun | n => n⟩
theorem Try.cloneIL : Go.Proofs.SlLaysE0.n41 Try.prog Try.cloneIL_ren := {
  mixed := by kernel_rfl
  f41 := ⟨Try.f90.name, by decide, Try.func90.trans (congrArg some (by kernel_rfl))⟩
  t4 := Try.underlying4
  a4 := Try.isAgg4
  z4 := Try.sizeOf4
  v4 := Try.zeroValue4
  t22 := Try.underlying68
  a22 := Try.isAgg68
  z22 := Try.sizeOf68
  v22 := Try.zeroValue68 }
end Go.Proofs

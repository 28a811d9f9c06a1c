/- Contracts of the library at this dump (strings put into a slice), laid by the kit's own command. -/
import Derived.Shelf.Spec.SlicesInsert
import Derived.Shelf.Spec.SlicesInsertGrow
import Derived.Ground.Names2Prog
import Derived.Test.YtknallpinjoppaaProg
namespace Go.Proofs
open Go.Shelf
def Try.insl_ren : Go.Shelf.Ren := ⟨fun | 22 => 22 | 29 => 27 | 30 => 28 | 36 => 30 | 17 => 31 | n => n, fun | 24 => 45 | 9 => 9 | 3 => 3 | 4 => 4 | 0 => 0 | n => n, fun | n => n⟩
theorem Try.insl : Go.Proofs.Lays2.n22 Try.prog Try.insl_ren := {
  mixed := by kernel_rfl
  f17 := Try.func31.trans (congrArg some (by kernel_rfl))
  f22 := Try.func22.trans (congrArg some (by kernel_rfl))
  f29 := Try.func27.trans (congrArg some (by kernel_rfl))
  f30 := Try.func28.trans (congrArg some (by kernel_rfl))
  f36 := Try.func30.trans (congrArg some (by kernel_rfl))
  t0 := Try.underlying0
  a0 := Try.isAgg0
  z0 := Try.sizeOf0
  v0 := Try.zeroValue0
  t3 := Try.underlying3
  a3 := Try.isAgg3
  z3 := Try.sizeOf3
  v3 := Try.zeroValue3
  t4 := Try.underlying4
  a4 := Try.isAgg4
  z4 := Try.sizeOf4
  v4 := Try.zeroValue4
  t9 := Try.underlying9
  a9 := Try.isAgg9
  z9 := Try.sizeOf9
  v9 := Try.zeroValue9
  t24 := Try.underlying45
  a24 := Try.isAgg45
  z24 := Try.sizeOf45
  v24 := Try.zeroValue45
  i9 := by kernel_rfl }
end Go.Proofs

/- Contracts of the library's slices at this translation (out of the library's shelf): Clone, Insert, Max, Min, ContainsFunc at ints. No condition. -/
import Derived.Shelf.Spec.SlicesInsertGrow
import Derived.Shelf.Spec.SlicesInsert
import Derived.Shelf.Slices.Clone
import Derived.Shelf.Slices.Turned
import Derived.Shelf.SlicesE.IndexFunc
import Derived.Test.YtggohgkjdnnndaaProg
namespace Go.Proofs.Ytggohgkjdnnndaa
open Go.Shelf

def shInsert_ren : Go.Shelf.Ren := ⟨fun | 21 => 90 | 27 => 91 | 28 => 92 | 35 => 93 | 39 => 94 | n => n, fun | 0 => 0 | 3 => 3 | 4 => 4 | 22 => 40 | n => n, fun | n => n⟩
set_option maxRecDepth 100000 in
theorem shInsert_lays : Go.Proofs.Lays2.n21 Try.prog shInsert_ren := {
  mixed := by kernel_rfl
  f21 := Try.func90.trans (congrArg some (by kernel_rfl))
  f27 := Try.func91.trans (congrArg some (by kernel_rfl))
  f28 := Try.func92.trans (congrArg some (by kernel_rfl))
  f35 := Try.func93.trans (congrArg some (by kernel_rfl))
  f39 := Try.func94.trans (congrArg some (by kernel_rfl))
  t0 := Try.underlying0
  a0 := Try.isAgg0
  z0 := Try.sizeOf0
  v0 := Try.zeroValue0
  t3 := Try.underlying3
  a3 := Try.isAgg3
  z3 := Try.sizeOf3
  v3 := Try.zeroValue3
  t4 := Try.underlying4
  a4 := Try.isAgg4
  z4 := Try.sizeOf4
  v4 := Try.zeroValue4
  t22 := Try.underlying40
  a22 := Try.isAgg40
  z22 := Try.sizeOf40
  v22 := Try.zeroValue40
  i3 := by kernel_rfl }

def shContF_ren : Go.Shelf.Ren := ⟨fun | 6 => 86 | 8 => 80 | n => n, fun | 0 => 0 | 3 => 3 | 4 => 4 | 22 => 40 | 23 => 3 | 25 => 75 | n => n, fun | n => n⟩
set_option maxRecDepth 100000 in
theorem shContF_lays : Go.Proofs.SlLaysH.n8 Try.prog shContF_ren := {
  mixed := by kernel_rfl
  f6 := ⟨Try.f86.name, by decide, Try.func86.trans (congrArg some (by kernel_rfl))⟩
  f8 := ⟨Try.f80.name, by decide, Try.func80.trans (congrArg some (by kernel_rfl))⟩
  t0 := Try.underlying0
  a0 := Try.isAgg0
  z0 := Try.sizeOf0
  v0 := Try.zeroValue0
  t3 := Try.underlying3
  a3 := Try.isAgg3
  z3 := Try.sizeOf3
  v3 := Try.zeroValue3
  t4 := Try.underlying4
  a4 := Try.isAgg4
  z4 := Try.sizeOf4
  v4 := Try.zeroValue4
  t22 := Try.underlying40
  a22 := Try.isAgg40
  z22 := Try.sizeOf40
  v22 := Try.zeroValue40
  a23 := Try.isAgg3
  z23 := Try.sizeOf3
  t25 := Try.underlying75
  a25 := Try.isAgg75
  z25 := Try.sizeOf75
  v25 := Try.zeroValue75 }
end Go.Proofs.Ytggohgkjdnnndaa

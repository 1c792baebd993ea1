/- Contracts of the library's slices at this translation (out of the library's shelf): Clone, ContainsFunc at strings. No condition. -/
import Derived.Shelf.Slices.Clone
import Derived.Shelf.SlicesE.IndexFunc
import Derived.Test.YtggohgkjdnnndaaProg
namespace Go.Proofs.Ytggohgkjdnnndaa
open Go.Shelf

def shCloneS_ren : Go.Shelf.Ren := ⟨fun | 16 => 48 | n => n, fun | 4 => 4 | 9 => 9 | 24 => 23 | n => n, fun | n => n⟩
set_option maxRecDepth 100000 in
theorem shCloneS_lays : Go.Proofs.Lays2.n16 Try.prog shCloneS_ren := {
  mixed := by kernel_rfl
  f16 := Try.func48.trans (congrArg some (by kernel_rfl))
  t4 := Try.underlying4
  a4 := Try.isAgg4
  z4 := Try.sizeOf4
  v4 := Try.zeroValue4
  t9 := Try.underlying9
  a9 := Try.isAgg9
  z9 := Try.sizeOf9
  v9 := Try.zeroValue9
  t24 := Try.underlying23
  a24 := Try.isAgg23
  z24 := Try.sizeOf23
  v24 := Try.zeroValue23
  i9 := by kernel_rfl }

def shContS_ren : Go.Shelf.Ren := ⟨fun | 6 => 77 | 8 => 60 | n => n, fun | 0 => 0 | 3 => 3 | 4 => 4 | 22 => 23 | 23 => 9 | 25 => 57 | n => n, fun | n => n⟩
set_option maxRecDepth 100000 in
theorem shContS_lays : Go.Proofs.SlLaysH.n8 Try.prog shContS_ren := {
  mixed := by kernel_rfl
  f6 := ⟨Try.f77.name, by decide, Try.func77.trans (congrArg some (by kernel_rfl))⟩
  f8 := ⟨Try.f60.name, by decide, Try.func60.trans (congrArg some (by kernel_rfl))⟩
  t0 := Try.underlying0
  a0 := Try.isAgg0
  z0 := Try.sizeOf0
  v0 := Try.zeroValue0
  t3 := Try.underlying3
  a3 := Try.isAgg3
  z3 := Try.sizeOf3
  v3 := Try.zeroValue3
  t4 := Try.underlying4
  a4 := Try.isAgg4
  z4 := Try.sizeOf4
  v4 := Try.zeroValue4
  t22 := Try.underlying23
  a22 := Try.isAgg23
  z22 := Try.sizeOf23
  v22 := Try.zeroValue23
  a23 := Try.isAgg9
  z23 := Try.sizeOf9
  t25 := Try.underlying57
  a25 := Try.isAgg57
  z25 := Try.sizeOf57
  v25 := Try.zeroValue57 }
end Go.Proofs.Ytggohgkjdnnndaa

/- strings.IndexByte's contract at this translation, for every string and byte (out of the library's shelf). No condition. -/
import Derived.Shelf.Small.Strs
import Derived.Test.YtggohgkjdnnndaaProg
namespace Go.Proofs.Ytggohgkjdnnndaa
open Go.Shelf
def shIndexByte_ren : Go.Shelf.Ren := ⟨fun | 137 => 76 | 217 => 85 | 266 => 89 | n => n, fun | 9 => 9 | 5 => 5 | 3 => 3 | n => n, fun | n => n⟩
theorem shIndexByte_lays : Go.Proofs.Lays.n137 Try.prog shIndexByte_ren := {
  mixed := by kernel_rfl
  f137 := Try.func76.trans (congrArg some (by kernel_rfl))
  f217 := Try.func85.trans (congrArg some (by kernel_rfl))
  f266 := Try.func89.trans (congrArg some (by kernel_rfl))
  t3 := Try.underlying3
  a3 := Try.isAgg3
  z3 := Try.sizeOf3
  v3 := Try.zeroValue3
  t5 := Try.underlying5
  a5 := Try.isAgg5
  z5 := Try.sizeOf5
  v5 := Try.zeroValue5
  t9 := Try.underlying9
  a9 := Try.isAgg9
  z9 := Try.sizeOf9
  v9 := Try.zeroValue9 }
open Go.RowKit in
theorem strings_IndexByte (s : ByteArray) (c : Int) (w : World) :
    Calls Try.prog 76 #[.string s, .int .u8 c] w fun e w' => e = .returned (.int .i64 (Lib.indexByte s.data.toList c.toNat.toUInt8)) ∧ w' = w := Any.strings_IndexByte shIndexByte_lays s c w
end Go.Proofs.Ytggohgkjdnnndaa

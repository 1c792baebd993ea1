/- strings.Contains' contract at this translation, for every two strings (out of the library's shelf). No condition. -/
import Derived.Shelf.Strings.Search3
import Derived.Shelf.Vars
import Derived.Test.YtaghjddndgpljaaProg
namespace Go.Proofs.Ytaghjddndgpljaa
open Go.Shelf
def shContains_ren : Go.Shelf.Ren := ⟨fun | 143 => 165 | 144 => 146 | 217 => 155 | 219 => 176 | 224 => 183 | 225 => 182 | 266 => 174 | 267 => 184 | 314 => 194 | n => n, fun | 3 => 3 | 4 => 4 | 5 => 5 | 9 => 9 | 46 => 172 | 51 => 174 | 146 => 175 | n => n, fun | 1 => 0 | n => n⟩
set_option maxRecDepth 100000 in
theorem shContains_lays : Go.Proofs.Lays.n144 Try.prog shContains_ren := {
  mixed := by kernel_rfl
  f143 := Try.func165.trans (congrArg some (by kernel_rfl))
  f144 := Try.func146.trans (congrArg some (by kernel_rfl))
  f217 := Try.func155.trans (congrArg some (by kernel_rfl))
  f219 := Try.func176.trans (congrArg some (by kernel_rfl))
  f224 := Try.func183.trans (congrArg some (by kernel_rfl))
  f225 := Try.func182.trans (congrArg some (by kernel_rfl))
  f266 := Try.func174.trans (congrArg some (by kernel_rfl))
  f267 := Try.func184.trans (congrArg some (by kernel_rfl))
  f314 := Try.func194.trans (congrArg some (by kernel_rfl))
  t3 := Try.underlying3
  a3 := Try.isAgg3
  z3 := Try.sizeOf3
  v3 := Try.zeroValue3
  t4 := Try.underlying4
  a4 := Try.isAgg4
  z4 := Try.sizeOf4
  v4 := Try.zeroValue4
  t5 := Try.underlying5
  a5 := Try.isAgg5
  z5 := Try.sizeOf5
  v5 := Try.zeroValue5
  t9 := Try.underlying9
  a9 := Try.isAgg9
  z9 := Try.sizeOf9
  v9 := Try.zeroValue9
  t46 := Try.underlying172
  a46 := Try.isAgg172
  z46 := Try.sizeOf172
  v46 := Try.zeroValue172
  t51 := Try.underlying174
  a51 := Try.isAgg174
  z51 := Try.sizeOf174
  v51 := Try.zeroValue174
  t146 := Try.underlying175
  a146 := Try.isAgg175
  z146 := Try.sizeOf175
  v146 := Try.zeroValue175
  g1 := by kernel_rfl }
open Go.RowKit in
theorem strings_Contains (s sub : ByteArray) (m : Int) (w : World) (hs : s.size < 4294967281) (hm : w.cell? ⟨0, 0, none⟩ = some (.int .i64 m)) :
    Calls Try.prog 146 #[.string s, .string sub] w fun e w' => e = .returned (.bool (Lib.contains s.data.toList sub.data.toList)) ∧ w' = w := Any.strings_Contains shContains_lays s sub m w hs hm
theorem maxLen_shaped (w : World) (h : w.ShapedOpen Try.prog) : ∃ m, w.cell? ⟨0, 0, none⟩ = some (.int .i64 m) :=
  Go.Proofs.cell_of_shapedOpen_int (zero := #[.int .i64 0]) (t := 3) h (of_decide_eq_true (by kernel_rfl)) (by kernel_rfl) rfl (by kernel_rfl) (by kernel_rfl) Try.underlying3
end Go.Proofs.Ytaghjddndgpljaa

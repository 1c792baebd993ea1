/- The library's longest length lies in a cell of every world that the row lets in. No condition. -/
import Derived.Test.YtlbblfbiiceofaaKL
import Derived.HandedShaped
namespace Go.Proofs.Ytlbblfbiiceofaa
open Go.RowKit

theorem maxLen_shaped (w : World) (h : w.ShapedOpen Try.prog) : ∃ m, w.cell? ⟨0, 0, none⟩ = some (.int .i64 m) :=
  Go.Proofs.cell_of_shapedOpen_int (zero := #[.int .i64 0]) (t := 3) h (of_decide_eq_true (by kernel_rfl)) (by kernel_rfl) rfl (by kernel_rfl) (by kernel_rfl) Try.underlying3
end Go.Proofs.Ytlbblfbiiceofaa

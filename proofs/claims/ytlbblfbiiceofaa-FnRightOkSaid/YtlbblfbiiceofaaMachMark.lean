/- The laws' numbering of machines. No condition. -/
import Derived.Test.YtlbblfbiiceofaaHeldC
import Derived.Test.YtlbblfbiiceofaaMach
namespace Go.Proofs.Ytlbblfbiiceofaa
open Go.RowKit

theorem below_grown {B : Nat} {w w' : World} {row : Option Nat} (hg : w.grownBy w' row) (hB : B ≤ w.heap.size) (hr : ∀ k, row = some k → B ≤ k) : Below B w w' := (Below.refl B w).grown hg hB hr

end Go.Proofs.Ytlbblfbiiceofaa

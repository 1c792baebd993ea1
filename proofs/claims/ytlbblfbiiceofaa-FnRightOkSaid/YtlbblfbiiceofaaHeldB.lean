/- laws.eqBoolS: whether two lists of truths are the same. No condition. -/
import Derived.Test.YtlbblfbiiceofaaHeld
import Derived.Test.YtlbblfbiiceofaaReads
namespace Go.Proofs.Ytlbblfbiiceofaa
open Go.RowKit

end Go.Proofs.Ytlbblfbiiceofaa

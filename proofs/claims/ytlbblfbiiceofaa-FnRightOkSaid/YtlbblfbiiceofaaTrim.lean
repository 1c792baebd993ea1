/- impl.trimmedOf: its two functions and its walk. No condition. -/
import Derived.Test.YtlbblfbiiceofaaImplLive
import Derived.Test.YtlbblfbiiceofaaFromWalk
import Derived.Deep.QuietTactic
import Derived.BigQuiet
namespace Go.Proofs.Ytlbblfbiiceofaa
open Go.RowKit

end Go.Proofs.Ytlbblfbiiceofaa

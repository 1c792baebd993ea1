/- impl.MachineOk answers whether it is a machine. No condition. -/
import Derived.Test.YtlbblfbiiceofaaMachOk
namespace Go.Proofs.Ytlbblfbiiceofaa
open Go.RowKit

end Go.Proofs.Ytlbblfbiiceofaa

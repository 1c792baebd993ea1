/- laws.eqBoolS: whether two lists of truths are the same. No condition. -/
import Derived.Test.YtjdeahdngpccpaaHeld
import Derived.Test.YtjdeahdngpccpaaReads
namespace Go.Proofs.Ytjdeahdngpccpaa
open Go.RowKit

end Go.Proofs.Ytjdeahdngpccpaa

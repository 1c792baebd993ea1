/- laws.eqBoolS: whether two lists of truths are the same. No condition. -/
import Derived.Test.YthihcnlbohhemaaHeld
import Derived.Test.YthihcnlbohhemaaReads
namespace Go.Proofs.Ythihcnlbohhemaa
open Go.RowKit

end Go.Proofs.Ythihcnlbohhemaa

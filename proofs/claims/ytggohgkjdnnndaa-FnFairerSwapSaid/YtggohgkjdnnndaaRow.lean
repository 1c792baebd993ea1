/- How a slice of integers that came in lies in memory: what the walks are told of it. No condition. -/
import Derived.WalkKit
namespace Go.Proofs.Ytggohgkjdnnndaa
/-- nil; or a row of 'cap' cells, the numbers 'zs' (the first 'len' are the elements, the rest spare room), each of which fits its kind -/
def IsRow (k : IntKind) (w : World) (a : Option Addr) (len cap : Nat) (zs : List Int) : Prop :=
  (a = none ∧ len = 0 ∧ cap = 0 ∧ zs = []) ∨
  ∃ x, a = some x ∧ len ≤ cap ∧ cap ≤ maxLen ∧ zs.length = cap ∧ (∀ i, i < zs.length → w.cell? (x.add i) = some (.int k (zs.getD i 0))) ∧ ∀ n ∈ zs, (Lit.int k n).wf = true
end Go.Proofs.Ytggohgkjdnnndaa

/- impl.trimmedOf and impl.TrimmedMachine. No condition. -/
import Derived.Test.YtlbblfbiiceofaaTrim
import Derived.Test.YtlbblfbiiceofaaRounds
import Derived.Test.YtlbblfbiiceofaaImplMachOk
namespace Go.Proofs.Ytlbblfbiiceofaa
open Go.RowKit

/-- the machine without the states that are left out -/
def tm (m : M) : M := trimM m (lrounds m m.ends.length)

theorem MachNew.reads {m : M} {w w' : World} {e : Ending} (h : MachNew m w e w') : ∃ nv ev, e = .returned (.agg #[.int .i64 m.st, nv, ev]) ∧ IsInts w' nv m.next ∧ IsBools w' ev m.ends ∧ Below w.heap.size w w' := by
  obtain ⟨a1, a2, c1, c2, rfl, hA, hb⟩ := h
  exact ⟨_, _, rfl, IsInts.of_owns hA.head, IsBools.of_owns hA.tail.head, hb⟩

end Go.Proofs.Ytlbblfbiiceofaa

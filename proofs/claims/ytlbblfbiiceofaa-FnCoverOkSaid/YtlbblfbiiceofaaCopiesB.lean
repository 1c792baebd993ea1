/- The laws' copies of slices of bools: fresh, and equal. -/
import Derived.Test.YtlbblfbiiceofaaCopies
namespace Go.Proofs.Ytlbblfbiiceofaa
open Go.RowKit

theorem infoBoolC : (Try.prog.info? 4).map (fun i => (i.zero, i.size, i.bytes)) = some (some (.bool false), 1, 1) := by kernel_rfl

/-- a list of which the first k are copied -/
def cpToB (xs : List Bool) (k : Nat) : List Bool := xs.take k ++ List.replicate (xs.length - k) false
theorem cpToB_length (xs : List Bool) (k : Nat) (h : k ≤ xs.length) : (cpToB xs k).length = xs.length := by
  rw [cpToB, List.length_append, List.length_take, List.length_replicate]; omega
theorem cpToB_zero (xs : List Bool) : cpToB xs 0 = List.replicate xs.length false := by simp [cpToB]
theorem cpToB_all (xs : List Bool) : cpToB xs xs.length = xs := by simp [cpToB]
theorem cpToB_step (xs : List Bool) (k : Nat) (h : k < xs.length) : (cpToB xs k).set k xs[k] = cpToB xs (k + 1) := by
  have e : xs.length - k = (xs.length - (k + 1)) + 1 := by omega
  have hl : (xs.take k).length = k := by rw [List.length_take]; omega
  rw [cpToB, cpToB, List.set_append_right _ _ (by rw [hl]; exact Nat.le_refl _), hl, Nat.sub_self, e, List.replicate_succ, List.set_cons_zero, List.take_succ_eq_append_getElem h, List.append_assoc]
  rfl

/-- a fresh slice that holds a list of numbers -/
def CopyPostB (xs : List Bool) (w : World) (e : Ending) (w' : World) : Prop :=
  ∃ v, e = .returned v ∧ w'.ownsRow w.heap.size 4 1 v xs.length (xs.map (Value.bool)) ∧ Below w.heap.size w w'

end Go.Proofs.Ytlbblfbiiceofaa

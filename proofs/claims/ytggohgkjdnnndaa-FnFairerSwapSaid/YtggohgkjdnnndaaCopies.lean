/- The laws' copies of slices of ints and of bools: fresh, and equal. -/
import Derived.Test.YtggohgkjdnnndaaReads
import Derived.Test.YtggohgkjdnnndaaWords
import Derived.WalkSmall
namespace Go.Proofs.Ytggohgkjdnnndaa
open Go.RowKit

theorem infoIntC : (Try.prog.info? 3).map (fun i => (i.zero, i.size, i.bytes)) = some (some (.int .i64 0), 1, 8) := by kernel_rfl

/-- a list of which the first k are copied -/
def cpTo (xs : List Int) (k : Nat) : List Int := xs.take k ++ List.replicate (xs.length - k) 0
theorem cpTo_length (xs : List Int) (k : Nat) (h : k ≤ xs.length) : (cpTo xs k).length = xs.length := by
  rw [cpTo, List.length_append, List.length_take, List.length_replicate]; omega
theorem cpTo_zero (xs : List Int) : cpTo xs 0 = List.replicate xs.length 0 := by simp [cpTo]
theorem cpTo_all (xs : List Int) : cpTo xs xs.length = xs := by simp [cpTo]
theorem cpTo_step (xs : List Int) (k : Nat) (h : k < xs.length) : (cpTo xs k).set k xs[k] = cpTo xs (k + 1) := by
  have e : xs.length - k = (xs.length - (k + 1)) + 1 := by omega
  have hl : (xs.take k).length = k := by rw [List.length_take]; omega
  rw [cpTo, cpTo, List.set_append_right _ _ (by rw [hl]; exact Nat.le_refl _), hl, Nat.sub_self, e, List.replicate_succ, List.set_cons_zero, List.take_succ_eq_append_getElem h, List.append_assoc]
  rfl

/-- a fresh slice that holds a list of numbers -/
def CopyPost (xs : List Int) (w : World) (e : Ending) (w' : World) : Prop :=
  ∃ v, e = .returned v ∧ w'.ownsRow w.heap.size 3 1 v xs.length (xs.map (Value.int .i64)) ∧ Below w.heap.size w w'

end Go.Proofs.Ytggohgkjdnnndaa

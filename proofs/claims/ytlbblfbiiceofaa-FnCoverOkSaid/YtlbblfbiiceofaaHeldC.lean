/- The laws' numbering of slices of bools and of machines. No condition. -/
import Derived.Test.YtlbblfbiiceofaaHeldB
import Derived.Test.YtlbblfbiiceofaaApart
namespace Go.Proofs.Ytlbblfbiiceofaa
open Go.RowKit

/-- the bools that are laid -/
def seqB (m : Int) (n : Nat) : List Bool := (List.range n).map (fun i : Nat => ((m + (i : Int)) % 3 == 0))
theorem seqB_length (m : Int) (n : Nat) : (seqB m n).length = n := by simp [seqB]
theorem seqB_succ (m : Int) (n : Nat) : seqB m (n + 1) = seqB m n ++ [((m + (n : Int)) % 3 == 0)] := by simp [seqB, List.range_succ]
theorem seqB_get (m : Int) (n k : Nat) (h : k < (seqB m n).length) : (seqB m n)[k] = ((m + (k : Int)) % 3 == 0) := by simp [seqB]
def markToB (xs : List Bool) (m : Int) (k : Nat) : List Bool := seqB m k ++ xs.drop k
theorem markToB_zero (xs : List Bool) (m : Int) : markToB xs m 0 = xs := by simp [markToB, seqB]
theorem markToB_all (xs : List Bool) (m : Int) : markToB xs m xs.length = seqB m xs.length := by simp [markToB]
theorem markToB_length (xs : List Bool) (m : Int) (k : Nat) (h : k ≤ xs.length) : (markToB xs m k).length = xs.length := by
  rw [markToB, List.length_append, seqB_length, List.length_drop]; omega
theorem markToB_step (xs : List Bool) (m : Int) (k : Nat) (h : k < xs.length) : (markToB xs m k).set k ((m + (k : Int)) % 3 == 0) = markToB xs m (k + 1) := by
  have e : xs.drop k = xs[k] :: xs.drop (k + 1) := List.drop_eq_getElem_cons h
  rw [markToB, markToB, seqB_succ, List.set_append_right _ _ (by rw [seqB_length]; exact Nat.le_refl _), seqB_length, Nat.sub_self, e, List.set_cons_zero, List.append_assoc]
  rfl
def MarkPostB (base : Nat) (v : Value) (n : Nat) (m : Int) (w : World) (e : Ending) (w' : World) : Prop :=
  e = .returned (.int .i64 (m + n)) ∧ w'.ownsRow base 4 1 v n ((seqB m n).map Value.bool) ∧ w.grownBy w' v.ownBlock

end Go.Proofs.Ytlbblfbiiceofaa

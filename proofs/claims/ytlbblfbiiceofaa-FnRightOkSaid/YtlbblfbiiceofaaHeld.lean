/- The helpers of the exact laws on slices of ints. -/
import Derived.Test.YtlbblfbiiceofaaInts
import Derived.Test.YtlbblfbiiceofaaWords
import Derived.Deep.QuietTactic
import Derived.BigQuiet
import Derived.WalkSmall
namespace Go.Proofs.Ytlbblfbiiceofaa
open Go.RowKit

/-- numbers one after the other -/
def seqL (m : Int) (n : Nat) : List Int := (List.range n).map (fun i : Nat => m + (i : Int))
theorem seqL_length (m : Int) (n : Nat) : (seqL m n).length = n := by simp [seqL]
theorem seqL_succ (m : Int) (n : Nat) : seqL m (n + 1) = seqL m n ++ [m + n] := by simp [seqL, List.range_succ]
theorem seqL_get (m : Int) (n k : Nat) (h : k < (seqL m n).length) : (seqL m n)[k] = m + k := by simp [seqL]
/-- a list of which the first k are numbered -/
def markTo (xs : List Int) (m : Int) (k : Nat) : List Int := seqL m k ++ xs.drop k
theorem markTo_zero (xs : List Int) (m : Int) : markTo xs m 0 = xs := by simp [markTo, seqL]
theorem markTo_all (xs : List Int) (m : Int) : markTo xs m xs.length = seqL m xs.length := by simp [markTo]
theorem markTo_length (xs : List Int) (m : Int) (k : Nat) (h : k ≤ xs.length) : (markTo xs m k).length = xs.length := by
  rw [markTo, List.length_append, seqL_length, List.length_drop]; omega
theorem markTo_step (xs : List Int) (m : Int) (k : Nat) (h : k < xs.length) : (markTo xs m k).set k (m + k) = markTo xs m (k + 1) := by
  have e : xs.drop k = xs[k] :: xs.drop (k + 1) := List.drop_eq_getElem_cons h
  rw [markTo, markTo, seqL_succ, List.set_append_right _ _ (by rw [seqL_length]; exact Nat.le_refl _), seqL_length, Nat.sub_self, e, List.set_cons_zero, List.append_assoc]
  rfl
theorem grown_trans {a b c : World} {row : Option Nat} (h : a.grownBy b row) (k : b.grownBy c row) : a.grownBy c row :=
  ⟨k.os.trans h.os, k.tape.trans h.tape, k.output.trans h.output, Nat.le_trans h.size k.size, fun i hi hr => (k.block i (Nat.lt_of_lt_of_le hi h.size) hr).trans (h.block i hi hr)⟩
theorem grown_refl (a : World) (row : Option Nat) : a.grownBy a row := ⟨rfl, rfl, rfl, Nat.le_refl _, fun _ _ _ => rfl⟩

/-- what numbering a slice leaves -/
def MarkPost (base : Nat) (v : Value) (n : Nat) (m : Int) (w : World) (e : Ending) (w' : World) : Prop :=
  e = .returned (.int .i64 (m + n)) ∧ w'.ownsRow base 3 1 v n ((seqL m n).map (Value.int .i64)) ∧ w.grownBy w' v.ownBlock

end Go.Proofs.Ytlbblfbiiceofaa

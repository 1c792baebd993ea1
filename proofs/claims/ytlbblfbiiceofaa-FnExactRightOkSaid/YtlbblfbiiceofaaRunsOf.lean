/- impl.RunsOf: what it returns, for every text. -/
import Derived.Test.YtlbblfbiiceofaaLongest
namespace Go.Proofs.Ytlbblfbiiceofaa
open Go.RowKit Go.Shelf
attribute [local go_sem] Oper.semAt_some

theorem infoInt : (Try.prog.info? 3).map (fun i => (i.zero, i.size, i.bytes)) = some (some (.int .i64 0), 1, 8) := by kernel_rfl
theorem runsOf_yes {s : ByteArray} (h : wordOk s = true) : runsOf s = (runsL s.data.toList).map (fun p => (p.2 : Int)) := by simp [runsOf, h]
theorem runsOf_no {s : ByteArray} (h : wordOk s = false) : runsOf s = [] := by simp [runsOf, h]
/-- the numbers of runs -/
def nums (xs : List (UInt8 × Nat)) : List Int := xs.map (fun p => (p.2 : Int))
theorem nums_snoc (xs : List (UInt8 × Nat)) (p : UInt8 × Nat) : nums (xs ++ [p]) = nums xs ++ [(p.2 : Int)] := by simp [nums]
theorem nums_length (xs : List (UInt8 × Nat)) : (nums xs).length = xs.length := by simp [nums]

/-- a slice of the call's own, that holds a list of numbers -/
def IntsPost (xs : List Int) (w : World) (e : Ending) (w' : World) : Prop :=
  ∃ v, e = .returned v ∧ w'.ownsRow w.heap.size 3 1 v xs.length (xs.map (Value.int .i64)) ∧ Below w.heap.size w w'

end Go.Proofs.Ytlbblfbiiceofaa

/-
  No cell of these rows narrows 'for every input' (looked for: loops, veiled, ifaces, maps, wideKeys, modest, calm, conditions, laid).
  DERIVED. THE GIVEN ROWS OF THIS SEAT. 16 by the template 'for every input the law returns true; each argument reads behind the call as it read before'; 0 by the template 'total and deterministic' (their statements: YthdpeholeelhdaaTotals.lean).
  GIVEN WITH THE SEED: the statements are not yours to turn. If you find one false, say at which input.
  Laid BY PROGRAM, IN A SANDBOX (cutbox-rows.mjs): the forced cells as the released guide's own fill.sh prints them over the translation 0c8e8a3772cb8dc5… (all of the seat's roots in one cut). By AI agents, Wed Nov 11 2026. No macro, syntax, notation, axiom, sorry.
-/
import Derived.Test.YthdpeholeelhdaaChecked
import GoSem.Claim
import GoSem.ClaimJoined
import GoSem.ClaimMapViews
import Derived.JoinedTies
import Derived.KernelRfl
namespace Go.Proofs.Ythdpeholeelhdaa
/- THE CELL 'sum', in the pinned program and in every row, IS THE sha256 OF THE DUMP (.gsa) THAT YthdpeholeelhdaaProg.lean LOADS. Nothing in Lean hashes anything: it is a label: what it is worth is what the hold of that sum in a sandbox is worth. -/
noncomputable def Try.pinned : Pinned := { name := "ythdpeholeelhdaa", sum := "0c8e8a3772cb8dc5997ebdf13cbc7d5bc7fe642a11965b8b665b552bc824b356", checked := Try.checked }
namespace Rows
def none {H : Type} : Left H := { results := [], args := [] }

/-- 'laws.FnLoadsOk': WHATEVER THE INPUT: true; the input reads as it did. -/
def fnLoadsOkSpec : ChangeSpec := { name := "fnLoadsOk", fn := fun _ => fun
  | [d] => { results := [.lit (.bool true)], args := [d] }
  | _ => none }
def fnLoadsOkRow : OpenClaim := { program := "ythdpeholeelhdaa", sum := "0c8e8a3772cb8dc5997ebdf13cbc7d5bc7fe642a11965b8b665b552bc824b356", func := "loop.example/dutyrosters/laws.FnLoadsOk", spec := "fnLoadsOk", inPlace := ["internal/bytealg.IndexByteString"], unfollowed := true, recurses := true, apart := false }
def FnLoadsOkSaid : Prop := fnLoadsOkRow.holds Try.pinned (OpenSpec.ofChange fnLoadsOkSpec)

/-- ITS FALSE NEIGHBOUR: 'it returns false'. Refute it at one input. -/
def fnLoadsOkWrong : ChangeSpec := { name := "fnLoadsOk", fn := fun _ => fun
  | [d] => { results := [.lit (.bool false)], args := [d] }
  | _ => none }
def FnLoadsOkWrongFalsely : Prop := fnLoadsOkRow.holds Try.pinned (OpenSpec.ofChange fnLoadsOkWrong)

/-- 'laws.FnSortedLoads': WHATEVER THE INPUT: true; the input reads as it did. -/
def fnSortedLoadsSpec : ChangeSpec := { name := "fnSortedLoads", fn := fun _ => fun
  | [d] => { results := [.lit (.bool true)], args := [d] }
  | _ => none }
def fnSortedLoadsRow : OpenClaim := { program := "ythdpeholeelhdaa", sum := "0c8e8a3772cb8dc5997ebdf13cbc7d5bc7fe642a11965b8b665b552bc824b356", func := "loop.example/dutyrosters/laws.FnSortedLoads", spec := "fnSortedLoads", inPlace := ["slices.overlaps[int]", "internal/bytealg.IndexByteString"], unfollowed := true, recurses := true, apart := false }
def FnSortedLoadsSaid : Prop := fnSortedLoadsRow.holds Try.pinned (OpenSpec.ofChange fnSortedLoadsSpec)

/-- ITS FALSE NEIGHBOUR: 'it returns false'. Refute it at one input. -/
def fnSortedLoadsWrong : ChangeSpec := { name := "fnSortedLoads", fn := fun _ => fun
  | [d] => { results := [.lit (.bool false)], args := [d] }
  | _ => none }
def FnSortedLoadsWrongFalsely : Prop := fnSortedLoadsRow.holds Try.pinned (OpenSpec.ofChange fnSortedLoadsWrong)

/-- 'laws.FnSpreadOf': WHATEVER THE INPUT: true; the input reads as it did. -/
def fnSpreadOfSpec : ChangeSpec := { name := "fnSpreadOf", fn := fun _ => fun
  | [d] => { results := [.lit (.bool true)], args := [d] }
  | _ => none }
def fnSpreadOfRow : OpenClaim := { program := "ythdpeholeelhdaa", sum := "0c8e8a3772cb8dc5997ebdf13cbc7d5bc7fe642a11965b8b665b552bc824b356", func := "loop.example/dutyrosters/laws.FnSpreadOf", spec := "fnSpreadOf", inPlace := ["internal/bytealg.IndexByteString", "slices.overlaps[int]"], unfollowed := true, recurses := true, apart := false }
def FnSpreadOfSaid : Prop := fnSpreadOfRow.holds Try.pinned (OpenSpec.ofChange fnSpreadOfSpec)

/-- ITS FALSE NEIGHBOUR: 'it returns false'. Refute it at one input. -/
def fnSpreadOfWrong : ChangeSpec := { name := "fnSpreadOf", fn := fun _ => fun
  | [d] => { results := [.lit (.bool false)], args := [d] }
  | _ => none }
def FnSpreadOfWrongFalsely : Prop := fnSpreadOfRow.holds Try.pinned (OpenSpec.ofChange fnSpreadOfWrong)

/-- 'laws.FnSquaresOf': WHATEVER THE INPUT: true; the input reads as it did. -/
def fnSquaresOfSpec : ChangeSpec := { name := "fnSquaresOf", fn := fun _ => fun
  | [d] => { results := [.lit (.bool true)], args := [d] }
  | _ => none }
def fnSquaresOfRow : OpenClaim := { program := "ythdpeholeelhdaa", sum := "0c8e8a3772cb8dc5997ebdf13cbc7d5bc7fe642a11965b8b665b552bc824b356", func := "loop.example/dutyrosters/laws.FnSquaresOf", spec := "fnSquaresOf", inPlace := ["internal/bytealg.IndexByteString"], unfollowed := true, recurses := true, apart := false }
def FnSquaresOfSaid : Prop := fnSquaresOfRow.holds Try.pinned (OpenSpec.ofChange fnSquaresOfSpec)

/-- ITS FALSE NEIGHBOUR: 'it returns false'. Refute it at one input. -/
def fnSquaresOfWrong : ChangeSpec := { name := "fnSquaresOf", fn := fun _ => fun
  | [d] => { results := [.lit (.bool false)], args := [d] }
  | _ => none }
def FnSquaresOfWrongFalsely : Prop := fnSquaresOfRow.holds Try.pinned (OpenSpec.ofChange fnSquaresOfWrong)

/-- 'laws.FnFairerOk': WHATEVER THE INPUT: true; the input reads as it did. -/
def fnFairerOkSpec : ChangeSpec := { name := "fnFairerOk", fn := fun _ => fun
  | [d] => { results := [.lit (.bool true)], args := [d] }
  | _ => none }
def fnFairerOkRow : OpenClaim := { program := "ythdpeholeelhdaa", sum := "0c8e8a3772cb8dc5997ebdf13cbc7d5bc7fe642a11965b8b665b552bc824b356", func := "loop.example/dutyrosters/laws.FnFairerOk", spec := "fnFairerOk", inPlace := ["slices.overlaps[int]", "internal/bytealg.IndexByteString"], unfollowed := true, recurses := true, apart := false }
def FnFairerOkSaid : Prop := fnFairerOkRow.holds Try.pinned (OpenSpec.ofChange fnFairerOkSpec)

/-- ITS FALSE NEIGHBOUR: 'it returns false'. Refute it at one input. -/
def fnFairerOkWrong : ChangeSpec := { name := "fnFairerOk", fn := fun _ => fun
  | [d] => { results := [.lit (.bool false)], args := [d] }
  | _ => none }
def FnFairerOkWrongFalsely : Prop := fnFairerOkRow.holds Try.pinned (OpenSpec.ofChange fnFairerOkWrong)

/-- 'laws.FnGivenOn': WHATEVER THE INPUT: true; the input reads as it did. -/
def fnGivenOnSpec : ChangeSpec := { name := "fnGivenOn", fn := fun _ => fun
  | [d] => { results := [.lit (.bool true)], args := [d] }
  | _ => none }
def fnGivenOnRow : OpenClaim := { program := "ythdpeholeelhdaa", sum := "0c8e8a3772cb8dc5997ebdf13cbc7d5bc7fe642a11965b8b665b552bc824b356", func := "loop.example/dutyrosters/laws.FnGivenOn", spec := "fnGivenOn", inPlace := ["internal/bytealg.IndexByteString", "slices.overlaps[int]"], unfollowed := true, recurses := true, apart := false }
def FnGivenOnSaid : Prop := fnGivenOnRow.holds Try.pinned (OpenSpec.ofChange fnGivenOnSpec)

/-- ITS FALSE NEIGHBOUR: 'it returns false'. Refute it at one input. -/
def fnGivenOnWrong : ChangeSpec := { name := "fnGivenOn", fn := fun _ => fun
  | [d] => { results := [.lit (.bool false)], args := [d] }
  | _ => none }
def FnGivenOnWrongFalsely : Prop := fnGivenOnRow.holds Try.pinned (OpenSpec.ofChange fnGivenOnWrong)

/-- 'laws.FnFairestOf': WHATEVER THE INPUT: true; the input reads as it did. -/
def fnFairestOfSpec : ChangeSpec := { name := "fnFairestOf", fn := fun _ => fun
  | [d1, d2] => { results := [.lit (.bool true)], args := [d1, d2] }
  | _ => none }
def fnFairestOfRow : OpenClaim := { program := "ythdpeholeelhdaa", sum := "0c8e8a3772cb8dc5997ebdf13cbc7d5bc7fe642a11965b8b665b552bc824b356", func := "loop.example/dutyrosters/laws.FnFairestOf", spec := "fnFairestOf", inPlace := ["internal/bytealg.IndexByteString", "slices.overlaps[int]"], unfollowed := true, recurses := true, apart := false }
def FnFairestOfSaid : Prop := fnFairestOfRow.holds Try.pinned (OpenSpec.ofChange fnFairestOfSpec)

/-- ITS FALSE NEIGHBOUR: 'it returns false'. Refute it at one input. -/
def fnFairestOfWrong : ChangeSpec := { name := "fnFairestOf", fn := fun _ => fun
  | [d1, d2] => { results := [.lit (.bool false)], args := [d1, d2] }
  | _ => none }
def FnFairestOfWrongFalsely : Prop := fnFairestOfRow.holds Try.pinned (OpenSpec.ofChange fnFairestOfWrong)

/-- 'laws.FnStepsToFair': WHATEVER THE INPUT: true; the input reads as it did. -/
def fnStepsToFairSpec : ChangeSpec := { name := "fnStepsToFair", fn := fun _ => fun
  | [d] => { results := [.lit (.bool true)], args := [d] }
  | _ => none }
def fnStepsToFairRow : OpenClaim := { program := "ythdpeholeelhdaa", sum := "0c8e8a3772cb8dc5997ebdf13cbc7d5bc7fe642a11965b8b665b552bc824b356", func := "loop.example/dutyrosters/laws.FnStepsToFair", spec := "fnStepsToFair", inPlace := ["slices.overlaps[int]", "internal/bytealg.IndexByteString"], unfollowed := true, recurses := true, apart := false }
def FnStepsToFairSaid : Prop := fnStepsToFairRow.holds Try.pinned (OpenSpec.ofChange fnStepsToFairSpec)

/-- ITS FALSE NEIGHBOUR: 'it returns false'. Refute it at one input. -/
def fnStepsToFairWrong : ChangeSpec := { name := "fnStepsToFair", fn := fun _ => fun
  | [d] => { results := [.lit (.bool false)], args := [d] }
  | _ => none }
def FnStepsToFairWrongFalsely : Prop := fnStepsToFairRow.holds Try.pinned (OpenSpec.ofChange fnStepsToFairWrong)

/-- 'laws.FnExactLoadsOk': WHATEVER THE INPUT: true; the input reads as it did. -/
def fnExactLoadsOkSpec : ChangeSpec := { name := "fnExactLoadsOk", fn := fun _ => fun
  | [d] => { results := [.lit (.bool true)], args := [d] }
  | _ => none }
def fnExactLoadsOkRow : OpenClaim := { program := "ythdpeholeelhdaa", sum := "0c8e8a3772cb8dc5997ebdf13cbc7d5bc7fe642a11965b8b665b552bc824b356", func := "loop.example/dutyrosters/laws.FnExactLoadsOk", spec := "fnExactLoadsOk", unfollowed := true, recurses := true, apart := false }
def FnExactLoadsOkSaid : Prop := fnExactLoadsOkRow.holds Try.pinned (OpenSpec.ofChange fnExactLoadsOkSpec)

/-- ITS FALSE NEIGHBOUR: 'it returns false'. Refute it at one input. -/
def fnExactLoadsOkWrong : ChangeSpec := { name := "fnExactLoadsOk", fn := fun _ => fun
  | [d] => { results := [.lit (.bool false)], args := [d] }
  | _ => none }
def FnExactLoadsOkWrongFalsely : Prop := fnExactLoadsOkRow.holds Try.pinned (OpenSpec.ofChange fnExactLoadsOkWrong)

/-- 'laws.FnExactSortedLoads': WHATEVER THE INPUT: true; the input reads as it did. -/
def fnExactSortedLoadsSpec : ChangeSpec := { name := "fnExactSortedLoads", fn := fun _ => fun
  | [d] => { results := [.lit (.bool true)], args := [d] }
  | _ => none }
def fnExactSortedLoadsRow : OpenClaim := { program := "ythdpeholeelhdaa", sum := "0c8e8a3772cb8dc5997ebdf13cbc7d5bc7fe642a11965b8b665b552bc824b356", func := "loop.example/dutyrosters/laws.FnExactSortedLoads", spec := "fnExactSortedLoads", inPlace := ["slices.overlaps[int]"], unfollowed := true, recurses := true, apart := false }
def FnExactSortedLoadsSaid : Prop := fnExactSortedLoadsRow.holds Try.pinned (OpenSpec.ofChange fnExactSortedLoadsSpec)

/-- ITS FALSE NEIGHBOUR: 'it returns false'. Refute it at one input. -/
def fnExactSortedLoadsWrong : ChangeSpec := { name := "fnExactSortedLoads", fn := fun _ => fun
  | [d] => { results := [.lit (.bool false)], args := [d] }
  | _ => none }
def FnExactSortedLoadsWrongFalsely : Prop := fnExactSortedLoadsRow.holds Try.pinned (OpenSpec.ofChange fnExactSortedLoadsWrong)

/-- 'laws.FnExactSpreadOf': WHATEVER THE INPUT: true; the input reads as it did. -/
def fnExactSpreadOfSpec : ChangeSpec := { name := "fnExactSpreadOf", fn := fun _ => fun
  | [d] => { results := [.lit (.bool true)], args := [d] }
  | _ => none }
def fnExactSpreadOfRow : OpenClaim := { program := "ythdpeholeelhdaa", sum := "0c8e8a3772cb8dc5997ebdf13cbc7d5bc7fe642a11965b8b665b552bc824b356", func := "loop.example/dutyrosters/laws.FnExactSpreadOf", spec := "fnExactSpreadOf", unfollowed := true, recurses := true, apart := false }
def FnExactSpreadOfSaid : Prop := fnExactSpreadOfRow.holds Try.pinned (OpenSpec.ofChange fnExactSpreadOfSpec)

/-- ITS FALSE NEIGHBOUR: 'it returns false'. Refute it at one input. -/
def fnExactSpreadOfWrong : ChangeSpec := { name := "fnExactSpreadOf", fn := fun _ => fun
  | [d] => { results := [.lit (.bool false)], args := [d] }
  | _ => none }
def FnExactSpreadOfWrongFalsely : Prop := fnExactSpreadOfRow.holds Try.pinned (OpenSpec.ofChange fnExactSpreadOfWrong)

/-- 'laws.FnExactSquaresOf': WHATEVER THE INPUT: true; the input reads as it did. -/
def fnExactSquaresOfSpec : ChangeSpec := { name := "fnExactSquaresOf", fn := fun _ => fun
  | [d] => { results := [.lit (.bool true)], args := [d] }
  | _ => none }
def fnExactSquaresOfRow : OpenClaim := { program := "ythdpeholeelhdaa", sum := "0c8e8a3772cb8dc5997ebdf13cbc7d5bc7fe642a11965b8b665b552bc824b356", func := "loop.example/dutyrosters/laws.FnExactSquaresOf", spec := "fnExactSquaresOf", unfollowed := true, recurses := true, apart := false }
def FnExactSquaresOfSaid : Prop := fnExactSquaresOfRow.holds Try.pinned (OpenSpec.ofChange fnExactSquaresOfSpec)

/-- ITS FALSE NEIGHBOUR: 'it returns false'. Refute it at one input. -/
def fnExactSquaresOfWrong : ChangeSpec := { name := "fnExactSquaresOf", fn := fun _ => fun
  | [d] => { results := [.lit (.bool false)], args := [d] }
  | _ => none }
def FnExactSquaresOfWrongFalsely : Prop := fnExactSquaresOfRow.holds Try.pinned (OpenSpec.ofChange fnExactSquaresOfWrong)

/-- 'laws.FnExactFairerOk': WHATEVER THE INPUT: true; the input reads as it did. -/
def fnExactFairerOkSpec : ChangeSpec := { name := "fnExactFairerOk", fn := fun _ => fun
  | [d1, d2] => { results := [.lit (.bool true)], args := [d1, d2] }
  | _ => none }
def fnExactFairerOkRow : OpenClaim := { program := "ythdpeholeelhdaa", sum := "0c8e8a3772cb8dc5997ebdf13cbc7d5bc7fe642a11965b8b665b552bc824b356", func := "loop.example/dutyrosters/laws.FnExactFairerOk", spec := "fnExactFairerOk", inPlace := ["slices.overlaps[int]"], unfollowed := true, recurses := true, apart := false }
def FnExactFairerOkSaid : Prop := fnExactFairerOkRow.holds Try.pinned (OpenSpec.ofChange fnExactFairerOkSpec)

/-- ITS FALSE NEIGHBOUR: 'it returns false'. Refute it at one input. -/
def fnExactFairerOkWrong : ChangeSpec := { name := "fnExactFairerOk", fn := fun _ => fun
  | [d1, d2] => { results := [.lit (.bool false)], args := [d1, d2] }
  | _ => none }
def FnExactFairerOkWrongFalsely : Prop := fnExactFairerOkRow.holds Try.pinned (OpenSpec.ofChange fnExactFairerOkWrong)

/-- 'laws.FnExactGivenOn': WHATEVER THE INPUT: true; the input reads as it did. -/
def fnExactGivenOnSpec : ChangeSpec := { name := "fnExactGivenOn", fn := fun _ => fun
  | [d1, d2, d3] => { results := [.lit (.bool true)], args := [d1, d2, d3] }
  | _ => none }
def fnExactGivenOnRow : OpenClaim := { program := "ythdpeholeelhdaa", sum := "0c8e8a3772cb8dc5997ebdf13cbc7d5bc7fe642a11965b8b665b552bc824b356", func := "loop.example/dutyrosters/laws.FnExactGivenOn", spec := "fnExactGivenOn", unfollowed := true, recurses := true, apart := false }
def FnExactGivenOnSaid : Prop := fnExactGivenOnRow.holds Try.pinned (OpenSpec.ofChange fnExactGivenOnSpec)

/-- ITS FALSE NEIGHBOUR: 'it returns false'. Refute it at one input. -/
def fnExactGivenOnWrong : ChangeSpec := { name := "fnExactGivenOn", fn := fun _ => fun
  | [d1, d2, d3] => { results := [.lit (.bool false)], args := [d1, d2, d3] }
  | _ => none }
def FnExactGivenOnWrongFalsely : Prop := fnExactGivenOnRow.holds Try.pinned (OpenSpec.ofChange fnExactGivenOnWrong)

/-- 'laws.FnExactFairestOf': WHATEVER THE INPUT: true; the input reads as it did. -/
def fnExactFairestOfSpec : ChangeSpec := { name := "fnExactFairestOf", fn := fun _ => fun
  | [d1, d2] => { results := [.lit (.bool true)], args := [d1, d2] }
  | _ => none }
def fnExactFairestOfRow : OpenClaim := { program := "ythdpeholeelhdaa", sum := "0c8e8a3772cb8dc5997ebdf13cbc7d5bc7fe642a11965b8b665b552bc824b356", func := "loop.example/dutyrosters/laws.FnExactFairestOf", spec := "fnExactFairestOf", apart := false }
def FnExactFairestOfSaid : Prop := fnExactFairestOfRow.holds Try.pinned (OpenSpec.ofChange fnExactFairestOfSpec)

/-- ITS FALSE NEIGHBOUR: 'it returns false'. Refute it at one input. -/
def fnExactFairestOfWrong : ChangeSpec := { name := "fnExactFairestOf", fn := fun _ => fun
  | [d1, d2] => { results := [.lit (.bool false)], args := [d1, d2] }
  | _ => none }
def FnExactFairestOfWrongFalsely : Prop := fnExactFairestOfRow.holds Try.pinned (OpenSpec.ofChange fnExactFairestOfWrong)

/-- 'laws.FnExactStepsToFair': WHATEVER THE INPUT: true; the input reads as it did. -/
def fnExactStepsToFairSpec : ChangeSpec := { name := "fnExactStepsToFair", fn := fun _ => fun
  | [d] => { results := [.lit (.bool true)], args := [d] }
  | _ => none }
def fnExactStepsToFairRow : OpenClaim := { program := "ythdpeholeelhdaa", sum := "0c8e8a3772cb8dc5997ebdf13cbc7d5bc7fe642a11965b8b665b552bc824b356", func := "loop.example/dutyrosters/laws.FnExactStepsToFair", spec := "fnExactStepsToFair", inPlace := ["slices.overlaps[int]"], unfollowed := true, recurses := true, apart := false }
def FnExactStepsToFairSaid : Prop := fnExactStepsToFairRow.holds Try.pinned (OpenSpec.ofChange fnExactStepsToFairSpec)

/-- ITS FALSE NEIGHBOUR: 'it returns false'. Refute it at one input. -/
def fnExactStepsToFairWrong : ChangeSpec := { name := "fnExactStepsToFair", fn := fun _ => fun
  | [d] => { results := [.lit (.bool false)], args := [d] }
  | _ => none }
def FnExactStepsToFairWrongFalsely : Prop := fnExactStepsToFairRow.holds Try.pinned (OpenSpec.ofChange fnExactStepsToFairWrong)

/- THE SECOND FORM. 'bulk': how many values and letters a reading holds, each counted each time it is reached (what is shared counts as often as it is met; a slice's spare places count too). A statement '..UptoSaid' is the law's where the arguments, and the package variables that the reading takes, are together of bulk at most 1048576: NARROWER than '..Said'. Prove '..Said' where nothing that the law and all that it calls make is longer than what came in: it says more and counts as full. Else prove '..UptoSaid'. A law counts once. -/
mutual
def uptoBulk {H : Type} : DataW H → Nat
  | .lit (.string bytes) => bytes.length + 1
  | .lit _ => 1
  | .nil => 1
  | .ptr d => uptoBulk d + 1
  | .slice elems spare => uptoBulkAll elems + uptoBulkAll spare + 1
  | .agg parts => uptoBulkAll parts + 1
  | .iface _ d => uptoBulk d + 1
  | .map entries => uptoBulkEntries entries + 1
  | .held _ => 1
def uptoBulkAll {H : Type} : List (DataW H) → Nat
  | [] => 0
  | d :: r => uptoBulk d + uptoBulkAll r
def uptoBulkEntries {H : Type} : List (Lit × DataW H) → Nat
  | [] => 0
  | x :: r => uptoBulkEntry x + uptoBulkEntries r
def uptoBulkEntry {H : Type} : Lit × DataW H → Nat
  | (.string bytes, d) => bytes.length + uptoBulk d + 1
  | (_, d) => uptoBulk d + 1
 end
def uptoSmall : (H : Type) → List (DataW H) → Bool := fun _ ds => decide (uptoBulkAll ds ≤ 1048576)
def OpenSpec.upto (s : _root_.Go.ChangeSpec) : _root_.Go.OpenSpec := { _root_.Go.OpenSpec.ofChange s with cond := some uptoSmall }

/-- 'laws.FnLoadsOk', WHERE WHAT IT READS IS OF BULK AT MOST 1048576: true; the input reads as it did. -/
def fnLoadsOkUptoRow : OpenClaim := { program := "ythdpeholeelhdaa", sum := "0c8e8a3772cb8dc5997ebdf13cbc7d5bc7fe642a11965b8b665b552bc824b356", func := "loop.example/dutyrosters/laws.FnLoadsOk", spec := "fnLoadsOk", inPlace := ["internal/bytealg.IndexByteString"], unfollowed := true, recurses := true, apart := false, narrowed := true }
def FnLoadsOkUptoSaid : Prop := fnLoadsOkUptoRow.holds Try.pinned (OpenSpec.upto fnLoadsOkSpec)

/-- 'laws.FnSortedLoads', WHERE WHAT IT READS IS OF BULK AT MOST 1048576: true; the input reads as it did. -/
def fnSortedLoadsUptoRow : OpenClaim := { program := "ythdpeholeelhdaa", sum := "0c8e8a3772cb8dc5997ebdf13cbc7d5bc7fe642a11965b8b665b552bc824b356", func := "loop.example/dutyrosters/laws.FnSortedLoads", spec := "fnSortedLoads", inPlace := ["slices.overlaps[int]", "internal/bytealg.IndexByteString"], unfollowed := true, recurses := true, apart := false, narrowed := true }
def FnSortedLoadsUptoSaid : Prop := fnSortedLoadsUptoRow.holds Try.pinned (OpenSpec.upto fnSortedLoadsSpec)

/-- 'laws.FnSpreadOf', WHERE WHAT IT READS IS OF BULK AT MOST 1048576: true; the input reads as it did. -/
def fnSpreadOfUptoRow : OpenClaim := { program := "ythdpeholeelhdaa", sum := "0c8e8a3772cb8dc5997ebdf13cbc7d5bc7fe642a11965b8b665b552bc824b356", func := "loop.example/dutyrosters/laws.FnSpreadOf", spec := "fnSpreadOf", inPlace := ["internal/bytealg.IndexByteString", "slices.overlaps[int]"], unfollowed := true, recurses := true, apart := false, narrowed := true }
def FnSpreadOfUptoSaid : Prop := fnSpreadOfUptoRow.holds Try.pinned (OpenSpec.upto fnSpreadOfSpec)

/-- 'laws.FnSquaresOf', WHERE WHAT IT READS IS OF BULK AT MOST 1048576: true; the input reads as it did. -/
def fnSquaresOfUptoRow : OpenClaim := { program := "ythdpeholeelhdaa", sum := "0c8e8a3772cb8dc5997ebdf13cbc7d5bc7fe642a11965b8b665b552bc824b356", func := "loop.example/dutyrosters/laws.FnSquaresOf", spec := "fnSquaresOf", inPlace := ["internal/bytealg.IndexByteString"], unfollowed := true, recurses := true, apart := false, narrowed := true }
def FnSquaresOfUptoSaid : Prop := fnSquaresOfUptoRow.holds Try.pinned (OpenSpec.upto fnSquaresOfSpec)

/-- 'laws.FnFairerOk', WHERE WHAT IT READS IS OF BULK AT MOST 1048576: true; the input reads as it did. -/
def fnFairerOkUptoRow : OpenClaim := { program := "ythdpeholeelhdaa", sum := "0c8e8a3772cb8dc5997ebdf13cbc7d5bc7fe642a11965b8b665b552bc824b356", func := "loop.example/dutyrosters/laws.FnFairerOk", spec := "fnFairerOk", inPlace := ["slices.overlaps[int]", "internal/bytealg.IndexByteString"], unfollowed := true, recurses := true, apart := false, narrowed := true }
def FnFairerOkUptoSaid : Prop := fnFairerOkUptoRow.holds Try.pinned (OpenSpec.upto fnFairerOkSpec)

/-- 'laws.FnGivenOn', WHERE WHAT IT READS IS OF BULK AT MOST 1048576: true; the input reads as it did. -/
def fnGivenOnUptoRow : OpenClaim := { program := "ythdpeholeelhdaa", sum := "0c8e8a3772cb8dc5997ebdf13cbc7d5bc7fe642a11965b8b665b552bc824b356", func := "loop.example/dutyrosters/laws.FnGivenOn", spec := "fnGivenOn", inPlace := ["internal/bytealg.IndexByteString", "slices.overlaps[int]"], unfollowed := true, recurses := true, apart := false, narrowed := true }
def FnGivenOnUptoSaid : Prop := fnGivenOnUptoRow.holds Try.pinned (OpenSpec.upto fnGivenOnSpec)

/-- 'laws.FnFairestOf', WHERE WHAT IT READS IS OF BULK AT MOST 1048576: true; the input reads as it did. -/
def fnFairestOfUptoRow : OpenClaim := { program := "ythdpeholeelhdaa", sum := "0c8e8a3772cb8dc5997ebdf13cbc7d5bc7fe642a11965b8b665b552bc824b356", func := "loop.example/dutyrosters/laws.FnFairestOf", spec := "fnFairestOf", inPlace := ["internal/bytealg.IndexByteString", "slices.overlaps[int]"], unfollowed := true, recurses := true, apart := false, narrowed := true }
def FnFairestOfUptoSaid : Prop := fnFairestOfUptoRow.holds Try.pinned (OpenSpec.upto fnFairestOfSpec)

/-- 'laws.FnStepsToFair', WHERE WHAT IT READS IS OF BULK AT MOST 1048576: true; the input reads as it did. -/
def fnStepsToFairUptoRow : OpenClaim := { program := "ythdpeholeelhdaa", sum := "0c8e8a3772cb8dc5997ebdf13cbc7d5bc7fe642a11965b8b665b552bc824b356", func := "loop.example/dutyrosters/laws.FnStepsToFair", spec := "fnStepsToFair", inPlace := ["slices.overlaps[int]", "internal/bytealg.IndexByteString"], unfollowed := true, recurses := true, apart := false, narrowed := true }
def FnStepsToFairUptoSaid : Prop := fnStepsToFairUptoRow.holds Try.pinned (OpenSpec.upto fnStepsToFairSpec)

/-- 'laws.FnExactLoadsOk', WHERE WHAT IT READS IS OF BULK AT MOST 1048576: true; the input reads as it did. -/
def fnExactLoadsOkUptoRow : OpenClaim := { program := "ythdpeholeelhdaa", sum := "0c8e8a3772cb8dc5997ebdf13cbc7d5bc7fe642a11965b8b665b552bc824b356", func := "loop.example/dutyrosters/laws.FnExactLoadsOk", spec := "fnExactLoadsOk", unfollowed := true, recurses := true, apart := false, narrowed := true }
def FnExactLoadsOkUptoSaid : Prop := fnExactLoadsOkUptoRow.holds Try.pinned (OpenSpec.upto fnExactLoadsOkSpec)

/-- 'laws.FnExactSortedLoads', WHERE WHAT IT READS IS OF BULK AT MOST 1048576: true; the input reads as it did. -/
def fnExactSortedLoadsUptoRow : OpenClaim := { program := "ythdpeholeelhdaa", sum := "0c8e8a3772cb8dc5997ebdf13cbc7d5bc7fe642a11965b8b665b552bc824b356", func := "loop.example/dutyrosters/laws.FnExactSortedLoads", spec := "fnExactSortedLoads", inPlace := ["slices.overlaps[int]"], unfollowed := true, recurses := true, apart := false, narrowed := true }
def FnExactSortedLoadsUptoSaid : Prop := fnExactSortedLoadsUptoRow.holds Try.pinned (OpenSpec.upto fnExactSortedLoadsSpec)

/-- 'laws.FnExactSpreadOf', WHERE WHAT IT READS IS OF BULK AT MOST 1048576: true; the input reads as it did. -/
def fnExactSpreadOfUptoRow : OpenClaim := { program := "ythdpeholeelhdaa", sum := "0c8e8a3772cb8dc5997ebdf13cbc7d5bc7fe642a11965b8b665b552bc824b356", func := "loop.example/dutyrosters/laws.FnExactSpreadOf", spec := "fnExactSpreadOf", unfollowed := true, recurses := true, apart := false, narrowed := true }
def FnExactSpreadOfUptoSaid : Prop := fnExactSpreadOfUptoRow.holds Try.pinned (OpenSpec.upto fnExactSpreadOfSpec)

/-- 'laws.FnExactSquaresOf', WHERE WHAT IT READS IS OF BULK AT MOST 1048576: true; the input reads as it did. -/
def fnExactSquaresOfUptoRow : OpenClaim := { program := "ythdpeholeelhdaa", sum := "0c8e8a3772cb8dc5997ebdf13cbc7d5bc7fe642a11965b8b665b552bc824b356", func := "loop.example/dutyrosters/laws.FnExactSquaresOf", spec := "fnExactSquaresOf", unfollowed := true, recurses := true, apart := false, narrowed := true }
def FnExactSquaresOfUptoSaid : Prop := fnExactSquaresOfUptoRow.holds Try.pinned (OpenSpec.upto fnExactSquaresOfSpec)

/-- 'laws.FnExactFairerOk', WHERE WHAT IT READS IS OF BULK AT MOST 1048576: true; the input reads as it did. -/
def fnExactFairerOkUptoRow : OpenClaim := { program := "ythdpeholeelhdaa", sum := "0c8e8a3772cb8dc5997ebdf13cbc7d5bc7fe642a11965b8b665b552bc824b356", func := "loop.example/dutyrosters/laws.FnExactFairerOk", spec := "fnExactFairerOk", inPlace := ["slices.overlaps[int]"], unfollowed := true, recurses := true, apart := false, narrowed := true }
def FnExactFairerOkUptoSaid : Prop := fnExactFairerOkUptoRow.holds Try.pinned (OpenSpec.upto fnExactFairerOkSpec)

/-- 'laws.FnExactGivenOn', WHERE WHAT IT READS IS OF BULK AT MOST 1048576: true; the input reads as it did. -/
def fnExactGivenOnUptoRow : OpenClaim := { program := "ythdpeholeelhdaa", sum := "0c8e8a3772cb8dc5997ebdf13cbc7d5bc7fe642a11965b8b665b552bc824b356", func := "loop.example/dutyrosters/laws.FnExactGivenOn", spec := "fnExactGivenOn", unfollowed := true, recurses := true, apart := false, narrowed := true }
def FnExactGivenOnUptoSaid : Prop := fnExactGivenOnUptoRow.holds Try.pinned (OpenSpec.upto fnExactGivenOnSpec)

/-- 'laws.FnExactFairestOf', WHERE WHAT IT READS IS OF BULK AT MOST 1048576: true; the input reads as it did. -/
def fnExactFairestOfUptoRow : OpenClaim := { program := "ythdpeholeelhdaa", sum := "0c8e8a3772cb8dc5997ebdf13cbc7d5bc7fe642a11965b8b665b552bc824b356", func := "loop.example/dutyrosters/laws.FnExactFairestOf", spec := "fnExactFairestOf", apart := false, narrowed := true }
def FnExactFairestOfUptoSaid : Prop := fnExactFairestOfUptoRow.holds Try.pinned (OpenSpec.upto fnExactFairestOfSpec)

/-- 'laws.FnExactStepsToFair', WHERE WHAT IT READS IS OF BULK AT MOST 1048576: true; the input reads as it did. -/
def fnExactStepsToFairUptoRow : OpenClaim := { program := "ythdpeholeelhdaa", sum := "0c8e8a3772cb8dc5997ebdf13cbc7d5bc7fe642a11965b8b665b552bc824b356", func := "loop.example/dutyrosters/laws.FnExactStepsToFair", spec := "fnExactStepsToFair", inPlace := ["slices.overlaps[int]"], unfollowed := true, recurses := true, apart := false, narrowed := true }
def FnExactStepsToFairUptoSaid : Prop := fnExactStepsToFairUptoRow.holds Try.pinned (OpenSpec.upto fnExactStepsToFairSpec)

end Rows
end Go.Proofs.Ythdpeholeelhdaa

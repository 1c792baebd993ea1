/-
  No cell of these rows narrows 'for every input' (looked for: loops, veiled, ifaces, maps, wideKeys, modest, calm, conditions, laid).
  DERIVED. THE GIVEN ROWS OF THIS SEAT. 14 by the template 'for every input the law returns true; each argument reads behind the call as it read before'; 0 by the template 'total and deterministic' (their statements: YtdgpemjbaciiaaaTotals.lean).
  GIVEN WITH THE SEED: the statements are not yours to turn. If you find one false, say at which input.
  Laid BY PROGRAM, IN A SANDBOX (cutbox-rows.mjs): the forced cells as the released guide's own fill.sh prints them over the translation 7df6be00e88d003d… (all of the seat's roots in one cut). By AI agents, Wed Nov 11 2026. No macro, syntax, notation, axiom, sorry.
-/
import Derived.Test.YtdgpemjbaciiaaaChecked
import GoSem.Claim
import GoSem.ClaimJoined
import GoSem.ClaimMapViews
import Derived.JoinedTies
import Derived.KernelRfl
namespace Go.Proofs.Ytdgpemjbaciiaaa
/- THE CELL 'sum', in the pinned program and in every row, IS THE sha256 OF THE DUMP (.gsa) THAT YtdgpemjbaciiaaaProg.lean LOADS. Nothing in Lean hashes anything: it is a label: what it is worth is what the hold of that sum in a sandbox is worth. -/
noncomputable def Try.pinned : Pinned := { name := "ytdgpemjbaciiaaa", sum := "7df6be00e88d003d1216c5b8d21592b9b4b565c836ee8f018542e74579d54b8c", checked := Try.checked }
namespace Rows
def none {H : Type} : Left H := { results := [], args := [] }

/-- 'laws.FnExactLeastMachine': WHATEVER THE INPUT: true; the input reads as it did. -/
def fnExactLeastMachineSpec : ChangeSpec := { name := "fnExactLeastMachine", fn := fun _ => fun
  | [d] => { results := [.lit (.bool true)], args := [d] }
  | _ => none }
def fnExactLeastMachineRow : OpenClaim := { program := "ytdgpemjbaciiaaa", sum := "7df6be00e88d003d1216c5b8d21592b9b4b565c836ee8f018542e74579d54b8c", func := "loop.example/dutyrosters/laws.FnExactLeastMachine", spec := "fnExactLeastMachine", unfollowed := true, recurses := true, plainKeys := false, apart := false }
def FnExactLeastMachineSaid : Prop := fnExactLeastMachineRow.holds Try.pinned (OpenSpec.ofChange fnExactLeastMachineSpec)

/-- ITS FALSE NEIGHBOUR: 'it returns false'. Refute it at one input. -/
def fnExactLeastMachineWrong : ChangeSpec := { name := "fnExactLeastMachine", fn := fun _ => fun
  | [d] => { results := [.lit (.bool false)], args := [d] }
  | _ => none }
def FnExactLeastMachineWrongFalsely : Prop := fnExactLeastMachineRow.holds Try.pinned (OpenSpec.ofChange fnExactLeastMachineWrong)

/-- 'laws.FnExactSameOk': WHATEVER THE INPUT: true; the input reads as it did. -/
def fnExactSameOkSpec : ChangeSpec := { name := "fnExactSameOk", fn := fun _ => fun
  | [d1, d2] => { results := [.lit (.bool true)], args := [d1, d2] }
  | _ => none }
def fnExactSameOkRow : OpenClaim := { program := "ytdgpemjbaciiaaa", sum := "7df6be00e88d003d1216c5b8d21592b9b4b565c836ee8f018542e74579d54b8c", func := "loop.example/dutyrosters/laws.FnExactSameOk", spec := "fnExactSameOk", unfollowed := true, recurses := true, plainKeys := false, apart := false }
def FnExactSameOkSaid : Prop := fnExactSameOkRow.holds Try.pinned (OpenSpec.ofChange fnExactSameOkSpec)

/-- ITS FALSE NEIGHBOUR: 'it returns false'. Refute it at one input. -/
def fnExactSameOkWrong : ChangeSpec := { name := "fnExactSameOk", fn := fun _ => fun
  | [d1, d2] => { results := [.lit (.bool false)], args := [d1, d2] }
  | _ => none }
def FnExactSameOkWrongFalsely : Prop := fnExactSameOkRow.holds Try.pinned (OpenSpec.ofChange fnExactSameOkWrong)

/-- 'laws.FnExactBothMachines': WHATEVER THE INPUT: true; the input reads as it did. -/
def fnExactBothMachinesSpec : ChangeSpec := { name := "fnExactBothMachines", fn := fun _ => fun
  | [d1, d2] => { results := [.lit (.bool true)], args := [d1, d2] }
  | _ => none }
def fnExactBothMachinesRow : OpenClaim := { program := "ytdgpemjbaciiaaa", sum := "7df6be00e88d003d1216c5b8d21592b9b4b565c836ee8f018542e74579d54b8c", func := "loop.example/dutyrosters/laws.FnExactBothMachines", spec := "fnExactBothMachines", unfollowed := true, recurses := true, plainKeys := false, apart := false }
def FnExactBothMachinesSaid : Prop := fnExactBothMachinesRow.holds Try.pinned (OpenSpec.ofChange fnExactBothMachinesSpec)

/-- ITS FALSE NEIGHBOUR: 'it returns false'. Refute it at one input. -/
def fnExactBothMachinesWrong : ChangeSpec := { name := "fnExactBothMachines", fn := fun _ => fun
  | [d1, d2] => { results := [.lit (.bool false)], args := [d1, d2] }
  | _ => none }
def FnExactBothMachinesWrongFalsely : Prop := fnExactBothMachinesRow.holds Try.pinned (OpenSpec.ofChange fnExactBothMachinesWrong)

/-- 'laws.FnExactEitherMachine': WHATEVER THE INPUT: true; the input reads as it did. -/
def fnExactEitherMachineSpec : ChangeSpec := { name := "fnExactEitherMachine", fn := fun _ => fun
  | [d1, d2] => { results := [.lit (.bool true)], args := [d1, d2] }
  | _ => none }
def fnExactEitherMachineRow : OpenClaim := { program := "ytdgpemjbaciiaaa", sum := "7df6be00e88d003d1216c5b8d21592b9b4b565c836ee8f018542e74579d54b8c", func := "loop.example/dutyrosters/laws.FnExactEitherMachine", spec := "fnExactEitherMachine", unfollowed := true, recurses := true, plainKeys := false, apart := false }
def FnExactEitherMachineSaid : Prop := fnExactEitherMachineRow.holds Try.pinned (OpenSpec.ofChange fnExactEitherMachineSpec)

/-- ITS FALSE NEIGHBOUR: 'it returns false'. Refute it at one input. -/
def fnExactEitherMachineWrong : ChangeSpec := { name := "fnExactEitherMachine", fn := fun _ => fun
  | [d1, d2] => { results := [.lit (.bool false)], args := [d1, d2] }
  | _ => none }
def FnExactEitherMachineWrongFalsely : Prop := fnExactEitherMachineRow.holds Try.pinned (OpenSpec.ofChange fnExactEitherMachineWrong)

/-- 'laws.FnExactNotMachine': WHATEVER THE INPUT: true; the input reads as it did. -/
def fnExactNotMachineSpec : ChangeSpec := { name := "fnExactNotMachine", fn := fun _ => fun
  | [d] => { results := [.lit (.bool true)], args := [d] }
  | _ => none }
def fnExactNotMachineRow : OpenClaim := { program := "ytdgpemjbaciiaaa", sum := "7df6be00e88d003d1216c5b8d21592b9b4b565c836ee8f018542e74579d54b8c", func := "loop.example/dutyrosters/laws.FnExactNotMachine", spec := "fnExactNotMachine", unfollowed := true, recurses := true, plainKeys := false, apart := false }
def FnExactNotMachineSaid : Prop := fnExactNotMachineRow.holds Try.pinned (OpenSpec.ofChange fnExactNotMachineSpec)

/-- ITS FALSE NEIGHBOUR: 'it returns false'. Refute it at one input. -/
def fnExactNotMachineWrong : ChangeSpec := { name := "fnExactNotMachine", fn := fun _ => fun
  | [d] => { results := [.lit (.bool false)], args := [d] }
  | _ => none }
def FnExactNotMachineWrongFalsely : Prop := fnExactNotMachineRow.holds Try.pinned (OpenSpec.ofChange fnExactNotMachineWrong)

/-- 'laws.FnExactShortestTaken': WHATEVER THE INPUT: true; the input reads as it did. -/
def fnExactShortestTakenSpec : ChangeSpec := { name := "fnExactShortestTaken", fn := fun _ => fun
  | [d] => { results := [.lit (.bool true)], args := [d] }
  | _ => none }
def fnExactShortestTakenRow : OpenClaim := { program := "ytdgpemjbaciiaaa", sum := "7df6be00e88d003d1216c5b8d21592b9b4b565c836ee8f018542e74579d54b8c", func := "loop.example/dutyrosters/laws.FnExactShortestTaken", spec := "fnExactShortestTaken", inPlace := ["internal/bytealg.IndexByteString"], plainKeys := false, apart := false }
def FnExactShortestTakenSaid : Prop := fnExactShortestTakenRow.holds Try.pinned (OpenSpec.ofChange fnExactShortestTakenSpec)

/-- ITS FALSE NEIGHBOUR: 'it returns false'. Refute it at one input. -/
def fnExactShortestTakenWrong : ChangeSpec := { name := "fnExactShortestTaken", fn := fun _ => fun
  | [d] => { results := [.lit (.bool false)], args := [d] }
  | _ => none }
def FnExactShortestTakenWrongFalsely : Prop := fnExactShortestTakenRow.holds Try.pinned (OpenSpec.ofChange fnExactShortestTakenWrong)

/-- 'laws.FnTakesOk': WHATEVER THE INPUT: true; the input reads as it did. -/
def fnTakesOkSpec : ChangeSpec := { name := "fnTakesOk", fn := fun _ => fun
  | [d] => { results := [.lit (.bool true)], args := [d] }
  | _ => none }
def fnTakesOkRow : OpenClaim := { program := "ytdgpemjbaciiaaa", sum := "7df6be00e88d003d1216c5b8d21592b9b4b565c836ee8f018542e74579d54b8c", func := "loop.example/dutyrosters/laws.FnTakesOk", spec := "fnTakesOk", inPlace := ["internal/bytealg.IndexByteString"], unfollowed := true, recurses := true, plainKeys := false, apart := false }
def FnTakesOkSaid : Prop := fnTakesOkRow.holds Try.pinned (OpenSpec.ofChange fnTakesOkSpec)

/-- ITS FALSE NEIGHBOUR: 'it returns false'. Refute it at one input. -/
def fnTakesOkWrong : ChangeSpec := { name := "fnTakesOk", fn := fun _ => fun
  | [d] => { results := [.lit (.bool false)], args := [d] }
  | _ => none }
def FnTakesOkWrongFalsely : Prop := fnTakesOkRow.holds Try.pinned (OpenSpec.ofChange fnTakesOkWrong)

/-- 'laws.FnTrimmedMachine': WHATEVER THE INPUT: true; the input reads as it did. -/
def fnTrimmedMachineSpec : ChangeSpec := { name := "fnTrimmedMachine", fn := fun _ => fun
  | [d] => { results := [.lit (.bool true)], args := [d] }
  | _ => none }
def fnTrimmedMachineRow : OpenClaim := { program := "ytdgpemjbaciiaaa", sum := "7df6be00e88d003d1216c5b8d21592b9b4b565c836ee8f018542e74579d54b8c", func := "loop.example/dutyrosters/laws.FnTrimmedMachine", spec := "fnTrimmedMachine", inPlace := ["internal/bytealg.IndexByteString"], unfollowed := true, recurses := true, plainKeys := false, apart := false }
def FnTrimmedMachineSaid : Prop := fnTrimmedMachineRow.holds Try.pinned (OpenSpec.ofChange fnTrimmedMachineSpec)

/-- ITS FALSE NEIGHBOUR: 'it returns false'. Refute it at one input. -/
def fnTrimmedMachineWrong : ChangeSpec := { name := "fnTrimmedMachine", fn := fun _ => fun
  | [d] => { results := [.lit (.bool false)], args := [d] }
  | _ => none }
def FnTrimmedMachineWrongFalsely : Prop := fnTrimmedMachineRow.holds Try.pinned (OpenSpec.ofChange fnTrimmedMachineWrong)

/-- 'laws.FnLeastMachine': WHATEVER THE INPUT: true; the input reads as it did. -/
def fnLeastMachineSpec : ChangeSpec := { name := "fnLeastMachine", fn := fun _ => fun
  | [d1, d2] => { results := [.lit (.bool true)], args := [d1, d2] }
  | _ => none }
def fnLeastMachineRow : OpenClaim := { program := "ytdgpemjbaciiaaa", sum := "7df6be00e88d003d1216c5b8d21592b9b4b565c836ee8f018542e74579d54b8c", func := "loop.example/dutyrosters/laws.FnLeastMachine", spec := "fnLeastMachine", inPlace := ["internal/bytealg.IndexByteString"], unfollowed := true, recurses := true, plainKeys := false, apart := false }
def FnLeastMachineSaid : Prop := fnLeastMachineRow.holds Try.pinned (OpenSpec.ofChange fnLeastMachineSpec)

/-- ITS FALSE NEIGHBOUR: 'it returns false'. Refute it at one input. -/
def fnLeastMachineWrong : ChangeSpec := { name := "fnLeastMachine", fn := fun _ => fun
  | [d1, d2] => { results := [.lit (.bool false)], args := [d1, d2] }
  | _ => none }
def FnLeastMachineWrongFalsely : Prop := fnLeastMachineRow.holds Try.pinned (OpenSpec.ofChange fnLeastMachineWrong)

/-- 'laws.FnSameOk': WHATEVER THE INPUT: true; the input reads as it did. -/
def fnSameOkSpec : ChangeSpec := { name := "fnSameOk", fn := fun _ => fun
  | [d1, d2] => { results := [.lit (.bool true)], args := [d1, d2] }
  | _ => none }
def fnSameOkRow : OpenClaim := { program := "ytdgpemjbaciiaaa", sum := "7df6be00e88d003d1216c5b8d21592b9b4b565c836ee8f018542e74579d54b8c", func := "loop.example/dutyrosters/laws.FnSameOk", spec := "fnSameOk", inPlace := ["internal/bytealg.IndexByteString"], unfollowed := true, recurses := true, plainKeys := false, apart := false }
def FnSameOkSaid : Prop := fnSameOkRow.holds Try.pinned (OpenSpec.ofChange fnSameOkSpec)

/-- ITS FALSE NEIGHBOUR: 'it returns false'. Refute it at one input. -/
def fnSameOkWrong : ChangeSpec := { name := "fnSameOk", fn := fun _ => fun
  | [d1, d2] => { results := [.lit (.bool false)], args := [d1, d2] }
  | _ => none }
def FnSameOkWrongFalsely : Prop := fnSameOkRow.holds Try.pinned (OpenSpec.ofChange fnSameOkWrong)

/-- 'laws.FnBothMachines': WHATEVER THE INPUT: true; the input reads as it did. -/
def fnBothMachinesSpec : ChangeSpec := { name := "fnBothMachines", fn := fun _ => fun
  | [d1, d2] => { results := [.lit (.bool true)], args := [d1, d2] }
  | _ => none }
def fnBothMachinesRow : OpenClaim := { program := "ytdgpemjbaciiaaa", sum := "7df6be00e88d003d1216c5b8d21592b9b4b565c836ee8f018542e74579d54b8c", func := "loop.example/dutyrosters/laws.FnBothMachines", spec := "fnBothMachines", inPlace := ["internal/bytealg.IndexByteString"], unfollowed := true, recurses := true, plainKeys := false, apart := false }
def FnBothMachinesSaid : Prop := fnBothMachinesRow.holds Try.pinned (OpenSpec.ofChange fnBothMachinesSpec)

/-- ITS FALSE NEIGHBOUR: 'it returns false'. Refute it at one input. -/
def fnBothMachinesWrong : ChangeSpec := { name := "fnBothMachines", fn := fun _ => fun
  | [d1, d2] => { results := [.lit (.bool false)], args := [d1, d2] }
  | _ => none }
def FnBothMachinesWrongFalsely : Prop := fnBothMachinesRow.holds Try.pinned (OpenSpec.ofChange fnBothMachinesWrong)

/-- 'laws.FnEitherMachine': WHATEVER THE INPUT: true; the input reads as it did. -/
def fnEitherMachineSpec : ChangeSpec := { name := "fnEitherMachine", fn := fun _ => fun
  | [d1, d2] => { results := [.lit (.bool true)], args := [d1, d2] }
  | _ => none }
def fnEitherMachineRow : OpenClaim := { program := "ytdgpemjbaciiaaa", sum := "7df6be00e88d003d1216c5b8d21592b9b4b565c836ee8f018542e74579d54b8c", func := "loop.example/dutyrosters/laws.FnEitherMachine", spec := "fnEitherMachine", inPlace := ["internal/bytealg.IndexByteString"], unfollowed := true, recurses := true, plainKeys := false, apart := false }
def FnEitherMachineSaid : Prop := fnEitherMachineRow.holds Try.pinned (OpenSpec.ofChange fnEitherMachineSpec)

/-- ITS FALSE NEIGHBOUR: 'it returns false'. Refute it at one input. -/
def fnEitherMachineWrong : ChangeSpec := { name := "fnEitherMachine", fn := fun _ => fun
  | [d1, d2] => { results := [.lit (.bool false)], args := [d1, d2] }
  | _ => none }
def FnEitherMachineWrongFalsely : Prop := fnEitherMachineRow.holds Try.pinned (OpenSpec.ofChange fnEitherMachineWrong)

/-- 'laws.FnNotMachine': WHATEVER THE INPUT: true; the input reads as it did. -/
def fnNotMachineSpec : ChangeSpec := { name := "fnNotMachine", fn := fun _ => fun
  | [d1, d2] => { results := [.lit (.bool true)], args := [d1, d2] }
  | _ => none }
def fnNotMachineRow : OpenClaim := { program := "ytdgpemjbaciiaaa", sum := "7df6be00e88d003d1216c5b8d21592b9b4b565c836ee8f018542e74579d54b8c", func := "loop.example/dutyrosters/laws.FnNotMachine", spec := "fnNotMachine", inPlace := ["internal/bytealg.IndexByteString"], unfollowed := true, recurses := true, plainKeys := false, apart := false }
def FnNotMachineSaid : Prop := fnNotMachineRow.holds Try.pinned (OpenSpec.ofChange fnNotMachineSpec)

/-- ITS FALSE NEIGHBOUR: 'it returns false'. Refute it at one input. -/
def fnNotMachineWrong : ChangeSpec := { name := "fnNotMachine", fn := fun _ => fun
  | [d1, d2] => { results := [.lit (.bool false)], args := [d1, d2] }
  | _ => none }
def FnNotMachineWrongFalsely : Prop := fnNotMachineRow.holds Try.pinned (OpenSpec.ofChange fnNotMachineWrong)

/-- 'laws.FnShortestTaken': WHATEVER THE INPUT: true; the input reads as it did. -/
def fnShortestTakenSpec : ChangeSpec := { name := "fnShortestTaken", fn := fun _ => fun
  | [d1, d2] => { results := [.lit (.bool true)], args := [d1, d2] }
  | _ => none }
def fnShortestTakenRow : OpenClaim := { program := "ytdgpemjbaciiaaa", sum := "7df6be00e88d003d1216c5b8d21592b9b4b565c836ee8f018542e74579d54b8c", func := "loop.example/dutyrosters/laws.FnShortestTaken", spec := "fnShortestTaken", inPlace := ["internal/bytealg.IndexByteString"], unfollowed := true, recurses := true, plainKeys := false, apart := false }
def FnShortestTakenSaid : Prop := fnShortestTakenRow.holds Try.pinned (OpenSpec.ofChange fnShortestTakenSpec)

/-- ITS FALSE NEIGHBOUR: 'it returns false'. Refute it at one input. -/
def fnShortestTakenWrong : ChangeSpec := { name := "fnShortestTaken", fn := fun _ => fun
  | [d1, d2] => { results := [.lit (.bool false)], args := [d1, d2] }
  | _ => none }
def FnShortestTakenWrongFalsely : Prop := fnShortestTakenRow.holds Try.pinned (OpenSpec.ofChange fnShortestTakenWrong)

/- THE SECOND FORM. 'bulk': how many values and letters a reading holds, each counted each time it is reached (what is shared counts as often as it is met; a slice's spare places count too). A statement '..UptoSaid' is the law's where the arguments, and the package variables that the reading takes, are together of bulk at most 1048576: NARROWER than '..Said'. Prove '..Said' where nothing that the law and all that it calls make is longer than what came in: it says more and counts as full. Else prove '..UptoSaid'. A law counts once. -/
mutual
def uptoBulk {H : Type} : DataW H → Nat
  | .lit (.string bytes) => bytes.length + 1
  | .lit _ => 1
  | .nil => 1
  | .ptr d => uptoBulk d + 1
  | .slice elems spare => uptoBulkAll elems + uptoBulkAll spare + 1
  | .agg parts => uptoBulkAll parts + 1
  | .iface _ d => uptoBulk d + 1
  | .map entries => uptoBulkEntries entries + 1
  | .held _ => 1
def uptoBulkAll {H : Type} : List (DataW H) → Nat
  | [] => 0
  | d :: r => uptoBulk d + uptoBulkAll r
def uptoBulkEntries {H : Type} : List (Lit × DataW H) → Nat
  | [] => 0
  | x :: r => uptoBulkEntry x + uptoBulkEntries r
def uptoBulkEntry {H : Type} : Lit × DataW H → Nat
  | (.string bytes, d) => bytes.length + uptoBulk d + 1
  | (_, d) => uptoBulk d + 1
 end
def uptoSmall : (H : Type) → List (DataW H) → Bool := fun _ ds => decide (uptoBulkAll ds ≤ 1048576)
def OpenSpec.upto (s : _root_.Go.ChangeSpec) : _root_.Go.OpenSpec := { _root_.Go.OpenSpec.ofChange s with cond := some uptoSmall }

/-- 'laws.FnExactLeastMachine', WHERE WHAT IT READS IS OF BULK AT MOST 1048576: true; the input reads as it did. -/
def fnExactLeastMachineUptoRow : OpenClaim := { program := "ytdgpemjbaciiaaa", sum := "7df6be00e88d003d1216c5b8d21592b9b4b565c836ee8f018542e74579d54b8c", func := "loop.example/dutyrosters/laws.FnExactLeastMachine", spec := "fnExactLeastMachine", unfollowed := true, recurses := true, plainKeys := false, apart := false, narrowed := true }
def FnExactLeastMachineUptoSaid : Prop := fnExactLeastMachineUptoRow.holds Try.pinned (OpenSpec.upto fnExactLeastMachineSpec)

/-- 'laws.FnExactSameOk', WHERE WHAT IT READS IS OF BULK AT MOST 1048576: true; the input reads as it did. -/
def fnExactSameOkUptoRow : OpenClaim := { program := "ytdgpemjbaciiaaa", sum := "7df6be00e88d003d1216c5b8d21592b9b4b565c836ee8f018542e74579d54b8c", func := "loop.example/dutyrosters/laws.FnExactSameOk", spec := "fnExactSameOk", unfollowed := true, recurses := true, plainKeys := false, apart := false, narrowed := true }
def FnExactSameOkUptoSaid : Prop := fnExactSameOkUptoRow.holds Try.pinned (OpenSpec.upto fnExactSameOkSpec)

/-- 'laws.FnExactBothMachines', WHERE WHAT IT READS IS OF BULK AT MOST 1048576: true; the input reads as it did. -/
def fnExactBothMachinesUptoRow : OpenClaim := { program := "ytdgpemjbaciiaaa", sum := "7df6be00e88d003d1216c5b8d21592b9b4b565c836ee8f018542e74579d54b8c", func := "loop.example/dutyrosters/laws.FnExactBothMachines", spec := "fnExactBothMachines", unfollowed := true, recurses := true, plainKeys := false, apart := false, narrowed := true }
def FnExactBothMachinesUptoSaid : Prop := fnExactBothMachinesUptoRow.holds Try.pinned (OpenSpec.upto fnExactBothMachinesSpec)

/-- 'laws.FnExactEitherMachine', WHERE WHAT IT READS IS OF BULK AT MOST 1048576: true; the input reads as it did. -/
def fnExactEitherMachineUptoRow : OpenClaim := { program := "ytdgpemjbaciiaaa", sum := "7df6be00e88d003d1216c5b8d21592b9b4b565c836ee8f018542e74579d54b8c", func := "loop.example/dutyrosters/laws.FnExactEitherMachine", spec := "fnExactEitherMachine", unfollowed := true, recurses := true, plainKeys := false, apart := false, narrowed := true }
def FnExactEitherMachineUptoSaid : Prop := fnExactEitherMachineUptoRow.holds Try.pinned (OpenSpec.upto fnExactEitherMachineSpec)

/-- 'laws.FnExactNotMachine', WHERE WHAT IT READS IS OF BULK AT MOST 1048576: true; the input reads as it did. -/
def fnExactNotMachineUptoRow : OpenClaim := { program := "ytdgpemjbaciiaaa", sum := "7df6be00e88d003d1216c5b8d21592b9b4b565c836ee8f018542e74579d54b8c", func := "loop.example/dutyrosters/laws.FnExactNotMachine", spec := "fnExactNotMachine", unfollowed := true, recurses := true, plainKeys := false, apart := false, narrowed := true }
def FnExactNotMachineUptoSaid : Prop := fnExactNotMachineUptoRow.holds Try.pinned (OpenSpec.upto fnExactNotMachineSpec)

/-- 'laws.FnExactShortestTaken', WHERE WHAT IT READS IS OF BULK AT MOST 1048576: true; the input reads as it did. -/
def fnExactShortestTakenUptoRow : OpenClaim := { program := "ytdgpemjbaciiaaa", sum := "7df6be00e88d003d1216c5b8d21592b9b4b565c836ee8f018542e74579d54b8c", func := "loop.example/dutyrosters/laws.FnExactShortestTaken", spec := "fnExactShortestTaken", inPlace := ["internal/bytealg.IndexByteString"], plainKeys := false, apart := false, narrowed := true }
def FnExactShortestTakenUptoSaid : Prop := fnExactShortestTakenUptoRow.holds Try.pinned (OpenSpec.upto fnExactShortestTakenSpec)

/-- 'laws.FnTakesOk', WHERE WHAT IT READS IS OF BULK AT MOST 1048576: true; the input reads as it did. -/
def fnTakesOkUptoRow : OpenClaim := { program := "ytdgpemjbaciiaaa", sum := "7df6be00e88d003d1216c5b8d21592b9b4b565c836ee8f018542e74579d54b8c", func := "loop.example/dutyrosters/laws.FnTakesOk", spec := "fnTakesOk", inPlace := ["internal/bytealg.IndexByteString"], unfollowed := true, recurses := true, plainKeys := false, apart := false, narrowed := true }
def FnTakesOkUptoSaid : Prop := fnTakesOkUptoRow.holds Try.pinned (OpenSpec.upto fnTakesOkSpec)

/-- 'laws.FnTrimmedMachine', WHERE WHAT IT READS IS OF BULK AT MOST 1048576: true; the input reads as it did. -/
def fnTrimmedMachineUptoRow : OpenClaim := { program := "ytdgpemjbaciiaaa", sum := "7df6be00e88d003d1216c5b8d21592b9b4b565c836ee8f018542e74579d54b8c", func := "loop.example/dutyrosters/laws.FnTrimmedMachine", spec := "fnTrimmedMachine", inPlace := ["internal/bytealg.IndexByteString"], unfollowed := true, recurses := true, plainKeys := false, apart := false, narrowed := true }
def FnTrimmedMachineUptoSaid : Prop := fnTrimmedMachineUptoRow.holds Try.pinned (OpenSpec.upto fnTrimmedMachineSpec)

/-- 'laws.FnLeastMachine', WHERE WHAT IT READS IS OF BULK AT MOST 1048576: true; the input reads as it did. -/
def fnLeastMachineUptoRow : OpenClaim := { program := "ytdgpemjbaciiaaa", sum := "7df6be00e88d003d1216c5b8d21592b9b4b565c836ee8f018542e74579d54b8c", func := "loop.example/dutyrosters/laws.FnLeastMachine", spec := "fnLeastMachine", inPlace := ["internal/bytealg.IndexByteString"], unfollowed := true, recurses := true, plainKeys := false, apart := false, narrowed := true }
def FnLeastMachineUptoSaid : Prop := fnLeastMachineUptoRow.holds Try.pinned (OpenSpec.upto fnLeastMachineSpec)

/-- 'laws.FnSameOk', WHERE WHAT IT READS IS OF BULK AT MOST 1048576: true; the input reads as it did. -/
def fnSameOkUptoRow : OpenClaim := { program := "ytdgpemjbaciiaaa", sum := "7df6be00e88d003d1216c5b8d21592b9b4b565c836ee8f018542e74579d54b8c", func := "loop.example/dutyrosters/laws.FnSameOk", spec := "fnSameOk", inPlace := ["internal/bytealg.IndexByteString"], unfollowed := true, recurses := true, plainKeys := false, apart := false, narrowed := true }
def FnSameOkUptoSaid : Prop := fnSameOkUptoRow.holds Try.pinned (OpenSpec.upto fnSameOkSpec)

/-- 'laws.FnBothMachines', WHERE WHAT IT READS IS OF BULK AT MOST 1048576: true; the input reads as it did. -/
def fnBothMachinesUptoRow : OpenClaim := { program := "ytdgpemjbaciiaaa", sum := "7df6be00e88d003d1216c5b8d21592b9b4b565c836ee8f018542e74579d54b8c", func := "loop.example/dutyrosters/laws.FnBothMachines", spec := "fnBothMachines", inPlace := ["internal/bytealg.IndexByteString"], unfollowed := true, recurses := true, plainKeys := false, apart := false, narrowed := true }
def FnBothMachinesUptoSaid : Prop := fnBothMachinesUptoRow.holds Try.pinned (OpenSpec.upto fnBothMachinesSpec)

/-- 'laws.FnEitherMachine', WHERE WHAT IT READS IS OF BULK AT MOST 1048576: true; the input reads as it did. -/
def fnEitherMachineUptoRow : OpenClaim := { program := "ytdgpemjbaciiaaa", sum := "7df6be00e88d003d1216c5b8d21592b9b4b565c836ee8f018542e74579d54b8c", func := "loop.example/dutyrosters/laws.FnEitherMachine", spec := "fnEitherMachine", inPlace := ["internal/bytealg.IndexByteString"], unfollowed := true, recurses := true, plainKeys := false, apart := false, narrowed := true }
def FnEitherMachineUptoSaid : Prop := fnEitherMachineUptoRow.holds Try.pinned (OpenSpec.upto fnEitherMachineSpec)

/-- 'laws.FnNotMachine', WHERE WHAT IT READS IS OF BULK AT MOST 1048576: true; the input reads as it did. -/
def fnNotMachineUptoRow : OpenClaim := { program := "ytdgpemjbaciiaaa", sum := "7df6be00e88d003d1216c5b8d21592b9b4b565c836ee8f018542e74579d54b8c", func := "loop.example/dutyrosters/laws.FnNotMachine", spec := "fnNotMachine", inPlace := ["internal/bytealg.IndexByteString"], unfollowed := true, recurses := true, plainKeys := false, apart := false, narrowed := true }
def FnNotMachineUptoSaid : Prop := fnNotMachineUptoRow.holds Try.pinned (OpenSpec.upto fnNotMachineSpec)

/-- 'laws.FnShortestTaken', WHERE WHAT IT READS IS OF BULK AT MOST 1048576: true; the input reads as it did. -/
def fnShortestTakenUptoRow : OpenClaim := { program := "ytdgpemjbaciiaaa", sum := "7df6be00e88d003d1216c5b8d21592b9b4b565c836ee8f018542e74579d54b8c", func := "loop.example/dutyrosters/laws.FnShortestTaken", spec := "fnShortestTaken", inPlace := ["internal/bytealg.IndexByteString"], unfollowed := true, recurses := true, plainKeys := false, apart := false, narrowed := true }
def FnShortestTakenUptoSaid : Prop := fnShortestTakenUptoRow.holds Try.pinned (OpenSpec.upto fnShortestTakenSpec)

end Rows
end Go.Proofs.Ytdgpemjbaciiaaa

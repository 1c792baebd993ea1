/-
  No cell of these rows narrows 'for every input' (looked for: loops, veiled, ifaces, maps, wideKeys, modest, calm, conditions, laid).
  DERIVED. THE GIVEN ROWS OF THIS SEAT. 9 by the template 'for every input the law returns true; each argument reads behind the call as it read before'; 0 by the template 'total and deterministic' (their statements: YtlfjecaffmfgcaaTotals.lean).
  GIVEN WITH THE SEED: the statements are not yours to turn. If you find one false, say at which input.
  Laid BY PROGRAM, IN A SANDBOX (cutbox-rows.mjs): the forced cells as the released guide's own fill.sh prints them over the translation 212167ead7464888… (all of the seat's roots in one cut). By AI agents, Wed Nov 11 2026. No macro, syntax, notation, axiom, sorry.
-/
import Derived.Test.YtlfjecaffmfgcaaChecked
import GoSem.Claim
import GoSem.ClaimJoined
import GoSem.ClaimMapViews
import Derived.JoinedTies
import Derived.KernelRfl
namespace Go.Proofs.Ytlfjecaffmfgcaa
/- THE CELL 'sum', in the pinned program and in every row, IS THE sha256 OF THE DUMP (.gsa) THAT YtlfjecaffmfgcaaProg.lean LOADS. Nothing in Lean hashes anything: it is a label: what it is worth is what the hold of that sum in a sandbox is worth. -/
noncomputable def Try.pinned : Pinned := { name := "ytlfjecaffmfgcaa", sum := "212167ead7464888aaac87c4503082735c067f480e501d6904aaec3099ea68e6", checked := Try.checked }
namespace Rows
def none {H : Type} : Left H := { results := [], args := [] }

/-- 'laws.FnExactTermOk': WHATEVER THE INPUT: true; the input reads as it did. -/
def fnExactTermOkSpec : ChangeSpec := { name := "fnExactTermOk", fn := fun _ => fun
  | [d] => { results := [.lit (.bool true)], args := [d] }
  | _ => none }
def fnExactTermOkRow : OpenClaim := { program := "ytlfjecaffmfgcaa", sum := "212167ead7464888aaac87c4503082735c067f480e501d6904aaec3099ea68e6", func := "loop.example/dutyrosters/laws.FnExactTermOk", spec := "fnExactTermOk", inPlace := ["internal/bytealg.IndexByteString"], plainKeys := false, apart := false }
def FnExactTermOkSaid : Prop := fnExactTermOkRow.holds Try.pinned (OpenSpec.ofChange fnExactTermOkSpec)

/-- ITS FALSE NEIGHBOUR: 'it returns false'. Refute it at one input. -/
def fnExactTermOkWrong : ChangeSpec := { name := "fnExactTermOk", fn := fun _ => fun
  | [d] => { results := [.lit (.bool false)], args := [d] }
  | _ => none }
def FnExactTermOkWrongFalsely : Prop := fnExactTermOkRow.holds Try.pinned (OpenSpec.ofChange fnExactTermOkWrong)

/-- 'laws.FnExactReadRule': WHATEVER THE INPUT: true; the input reads as it did. -/
def fnExactReadRuleSpec : ChangeSpec := { name := "fnExactReadRule", fn := fun _ => fun
  | [d] => { results := [.lit (.bool true)], args := [d] }
  | _ => none }
def fnExactReadRuleRow : OpenClaim := { program := "ytlfjecaffmfgcaa", sum := "212167ead7464888aaac87c4503082735c067f480e501d6904aaec3099ea68e6", func := "loop.example/dutyrosters/laws.FnExactReadRule", spec := "fnExactReadRule", inPlace := ["internal/bytealg.IndexByteString"], recurses := true, plainKeys := false, apart := false }
def FnExactReadRuleSaid : Prop := fnExactReadRuleRow.holds Try.pinned (OpenSpec.ofChange fnExactReadRuleSpec)

/-- ITS FALSE NEIGHBOUR: 'it returns false'. Refute it at one input. -/
def fnExactReadRuleWrong : ChangeSpec := { name := "fnExactReadRule", fn := fun _ => fun
  | [d] => { results := [.lit (.bool false)], args := [d] }
  | _ => none }
def FnExactReadRuleWrongFalsely : Prop := fnExactReadRuleRow.holds Try.pinned (OpenSpec.ofChange fnExactReadRuleWrong)

/-- 'laws.FnExactRulesIn': WHATEVER THE INPUT: true; the input reads as it did. -/
def fnExactRulesInSpec : ChangeSpec := { name := "fnExactRulesIn", fn := fun _ => fun
  | [d] => { results := [.lit (.bool true)], args := [d] }
  | _ => none }
def fnExactRulesInRow : OpenClaim := { program := "ytlfjecaffmfgcaa", sum := "212167ead7464888aaac87c4503082735c067f480e501d6904aaec3099ea68e6", func := "loop.example/dutyrosters/laws.FnExactRulesIn", spec := "fnExactRulesIn", inPlace := ["internal/bytealg.IndexByteString"], unfollowed := true, recurses := true, plainKeys := false, apart := false }
def FnExactRulesInSaid : Prop := fnExactRulesInRow.holds Try.pinned (OpenSpec.ofChange fnExactRulesInSpec)

/-- ITS FALSE NEIGHBOUR: 'it returns false'. Refute it at one input. -/
def fnExactRulesInWrong : ChangeSpec := { name := "fnExactRulesIn", fn := fun _ => fun
  | [d] => { results := [.lit (.bool false)], args := [d] }
  | _ => none }
def FnExactRulesInWrongFalsely : Prop := fnExactRulesInRow.holds Try.pinned (OpenSpec.ofChange fnExactRulesInWrong)

/-- 'laws.FnExactLeastMachine': WHATEVER THE INPUT: true; the input reads as it did. -/
def fnExactLeastMachineSpec : ChangeSpec := { name := "fnExactLeastMachine", fn := fun _ => fun
  | [d] => { results := [.lit (.bool true)], args := [d] }
  | _ => none }
def fnExactLeastMachineRow : OpenClaim := { program := "ytlfjecaffmfgcaa", sum := "212167ead7464888aaac87c4503082735c067f480e501d6904aaec3099ea68e6", func := "loop.example/dutyrosters/laws.FnExactLeastMachine", spec := "fnExactLeastMachine", unfollowed := true, recurses := true, plainKeys := false, apart := false }
def FnExactLeastMachineSaid : Prop := fnExactLeastMachineRow.holds Try.pinned (OpenSpec.ofChange fnExactLeastMachineSpec)

/-- ITS FALSE NEIGHBOUR: 'it returns false'. Refute it at one input. -/
def fnExactLeastMachineWrong : ChangeSpec := { name := "fnExactLeastMachine", fn := fun _ => fun
  | [d] => { results := [.lit (.bool false)], args := [d] }
  | _ => none }
def FnExactLeastMachineWrongFalsely : Prop := fnExactLeastMachineRow.holds Try.pinned (OpenSpec.ofChange fnExactLeastMachineWrong)

/-- 'laws.FnExactSameOk': WHATEVER THE INPUT: true; the input reads as it did. -/
def fnExactSameOkSpec : ChangeSpec := { name := "fnExactSameOk", fn := fun _ => fun
  | [d1, d2] => { results := [.lit (.bool true)], args := [d1, d2] }
  | _ => none }
def fnExactSameOkRow : OpenClaim := { program := "ytlfjecaffmfgcaa", sum := "212167ead7464888aaac87c4503082735c067f480e501d6904aaec3099ea68e6", func := "loop.example/dutyrosters/laws.FnExactSameOk", spec := "fnExactSameOk", unfollowed := true, recurses := true, plainKeys := false, apart := false }
def FnExactSameOkSaid : Prop := fnExactSameOkRow.holds Try.pinned (OpenSpec.ofChange fnExactSameOkSpec)

/-- ITS FALSE NEIGHBOUR: 'it returns false'. Refute it at one input. -/
def fnExactSameOkWrong : ChangeSpec := { name := "fnExactSameOk", fn := fun _ => fun
  | [d1, d2] => { results := [.lit (.bool false)], args := [d1, d2] }
  | _ => none }
def FnExactSameOkWrongFalsely : Prop := fnExactSameOkRow.holds Try.pinned (OpenSpec.ofChange fnExactSameOkWrong)

/-- 'laws.FnExactBothMachines': WHATEVER THE INPUT: true; the input reads as it did. -/
def fnExactBothMachinesSpec : ChangeSpec := { name := "fnExactBothMachines", fn := fun _ => fun
  | [d1, d2] => { results := [.lit (.bool true)], args := [d1, d2] }
  | _ => none }
def fnExactBothMachinesRow : OpenClaim := { program := "ytlfjecaffmfgcaa", sum := "212167ead7464888aaac87c4503082735c067f480e501d6904aaec3099ea68e6", func := "loop.example/dutyrosters/laws.FnExactBothMachines", spec := "fnExactBothMachines", unfollowed := true, recurses := true, plainKeys := false, apart := false }
def FnExactBothMachinesSaid : Prop := fnExactBothMachinesRow.holds Try.pinned (OpenSpec.ofChange fnExactBothMachinesSpec)

/-- ITS FALSE NEIGHBOUR: 'it returns false'. Refute it at one input. -/
def fnExactBothMachinesWrong : ChangeSpec := { name := "fnExactBothMachines", fn := fun _ => fun
  | [d1, d2] => { results := [.lit (.bool false)], args := [d1, d2] }
  | _ => none }
def FnExactBothMachinesWrongFalsely : Prop := fnExactBothMachinesRow.holds Try.pinned (OpenSpec.ofChange fnExactBothMachinesWrong)

/-- 'laws.FnExactEitherMachine': WHATEVER THE INPUT: true; the input reads as it did. -/
def fnExactEitherMachineSpec : ChangeSpec := { name := "fnExactEitherMachine", fn := fun _ => fun
  | [d1, d2] => { results := [.lit (.bool true)], args := [d1, d2] }
  | _ => none }
def fnExactEitherMachineRow : OpenClaim := { program := "ytlfjecaffmfgcaa", sum := "212167ead7464888aaac87c4503082735c067f480e501d6904aaec3099ea68e6", func := "loop.example/dutyrosters/laws.FnExactEitherMachine", spec := "fnExactEitherMachine", unfollowed := true, recurses := true, plainKeys := false, apart := false }
def FnExactEitherMachineSaid : Prop := fnExactEitherMachineRow.holds Try.pinned (OpenSpec.ofChange fnExactEitherMachineSpec)

/-- ITS FALSE NEIGHBOUR: 'it returns false'. Refute it at one input. -/
def fnExactEitherMachineWrong : ChangeSpec := { name := "fnExactEitherMachine", fn := fun _ => fun
  | [d1, d2] => { results := [.lit (.bool false)], args := [d1, d2] }
  | _ => none }
def FnExactEitherMachineWrongFalsely : Prop := fnExactEitherMachineRow.holds Try.pinned (OpenSpec.ofChange fnExactEitherMachineWrong)

/-- 'laws.FnExactNotMachine': WHATEVER THE INPUT: true; the input reads as it did. -/
def fnExactNotMachineSpec : ChangeSpec := { name := "fnExactNotMachine", fn := fun _ => fun
  | [d] => { results := [.lit (.bool true)], args := [d] }
  | _ => none }
def fnExactNotMachineRow : OpenClaim := { program := "ytlfjecaffmfgcaa", sum := "212167ead7464888aaac87c4503082735c067f480e501d6904aaec3099ea68e6", func := "loop.example/dutyrosters/laws.FnExactNotMachine", spec := "fnExactNotMachine", unfollowed := true, recurses := true, plainKeys := false, apart := false }
def FnExactNotMachineSaid : Prop := fnExactNotMachineRow.holds Try.pinned (OpenSpec.ofChange fnExactNotMachineSpec)

/-- ITS FALSE NEIGHBOUR: 'it returns false'. Refute it at one input. -/
def fnExactNotMachineWrong : ChangeSpec := { name := "fnExactNotMachine", fn := fun _ => fun
  | [d] => { results := [.lit (.bool false)], args := [d] }
  | _ => none }
def FnExactNotMachineWrongFalsely : Prop := fnExactNotMachineRow.holds Try.pinned (OpenSpec.ofChange fnExactNotMachineWrong)

/-- 'laws.FnExactShortestTaken': WHATEVER THE INPUT: true; the input reads as it did. -/
def fnExactShortestTakenSpec : ChangeSpec := { name := "fnExactShortestTaken", fn := fun _ => fun
  | [d] => { results := [.lit (.bool true)], args := [d] }
  | _ => none }
def fnExactShortestTakenRow : OpenClaim := { program := "ytlfjecaffmfgcaa", sum := "212167ead7464888aaac87c4503082735c067f480e501d6904aaec3099ea68e6", func := "loop.example/dutyrosters/laws.FnExactShortestTaken", spec := "fnExactShortestTaken", inPlace := ["internal/bytealg.IndexByteString"], plainKeys := false, apart := false }
def FnExactShortestTakenSaid : Prop := fnExactShortestTakenRow.holds Try.pinned (OpenSpec.ofChange fnExactShortestTakenSpec)

/-- ITS FALSE NEIGHBOUR: 'it returns false'. Refute it at one input. -/
def fnExactShortestTakenWrong : ChangeSpec := { name := "fnExactShortestTaken", fn := fun _ => fun
  | [d] => { results := [.lit (.bool false)], args := [d] }
  | _ => none }
def FnExactShortestTakenWrongFalsely : Prop := fnExactShortestTakenRow.holds Try.pinned (OpenSpec.ofChange fnExactShortestTakenWrong)

/- THE SECOND FORM. 'bulk': how many values and letters a reading holds, each counted each time it is reached (what is shared counts as often as it is met; a slice's spare places count too). A statement '..UptoSaid' is the law's where the arguments, and the package variables that the reading takes, are together of bulk at most 1048576: NARROWER than '..Said'. Prove '..Said' where nothing that the law and all that it calls make is longer than what came in: it says more and counts as full. Else prove '..UptoSaid'. A law counts once. -/
mutual
def uptoBulk {H : Type} : DataW H → Nat
  | .lit (.string bytes) => bytes.length + 1
  | .lit _ => 1
  | .nil => 1
  | .ptr d => uptoBulk d + 1
  | .slice elems spare => uptoBulkAll elems + uptoBulkAll spare + 1
  | .agg parts => uptoBulkAll parts + 1
  | .iface _ d => uptoBulk d + 1
  | .map entries => uptoBulkEntries entries + 1
  | .held _ => 1
def uptoBulkAll {H : Type} : List (DataW H) → Nat
  | [] => 0
  | d :: r => uptoBulk d + uptoBulkAll r
def uptoBulkEntries {H : Type} : List (Lit × DataW H) → Nat
  | [] => 0
  | x :: r => uptoBulkEntry x + uptoBulkEntries r
def uptoBulkEntry {H : Type} : Lit × DataW H → Nat
  | (.string bytes, d) => bytes.length + uptoBulk d + 1
  | (_, d) => uptoBulk d + 1
 end
def uptoSmall : (H : Type) → List (DataW H) → Bool := fun _ ds => decide (uptoBulkAll ds ≤ 1048576)
def OpenSpec.upto (s : _root_.Go.ChangeSpec) : _root_.Go.OpenSpec := { _root_.Go.OpenSpec.ofChange s with cond := some uptoSmall }

/-- 'laws.FnExactTermOk', WHERE WHAT IT READS IS OF BULK AT MOST 1048576: true; the input reads as it did. -/
def fnExactTermOkUptoRow : OpenClaim := { program := "ytlfjecaffmfgcaa", sum := "212167ead7464888aaac87c4503082735c067f480e501d6904aaec3099ea68e6", func := "loop.example/dutyrosters/laws.FnExactTermOk", spec := "fnExactTermOk", inPlace := ["internal/bytealg.IndexByteString"], plainKeys := false, apart := false, narrowed := true }
def FnExactTermOkUptoSaid : Prop := fnExactTermOkUptoRow.holds Try.pinned (OpenSpec.upto fnExactTermOkSpec)

/-- 'laws.FnExactReadRule', WHERE WHAT IT READS IS OF BULK AT MOST 1048576: true; the input reads as it did. -/
def fnExactReadRuleUptoRow : OpenClaim := { program := "ytlfjecaffmfgcaa", sum := "212167ead7464888aaac87c4503082735c067f480e501d6904aaec3099ea68e6", func := "loop.example/dutyrosters/laws.FnExactReadRule", spec := "fnExactReadRule", inPlace := ["internal/bytealg.IndexByteString"], recurses := true, plainKeys := false, apart := false, narrowed := true }
def FnExactReadRuleUptoSaid : Prop := fnExactReadRuleUptoRow.holds Try.pinned (OpenSpec.upto fnExactReadRuleSpec)

/-- 'laws.FnExactRulesIn', WHERE WHAT IT READS IS OF BULK AT MOST 1048576: true; the input reads as it did. -/
def fnExactRulesInUptoRow : OpenClaim := { program := "ytlfjecaffmfgcaa", sum := "212167ead7464888aaac87c4503082735c067f480e501d6904aaec3099ea68e6", func := "loop.example/dutyrosters/laws.FnExactRulesIn", spec := "fnExactRulesIn", inPlace := ["internal/bytealg.IndexByteString"], unfollowed := true, recurses := true, plainKeys := false, apart := false, narrowed := true }
def FnExactRulesInUptoSaid : Prop := fnExactRulesInUptoRow.holds Try.pinned (OpenSpec.upto fnExactRulesInSpec)

/-- 'laws.FnExactLeastMachine', WHERE WHAT IT READS IS OF BULK AT MOST 1048576: true; the input reads as it did. -/
def fnExactLeastMachineUptoRow : OpenClaim := { program := "ytlfjecaffmfgcaa", sum := "212167ead7464888aaac87c4503082735c067f480e501d6904aaec3099ea68e6", func := "loop.example/dutyrosters/laws.FnExactLeastMachine", spec := "fnExactLeastMachine", unfollowed := true, recurses := true, plainKeys := false, apart := false, narrowed := true }
def FnExactLeastMachineUptoSaid : Prop := fnExactLeastMachineUptoRow.holds Try.pinned (OpenSpec.upto fnExactLeastMachineSpec)

/-- 'laws.FnExactSameOk', WHERE WHAT IT READS IS OF BULK AT MOST 1048576: true; the input reads as it did. -/
def fnExactSameOkUptoRow : OpenClaim := { program := "ytlfjecaffmfgcaa", sum := "212167ead7464888aaac87c4503082735c067f480e501d6904aaec3099ea68e6", func := "loop.example/dutyrosters/laws.FnExactSameOk", spec := "fnExactSameOk", unfollowed := true, recurses := true, plainKeys := false, apart := false, narrowed := true }
def FnExactSameOkUptoSaid : Prop := fnExactSameOkUptoRow.holds Try.pinned (OpenSpec.upto fnExactSameOkSpec)

/-- 'laws.FnExactBothMachines', WHERE WHAT IT READS IS OF BULK AT MOST 1048576: true; the input reads as it did. -/
def fnExactBothMachinesUptoRow : OpenClaim := { program := "ytlfjecaffmfgcaa", sum := "212167ead7464888aaac87c4503082735c067f480e501d6904aaec3099ea68e6", func := "loop.example/dutyrosters/laws.FnExactBothMachines", spec := "fnExactBothMachines", unfollowed := true, recurses := true, plainKeys := false, apart := false, narrowed := true }
def FnExactBothMachinesUptoSaid : Prop := fnExactBothMachinesUptoRow.holds Try.pinned (OpenSpec.upto fnExactBothMachinesSpec)

/-- 'laws.FnExactEitherMachine', WHERE WHAT IT READS IS OF BULK AT MOST 1048576: true; the input reads as it did. -/
def fnExactEitherMachineUptoRow : OpenClaim := { program := "ytlfjecaffmfgcaa", sum := "212167ead7464888aaac87c4503082735c067f480e501d6904aaec3099ea68e6", func := "loop.example/dutyrosters/laws.FnExactEitherMachine", spec := "fnExactEitherMachine", unfollowed := true, recurses := true, plainKeys := false, apart := false, narrowed := true }
def FnExactEitherMachineUptoSaid : Prop := fnExactEitherMachineUptoRow.holds Try.pinned (OpenSpec.upto fnExactEitherMachineSpec)

/-- 'laws.FnExactNotMachine', WHERE WHAT IT READS IS OF BULK AT MOST 1048576: true; the input reads as it did. -/
def fnExactNotMachineUptoRow : OpenClaim := { program := "ytlfjecaffmfgcaa", sum := "212167ead7464888aaac87c4503082735c067f480e501d6904aaec3099ea68e6", func := "loop.example/dutyrosters/laws.FnExactNotMachine", spec := "fnExactNotMachine", unfollowed := true, recurses := true, plainKeys := false, apart := false, narrowed := true }
def FnExactNotMachineUptoSaid : Prop := fnExactNotMachineUptoRow.holds Try.pinned (OpenSpec.upto fnExactNotMachineSpec)

/-- 'laws.FnExactShortestTaken', WHERE WHAT IT READS IS OF BULK AT MOST 1048576: true; the input reads as it did. -/
def fnExactShortestTakenUptoRow : OpenClaim := { program := "ytlfjecaffmfgcaa", sum := "212167ead7464888aaac87c4503082735c067f480e501d6904aaec3099ea68e6", func := "loop.example/dutyrosters/laws.FnExactShortestTaken", spec := "fnExactShortestTaken", inPlace := ["internal/bytealg.IndexByteString"], plainKeys := false, apart := false, narrowed := true }
def FnExactShortestTakenUptoSaid : Prop := fnExactShortestTakenUptoRow.holds Try.pinned (OpenSpec.upto fnExactShortestTakenSpec)

end Rows
end Go.Proofs.Ytlfjecaffmfgcaa

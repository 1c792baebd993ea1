/-
  No cell of these rows narrows 'for every input' (looked for: loops, veiled, ifaces, maps, wideKeys, modest, calm, conditions, laid).
  DERIVED. THE GIVEN ROWS OF THIS SEAT. 15 by the template 'for every input the law returns true; each argument reads behind the call as it read before'; 0 by the template 'total and deterministic' (their statements: YtpcependeealfaaTotals.lean).
  GIVEN WITH THE SEED: the statements are not yours to turn. If you find one false, say at which input.
  Laid BY PROGRAM, IN A SANDBOX (cutbox-rows.mjs): the forced cells as the released guide's own fill.sh prints them over the translation 75cd35364d47ff4f… (all of the seat's roots in one cut). By AI agents, Wed Nov 11 2026. No macro, syntax, notation, axiom, sorry.
-/
import Derived.Test.YtpcependeealfaaChecked
import GoSem.Claim
import GoSem.ClaimJoined
import GoSem.ClaimMapViews
import Derived.JoinedTies
import Derived.KernelRfl
namespace Go.Proofs.Ytpcependeealfaa
/- THE CELL 'sum', in the pinned program and in every row, IS THE sha256 OF THE DUMP (.gsa) THAT YtpcependeealfaaProg.lean LOADS. Nothing in Lean hashes anything: it is a label: what it is worth is what the hold of that sum in a sandbox is worth. -/
noncomputable def Try.pinned : Pinned := { name := "ytpcependeealfaa", sum := "75cd35364d47ff4f3c422621de96106638860f5e736e17dea24aeb0748fed174", checked := Try.checked }
namespace Rows
def none {H : Type} : Left H := { results := [], args := [] }

/-- 'laws.FnLeastMachine': WHATEVER THE INPUT: true; the input reads as it did. -/
def fnLeastMachineSpec : ChangeSpec := { name := "fnLeastMachine", fn := fun _ => fun
  | [d1, d2] => { results := [.lit (.bool true)], args := [d1, d2] }
  | _ => none }
def fnLeastMachineRow : OpenClaim := { program := "ytpcependeealfaa", sum := "75cd35364d47ff4f3c422621de96106638860f5e736e17dea24aeb0748fed174", func := "loop.example/dutyrosters/laws.FnLeastMachine", spec := "fnLeastMachine", inPlace := ["internal/bytealg.IndexByteString"], unfollowed := true, recurses := true, plainKeys := false, apart := false }
def FnLeastMachineSaid : Prop := fnLeastMachineRow.holds Try.pinned (OpenSpec.ofChange fnLeastMachineSpec)

/-- ITS FALSE NEIGHBOUR: 'it returns false'. Refute it at one input. -/
def fnLeastMachineWrong : ChangeSpec := { name := "fnLeastMachine", fn := fun _ => fun
  | [d1, d2] => { results := [.lit (.bool false)], args := [d1, d2] }
  | _ => none }
def FnLeastMachineWrongFalsely : Prop := fnLeastMachineRow.holds Try.pinned (OpenSpec.ofChange fnLeastMachineWrong)

/-- 'laws.FnTermOk': WHATEVER THE INPUT: true; the input reads as it did. -/
def fnTermOkSpec : ChangeSpec := { name := "fnTermOk", fn := fun _ => fun
  | [d] => { results := [.lit (.bool true)], args := [d] }
  | _ => none }
def fnTermOkRow : OpenClaim := { program := "ytpcependeealfaa", sum := "75cd35364d47ff4f3c422621de96106638860f5e736e17dea24aeb0748fed174", func := "loop.example/dutyrosters/laws.FnTermOk", spec := "fnTermOk", inPlace := ["internal/bytealg.IndexByteString"], plainKeys := false, apart := false }
def FnTermOkSaid : Prop := fnTermOkRow.holds Try.pinned (OpenSpec.ofChange fnTermOkSpec)

/-- ITS FALSE NEIGHBOUR: 'it returns false'. Refute it at one input. -/
def fnTermOkWrong : ChangeSpec := { name := "fnTermOk", fn := fun _ => fun
  | [d] => { results := [.lit (.bool false)], args := [d] }
  | _ => none }
def FnTermOkWrongFalsely : Prop := fnTermOkRow.holds Try.pinned (OpenSpec.ofChange fnTermOkWrong)

/-- 'laws.FnRulesIn': WHATEVER THE INPUT: true; the input reads as it did. -/
def fnRulesInSpec : ChangeSpec := { name := "fnRulesIn", fn := fun _ => fun
  | [d] => { results := [.lit (.bool true)], args := [d] }
  | _ => none }
def fnRulesInRow : OpenClaim := { program := "ytpcependeealfaa", sum := "75cd35364d47ff4f3c422621de96106638860f5e736e17dea24aeb0748fed174", func := "loop.example/dutyrosters/laws.FnRulesIn", spec := "fnRulesIn", inPlace := ["internal/bytealg.IndexByteString"], unfollowed := true, recurses := true, plainKeys := false, apart := false }
def FnRulesInSaid : Prop := fnRulesInRow.holds Try.pinned (OpenSpec.ofChange fnRulesInSpec)

/-- ITS FALSE NEIGHBOUR: 'it returns false'. Refute it at one input. -/
def fnRulesInWrong : ChangeSpec := { name := "fnRulesIn", fn := fun _ => fun
  | [d] => { results := [.lit (.bool false)], args := [d] }
  | _ => none }
def FnRulesInWrongFalsely : Prop := fnRulesInRow.holds Try.pinned (OpenSpec.ofChange fnRulesInWrong)

/-- 'laws.FnStateFrom': WHATEVER THE INPUT: true; the input reads as it did. -/
def fnStateFromSpec : ChangeSpec := { name := "fnStateFrom", fn := fun _ => fun
  | [d1, d2] => { results := [.lit (.bool true)], args := [d1, d2] }
  | _ => none }
def fnStateFromRow : OpenClaim := { program := "ytpcependeealfaa", sum := "75cd35364d47ff4f3c422621de96106638860f5e736e17dea24aeb0748fed174", func := "loop.example/dutyrosters/laws.FnStateFrom", spec := "fnStateFrom", inPlace := ["internal/bytealg.IndexByteString"], unfollowed := true, recurses := true, plainKeys := false, apart := false }
def FnStateFromSaid : Prop := fnStateFromRow.holds Try.pinned (OpenSpec.ofChange fnStateFromSpec)

/-- ITS FALSE NEIGHBOUR: 'it returns false'. Refute it at one input. -/
def fnStateFromWrong : ChangeSpec := { name := "fnStateFrom", fn := fun _ => fun
  | [d1, d2] => { results := [.lit (.bool false)], args := [d1, d2] }
  | _ => none }
def FnStateFromWrongFalsely : Prop := fnStateFromRow.holds Try.pinned (OpenSpec.ofChange fnStateFromWrong)

/-- 'laws.FnRingState': WHATEVER THE INPUT: true; the input reads as it did. -/
def fnRingStateSpec : ChangeSpec := { name := "fnRingState", fn := fun _ => fun
  | [d] => { results := [.lit (.bool true)], args := [d] }
  | _ => none }
def fnRingStateRow : OpenClaim := { program := "ytpcependeealfaa", sum := "75cd35364d47ff4f3c422621de96106638860f5e736e17dea24aeb0748fed174", func := "loop.example/dutyrosters/laws.FnRingState", spec := "fnRingState", inPlace := ["internal/bytealg.IndexByteString"], unfollowed := true, recurses := true, plainKeys := false, apart := false }
def FnRingStateSaid : Prop := fnRingStateRow.holds Try.pinned (OpenSpec.ofChange fnRingStateSpec)

/-- ITS FALSE NEIGHBOUR: 'it returns false'. Refute it at one input. -/
def fnRingStateWrong : ChangeSpec := { name := "fnRingState", fn := fun _ => fun
  | [d] => { results := [.lit (.bool false)], args := [d] }
  | _ => none }
def FnRingStateWrongFalsely : Prop := fnRingStateRow.holds Try.pinned (OpenSpec.ofChange fnRingStateWrong)

/-- 'laws.FnRingOk': WHATEVER THE INPUT: true; the input reads as it did. -/
def fnRingOkSpec : ChangeSpec := { name := "fnRingOk", fn := fun _ => fun
  | [d] => { results := [.lit (.bool true)], args := [d] }
  | _ => none }
def fnRingOkRow : OpenClaim := { program := "ytpcependeealfaa", sum := "75cd35364d47ff4f3c422621de96106638860f5e736e17dea24aeb0748fed174", func := "loop.example/dutyrosters/laws.FnRingOk", spec := "fnRingOk", inPlace := ["internal/bytealg.IndexByteString"], unfollowed := true, recurses := true, plainKeys := false, apart := false }
def FnRingOkSaid : Prop := fnRingOkRow.holds Try.pinned (OpenSpec.ofChange fnRingOkSpec)

/-- ITS FALSE NEIGHBOUR: 'it returns false'. Refute it at one input. -/
def fnRingOkWrong : ChangeSpec := { name := "fnRingOk", fn := fun _ => fun
  | [d] => { results := [.lit (.bool false)], args := [d] }
  | _ => none }
def FnRingOkWrongFalsely : Prop := fnRingOkRow.holds Try.pinned (OpenSpec.ofChange fnRingOkWrong)

/-- 'laws.FnLeastRoll': WHATEVER THE INPUT: true; the input reads as it did. -/
def fnLeastRollSpec : ChangeSpec := { name := "fnLeastRoll", fn := fun _ => fun
  | [d] => { results := [.lit (.bool true)], args := [d] }
  | _ => none }
def fnLeastRollRow : OpenClaim := { program := "ytpcependeealfaa", sum := "75cd35364d47ff4f3c422621de96106638860f5e736e17dea24aeb0748fed174", func := "loop.example/dutyrosters/laws.FnLeastRoll", spec := "fnLeastRoll", inPlace := ["internal/bytealg.IndexByteString"], unfollowed := true, recurses := true, plainKeys := false, apart := false }
def FnLeastRollSaid : Prop := fnLeastRollRow.holds Try.pinned (OpenSpec.ofChange fnLeastRollSpec)

/-- ITS FALSE NEIGHBOUR: 'it returns false'. Refute it at one input. -/
def fnLeastRollWrong : ChangeSpec := { name := "fnLeastRoll", fn := fun _ => fun
  | [d] => { results := [.lit (.bool false)], args := [d] }
  | _ => none }
def FnLeastRollWrongFalsely : Prop := fnLeastRollRow.holds Try.pinned (OpenSpec.ofChange fnLeastRollWrong)

/-- 'laws.FnRollsOf': WHATEVER THE INPUT: true; the input reads as it did. -/
def fnRollsOfSpec : ChangeSpec := { name := "fnRollsOf", fn := fun _ => fun
  | [d] => { results := [.lit (.bool true)], args := [d] }
  | _ => none }
def fnRollsOfRow : OpenClaim := { program := "ytpcependeealfaa", sum := "75cd35364d47ff4f3c422621de96106638860f5e736e17dea24aeb0748fed174", func := "loop.example/dutyrosters/laws.FnRollsOf", spec := "fnRollsOf", inPlace := ["internal/bytealg.IndexByteString"], unfollowed := true, recurses := true, plainKeys := false, apart := false }
def FnRollsOfSaid : Prop := fnRollsOfRow.holds Try.pinned (OpenSpec.ofChange fnRollsOfSpec)

/-- ITS FALSE NEIGHBOUR: 'it returns false'. Refute it at one input. -/
def fnRollsOfWrong : ChangeSpec := { name := "fnRollsOf", fn := fun _ => fun
  | [d] => { results := [.lit (.bool false)], args := [d] }
  | _ => none }
def FnRollsOfWrongFalsely : Prop := fnRollsOfRow.holds Try.pinned (OpenSpec.ofChange fnRollsOfWrong)

/-- 'laws.FnExactStateFrom': WHATEVER THE INPUT: true; the input reads as it did. -/
def fnExactStateFromSpec : ChangeSpec := { name := "fnExactStateFrom", fn := fun _ => fun
  | [d1, d2, d3] => { results := [.lit (.bool true)], args := [d1, d2, d3] }
  | _ => none }
def fnExactStateFromRow : OpenClaim := { program := "ytpcependeealfaa", sum := "75cd35364d47ff4f3c422621de96106638860f5e736e17dea24aeb0748fed174", func := "loop.example/dutyrosters/laws.FnExactStateFrom", spec := "fnExactStateFrom", inPlace := ["internal/bytealg.IndexByteString"], unfollowed := true, recurses := true, plainKeys := false, apart := false }
def FnExactStateFromSaid : Prop := fnExactStateFromRow.holds Try.pinned (OpenSpec.ofChange fnExactStateFromSpec)

/-- ITS FALSE NEIGHBOUR: 'it returns false'. Refute it at one input. -/
def fnExactStateFromWrong : ChangeSpec := { name := "fnExactStateFrom", fn := fun _ => fun
  | [d1, d2, d3] => { results := [.lit (.bool false)], args := [d1, d2, d3] }
  | _ => none }
def FnExactStateFromWrongFalsely : Prop := fnExactStateFromRow.holds Try.pinned (OpenSpec.ofChange fnExactStateFromWrong)

/-- 'laws.FnExactRingState': WHATEVER THE INPUT: true; the input reads as it did. -/
def fnExactRingStateSpec : ChangeSpec := { name := "fnExactRingState", fn := fun _ => fun
  | [d1, d2] => { results := [.lit (.bool true)], args := [d1, d2] }
  | _ => none }
def fnExactRingStateRow : OpenClaim := { program := "ytpcependeealfaa", sum := "75cd35364d47ff4f3c422621de96106638860f5e736e17dea24aeb0748fed174", func := "loop.example/dutyrosters/laws.FnExactRingState", spec := "fnExactRingState", inPlace := ["internal/bytealg.IndexByteString"], unfollowed := true, recurses := true, plainKeys := false, apart := false }
def FnExactRingStateSaid : Prop := fnExactRingStateRow.holds Try.pinned (OpenSpec.ofChange fnExactRingStateSpec)

/-- ITS FALSE NEIGHBOUR: 'it returns false'. Refute it at one input. -/
def fnExactRingStateWrong : ChangeSpec := { name := "fnExactRingState", fn := fun _ => fun
  | [d1, d2] => { results := [.lit (.bool false)], args := [d1, d2] }
  | _ => none }
def FnExactRingStateWrongFalsely : Prop := fnExactRingStateRow.holds Try.pinned (OpenSpec.ofChange fnExactRingStateWrong)

/-- 'laws.FnExactRingOk': WHATEVER THE INPUT: true; the input reads as it did. -/
def fnExactRingOkSpec : ChangeSpec := { name := "fnExactRingOk", fn := fun _ => fun
  | [d1, d2] => { results := [.lit (.bool true)], args := [d1, d2] }
  | _ => none }
def fnExactRingOkRow : OpenClaim := { program := "ytpcependeealfaa", sum := "75cd35364d47ff4f3c422621de96106638860f5e736e17dea24aeb0748fed174", func := "loop.example/dutyrosters/laws.FnExactRingOk", spec := "fnExactRingOk", inPlace := ["internal/bytealg.IndexByteString"], unfollowed := true, recurses := true, plainKeys := false, apart := false }
def FnExactRingOkSaid : Prop := fnExactRingOkRow.holds Try.pinned (OpenSpec.ofChange fnExactRingOkSpec)

/-- ITS FALSE NEIGHBOUR: 'it returns false'. Refute it at one input. -/
def fnExactRingOkWrong : ChangeSpec := { name := "fnExactRingOk", fn := fun _ => fun
  | [d1, d2] => { results := [.lit (.bool false)], args := [d1, d2] }
  | _ => none }
def FnExactRingOkWrongFalsely : Prop := fnExactRingOkRow.holds Try.pinned (OpenSpec.ofChange fnExactRingOkWrong)

/-- 'laws.FnExactCountWalks': WHATEVER THE INPUT: true; the input reads as it did. -/
def fnExactCountWalksSpec : ChangeSpec := { name := "fnExactCountWalks", fn := fun _ => fun
  | [d1, d2] => { results := [.lit (.bool true)], args := [d1, d2] }
  | _ => none }
def fnExactCountWalksRow : OpenClaim := { program := "ytpcependeealfaa", sum := "75cd35364d47ff4f3c422621de96106638860f5e736e17dea24aeb0748fed174", func := "loop.example/dutyrosters/laws.FnExactCountWalks", spec := "fnExactCountWalks", plainKeys := false, apart := false }
def FnExactCountWalksSaid : Prop := fnExactCountWalksRow.holds Try.pinned (OpenSpec.ofChange fnExactCountWalksSpec)

/-- ITS FALSE NEIGHBOUR: 'it returns false'. Refute it at one input. -/
def fnExactCountWalksWrong : ChangeSpec := { name := "fnExactCountWalks", fn := fun _ => fun
  | [d1, d2] => { results := [.lit (.bool false)], args := [d1, d2] }
  | _ => none }
def FnExactCountWalksWrongFalsely : Prop := fnExactCountWalksRow.holds Try.pinned (OpenSpec.ofChange fnExactCountWalksWrong)

/-- 'laws.FnExactLeastRoll': WHATEVER THE INPUT: true; the input reads as it did. -/
def fnExactLeastRollSpec : ChangeSpec := { name := "fnExactLeastRoll", fn := fun _ => fun
  | [d] => { results := [.lit (.bool true)], args := [d] }
  | _ => none }
def fnExactLeastRollRow : OpenClaim := { program := "ytpcependeealfaa", sum := "75cd35364d47ff4f3c422621de96106638860f5e736e17dea24aeb0748fed174", func := "loop.example/dutyrosters/laws.FnExactLeastRoll", spec := "fnExactLeastRoll", inPlace := ["internal/bytealg.IndexByteString"], unfollowed := true, recurses := true, plainKeys := false, apart := false }
def FnExactLeastRollSaid : Prop := fnExactLeastRollRow.holds Try.pinned (OpenSpec.ofChange fnExactLeastRollSpec)

/-- ITS FALSE NEIGHBOUR: 'it returns false'. Refute it at one input. -/
def fnExactLeastRollWrong : ChangeSpec := { name := "fnExactLeastRoll", fn := fun _ => fun
  | [d] => { results := [.lit (.bool false)], args := [d] }
  | _ => none }
def FnExactLeastRollWrongFalsely : Prop := fnExactLeastRollRow.holds Try.pinned (OpenSpec.ofChange fnExactLeastRollWrong)

/-- 'laws.FnExactRollsOf': WHATEVER THE INPUT: true; the input reads as it did. -/
def fnExactRollsOfSpec : ChangeSpec := { name := "fnExactRollsOf", fn := fun _ => fun
  | [d] => { results := [.lit (.bool true)], args := [d] }
  | _ => none }
def fnExactRollsOfRow : OpenClaim := { program := "ytpcependeealfaa", sum := "75cd35364d47ff4f3c422621de96106638860f5e736e17dea24aeb0748fed174", func := "loop.example/dutyrosters/laws.FnExactRollsOf", spec := "fnExactRollsOf", inPlace := ["internal/bytealg.IndexByteString"], unfollowed := true, recurses := true, plainKeys := false, apart := false }
def FnExactRollsOfSaid : Prop := fnExactRollsOfRow.holds Try.pinned (OpenSpec.ofChange fnExactRollsOfSpec)

/-- ITS FALSE NEIGHBOUR: 'it returns false'. Refute it at one input. -/
def fnExactRollsOfWrong : ChangeSpec := { name := "fnExactRollsOf", fn := fun _ => fun
  | [d] => { results := [.lit (.bool false)], args := [d] }
  | _ => none }
def FnExactRollsOfWrongFalsely : Prop := fnExactRollsOfRow.holds Try.pinned (OpenSpec.ofChange fnExactRollsOfWrong)

/-- 'laws.FnExactCountNecklaces': WHATEVER THE INPUT: true; the input reads as it did. -/
def fnExactCountNecklacesSpec : ChangeSpec := { name := "fnExactCountNecklaces", fn := fun _ => fun
  | [d1, d2] => { results := [.lit (.bool true)], args := [d1, d2] }
  | _ => none }
def fnExactCountNecklacesRow : OpenClaim := { program := "ytpcependeealfaa", sum := "75cd35364d47ff4f3c422621de96106638860f5e736e17dea24aeb0748fed174", func := "loop.example/dutyrosters/laws.FnExactCountNecklaces", spec := "fnExactCountNecklaces", inPlace := ["internal/bytealg.IndexByteString"], unfollowed := true, recurses := true, plainKeys := false, apart := false }
def FnExactCountNecklacesSaid : Prop := fnExactCountNecklacesRow.holds Try.pinned (OpenSpec.ofChange fnExactCountNecklacesSpec)

/-- ITS FALSE NEIGHBOUR: 'it returns false'. Refute it at one input. -/
def fnExactCountNecklacesWrong : ChangeSpec := { name := "fnExactCountNecklaces", fn := fun _ => fun
  | [d1, d2] => { results := [.lit (.bool false)], args := [d1, d2] }
  | _ => none }
def FnExactCountNecklacesWrongFalsely : Prop := fnExactCountNecklacesRow.holds Try.pinned (OpenSpec.ofChange fnExactCountNecklacesWrong)

/- THE SECOND FORM. 'bulk': how many values and letters a reading holds, each counted each time it is reached (what is shared counts as often as it is met; a slice's spare places count too). A statement '..UptoSaid' is the law's where the arguments, and the package variables that the reading takes, are together of bulk at most 1048576: NARROWER than '..Said'. Prove '..Said' where nothing that the law and all that it calls make is longer than what came in: it says more and counts as full. Else prove '..UptoSaid'. A law counts once. -/
mutual
def uptoBulk {H : Type} : DataW H → Nat
  | .lit (.string bytes) => bytes.length + 1
  | .lit _ => 1
  | .nil => 1
  | .ptr d => uptoBulk d + 1
  | .slice elems spare => uptoBulkAll elems + uptoBulkAll spare + 1
  | .agg parts => uptoBulkAll parts + 1
  | .iface _ d => uptoBulk d + 1
  | .map entries => uptoBulkEntries entries + 1
  | .held _ => 1
def uptoBulkAll {H : Type} : List (DataW H) → Nat
  | [] => 0
  | d :: r => uptoBulk d + uptoBulkAll r
def uptoBulkEntries {H : Type} : List (Lit × DataW H) → Nat
  | [] => 0
  | x :: r => uptoBulkEntry x + uptoBulkEntries r
def uptoBulkEntry {H : Type} : Lit × DataW H → Nat
  | (.string bytes, d) => bytes.length + uptoBulk d + 1
  | (_, d) => uptoBulk d + 1
 end
def uptoSmall : (H : Type) → List (DataW H) → Bool := fun _ ds => decide (uptoBulkAll ds ≤ 1048576)
def OpenSpec.upto (s : _root_.Go.ChangeSpec) : _root_.Go.OpenSpec := { _root_.Go.OpenSpec.ofChange s with cond := some uptoSmall }

/-- 'laws.FnLeastMachine', WHERE WHAT IT READS IS OF BULK AT MOST 1048576: true; the input reads as it did. -/
def fnLeastMachineUptoRow : OpenClaim := { program := "ytpcependeealfaa", sum := "75cd35364d47ff4f3c422621de96106638860f5e736e17dea24aeb0748fed174", func := "loop.example/dutyrosters/laws.FnLeastMachine", spec := "fnLeastMachine", inPlace := ["internal/bytealg.IndexByteString"], unfollowed := true, recurses := true, plainKeys := false, apart := false, narrowed := true }
def FnLeastMachineUptoSaid : Prop := fnLeastMachineUptoRow.holds Try.pinned (OpenSpec.upto fnLeastMachineSpec)

/-- 'laws.FnTermOk', WHERE WHAT IT READS IS OF BULK AT MOST 1048576: true; the input reads as it did. -/
def fnTermOkUptoRow : OpenClaim := { program := "ytpcependeealfaa", sum := "75cd35364d47ff4f3c422621de96106638860f5e736e17dea24aeb0748fed174", func := "loop.example/dutyrosters/laws.FnTermOk", spec := "fnTermOk", inPlace := ["internal/bytealg.IndexByteString"], plainKeys := false, apart := false, narrowed := true }
def FnTermOkUptoSaid : Prop := fnTermOkUptoRow.holds Try.pinned (OpenSpec.upto fnTermOkSpec)

/-- 'laws.FnRulesIn', WHERE WHAT IT READS IS OF BULK AT MOST 1048576: true; the input reads as it did. -/
def fnRulesInUptoRow : OpenClaim := { program := "ytpcependeealfaa", sum := "75cd35364d47ff4f3c422621de96106638860f5e736e17dea24aeb0748fed174", func := "loop.example/dutyrosters/laws.FnRulesIn", spec := "fnRulesIn", inPlace := ["internal/bytealg.IndexByteString"], unfollowed := true, recurses := true, plainKeys := false, apart := false, narrowed := true }
def FnRulesInUptoSaid : Prop := fnRulesInUptoRow.holds Try.pinned (OpenSpec.upto fnRulesInSpec)

/-- 'laws.FnStateFrom', WHERE WHAT IT READS IS OF BULK AT MOST 1048576: true; the input reads as it did. -/
def fnStateFromUptoRow : OpenClaim := { program := "ytpcependeealfaa", sum := "75cd35364d47ff4f3c422621de96106638860f5e736e17dea24aeb0748fed174", func := "loop.example/dutyrosters/laws.FnStateFrom", spec := "fnStateFrom", inPlace := ["internal/bytealg.IndexByteString"], unfollowed := true, recurses := true, plainKeys := false, apart := false, narrowed := true }
def FnStateFromUptoSaid : Prop := fnStateFromUptoRow.holds Try.pinned (OpenSpec.upto fnStateFromSpec)

/-- 'laws.FnRingState', WHERE WHAT IT READS IS OF BULK AT MOST 1048576: true; the input reads as it did. -/
def fnRingStateUptoRow : OpenClaim := { program := "ytpcependeealfaa", sum := "75cd35364d47ff4f3c422621de96106638860f5e736e17dea24aeb0748fed174", func := "loop.example/dutyrosters/laws.FnRingState", spec := "fnRingState", inPlace := ["internal/bytealg.IndexByteString"], unfollowed := true, recurses := true, plainKeys := false, apart := false, narrowed := true }
def FnRingStateUptoSaid : Prop := fnRingStateUptoRow.holds Try.pinned (OpenSpec.upto fnRingStateSpec)

/-- 'laws.FnRingOk', WHERE WHAT IT READS IS OF BULK AT MOST 1048576: true; the input reads as it did. -/
def fnRingOkUptoRow : OpenClaim := { program := "ytpcependeealfaa", sum := "75cd35364d47ff4f3c422621de96106638860f5e736e17dea24aeb0748fed174", func := "loop.example/dutyrosters/laws.FnRingOk", spec := "fnRingOk", inPlace := ["internal/bytealg.IndexByteString"], unfollowed := true, recurses := true, plainKeys := false, apart := false, narrowed := true }
def FnRingOkUptoSaid : Prop := fnRingOkUptoRow.holds Try.pinned (OpenSpec.upto fnRingOkSpec)

/-- 'laws.FnLeastRoll', WHERE WHAT IT READS IS OF BULK AT MOST 1048576: true; the input reads as it did. -/
def fnLeastRollUptoRow : OpenClaim := { program := "ytpcependeealfaa", sum := "75cd35364d47ff4f3c422621de96106638860f5e736e17dea24aeb0748fed174", func := "loop.example/dutyrosters/laws.FnLeastRoll", spec := "fnLeastRoll", inPlace := ["internal/bytealg.IndexByteString"], unfollowed := true, recurses := true, plainKeys := false, apart := false, narrowed := true }
def FnLeastRollUptoSaid : Prop := fnLeastRollUptoRow.holds Try.pinned (OpenSpec.upto fnLeastRollSpec)

/-- 'laws.FnRollsOf', WHERE WHAT IT READS IS OF BULK AT MOST 1048576: true; the input reads as it did. -/
def fnRollsOfUptoRow : OpenClaim := { program := "ytpcependeealfaa", sum := "75cd35364d47ff4f3c422621de96106638860f5e736e17dea24aeb0748fed174", func := "loop.example/dutyrosters/laws.FnRollsOf", spec := "fnRollsOf", inPlace := ["internal/bytealg.IndexByteString"], unfollowed := true, recurses := true, plainKeys := false, apart := false, narrowed := true }
def FnRollsOfUptoSaid : Prop := fnRollsOfUptoRow.holds Try.pinned (OpenSpec.upto fnRollsOfSpec)

/-- 'laws.FnExactStateFrom', WHERE WHAT IT READS IS OF BULK AT MOST 1048576: true; the input reads as it did. -/
def fnExactStateFromUptoRow : OpenClaim := { program := "ytpcependeealfaa", sum := "75cd35364d47ff4f3c422621de96106638860f5e736e17dea24aeb0748fed174", func := "loop.example/dutyrosters/laws.FnExactStateFrom", spec := "fnExactStateFrom", inPlace := ["internal/bytealg.IndexByteString"], unfollowed := true, recurses := true, plainKeys := false, apart := false, narrowed := true }
def FnExactStateFromUptoSaid : Prop := fnExactStateFromUptoRow.holds Try.pinned (OpenSpec.upto fnExactStateFromSpec)

/-- 'laws.FnExactRingState', WHERE WHAT IT READS IS OF BULK AT MOST 1048576: true; the input reads as it did. -/
def fnExactRingStateUptoRow : OpenClaim := { program := "ytpcependeealfaa", sum := "75cd35364d47ff4f3c422621de96106638860f5e736e17dea24aeb0748fed174", func := "loop.example/dutyrosters/laws.FnExactRingState", spec := "fnExactRingState", inPlace := ["internal/bytealg.IndexByteString"], unfollowed := true, recurses := true, plainKeys := false, apart := false, narrowed := true }
def FnExactRingStateUptoSaid : Prop := fnExactRingStateUptoRow.holds Try.pinned (OpenSpec.upto fnExactRingStateSpec)

/-- 'laws.FnExactRingOk', WHERE WHAT IT READS IS OF BULK AT MOST 1048576: true; the input reads as it did. -/
def fnExactRingOkUptoRow : OpenClaim := { program := "ytpcependeealfaa", sum := "75cd35364d47ff4f3c422621de96106638860f5e736e17dea24aeb0748fed174", func := "loop.example/dutyrosters/laws.FnExactRingOk", spec := "fnExactRingOk", inPlace := ["internal/bytealg.IndexByteString"], unfollowed := true, recurses := true, plainKeys := false, apart := false, narrowed := true }
def FnExactRingOkUptoSaid : Prop := fnExactRingOkUptoRow.holds Try.pinned (OpenSpec.upto fnExactRingOkSpec)

/-- 'laws.FnExactCountWalks', WHERE WHAT IT READS IS OF BULK AT MOST 1048576: true; the input reads as it did. -/
def fnExactCountWalksUptoRow : OpenClaim := { program := "ytpcependeealfaa", sum := "75cd35364d47ff4f3c422621de96106638860f5e736e17dea24aeb0748fed174", func := "loop.example/dutyrosters/laws.FnExactCountWalks", spec := "fnExactCountWalks", plainKeys := false, apart := false, narrowed := true }
def FnExactCountWalksUptoSaid : Prop := fnExactCountWalksUptoRow.holds Try.pinned (OpenSpec.upto fnExactCountWalksSpec)

/-- 'laws.FnExactLeastRoll', WHERE WHAT IT READS IS OF BULK AT MOST 1048576: true; the input reads as it did. -/
def fnExactLeastRollUptoRow : OpenClaim := { program := "ytpcependeealfaa", sum := "75cd35364d47ff4f3c422621de96106638860f5e736e17dea24aeb0748fed174", func := "loop.example/dutyrosters/laws.FnExactLeastRoll", spec := "fnExactLeastRoll", inPlace := ["internal/bytealg.IndexByteString"], unfollowed := true, recurses := true, plainKeys := false, apart := false, narrowed := true }
def FnExactLeastRollUptoSaid : Prop := fnExactLeastRollUptoRow.holds Try.pinned (OpenSpec.upto fnExactLeastRollSpec)

/-- 'laws.FnExactRollsOf', WHERE WHAT IT READS IS OF BULK AT MOST 1048576: true; the input reads as it did. -/
def fnExactRollsOfUptoRow : OpenClaim := { program := "ytpcependeealfaa", sum := "75cd35364d47ff4f3c422621de96106638860f5e736e17dea24aeb0748fed174", func := "loop.example/dutyrosters/laws.FnExactRollsOf", spec := "fnExactRollsOf", inPlace := ["internal/bytealg.IndexByteString"], unfollowed := true, recurses := true, plainKeys := false, apart := false, narrowed := true }
def FnExactRollsOfUptoSaid : Prop := fnExactRollsOfUptoRow.holds Try.pinned (OpenSpec.upto fnExactRollsOfSpec)

/-- 'laws.FnExactCountNecklaces', WHERE WHAT IT READS IS OF BULK AT MOST 1048576: true; the input reads as it did. -/
def fnExactCountNecklacesUptoRow : OpenClaim := { program := "ytpcependeealfaa", sum := "75cd35364d47ff4f3c422621de96106638860f5e736e17dea24aeb0748fed174", func := "loop.example/dutyrosters/laws.FnExactCountNecklaces", spec := "fnExactCountNecklaces", inPlace := ["internal/bytealg.IndexByteString"], unfollowed := true, recurses := true, plainKeys := false, apart := false, narrowed := true }
def FnExactCountNecklacesUptoSaid : Prop := fnExactCountNecklacesUptoRow.holds Try.pinned (OpenSpec.upto fnExactCountNecklacesSpec)

end Rows
end Go.Proofs.Ytpcependeealfaa

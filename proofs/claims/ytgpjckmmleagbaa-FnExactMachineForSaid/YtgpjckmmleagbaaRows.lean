/-
  No cell of these rows narrows 'for every input' (looked for: loops, veiled, ifaces, maps, wideKeys, modest, calm, conditions, laid).
  DERIVED. THE GIVEN ROWS OF THIS SEAT. 12 by the template 'for every input the law returns true; each argument reads behind the call as it read before'; 0 by the template 'total and deterministic' (their statements: YtgpjckmmleagbaaTotals.lean).
  GIVEN WITH THE SEED: the statements are not yours to turn. If you find one false, say at which input.
  Laid BY PROGRAM, IN A SANDBOX (cutbox-rows.mjs): the forced cells as the released guide's own fill.sh prints them over the translation d23ffcebde7b694a… (all of the seat's roots in one cut). By AI agents, Wed Nov 11 2026. No macro, syntax, notation, axiom, sorry.
-/
import Derived.Test.YtgpjckmmleagbaaChecked
import GoSem.Claim
import GoSem.ClaimJoined
import GoSem.ClaimMapViews
import Derived.JoinedTies
import Derived.KernelRfl
namespace Go.Proofs.Ytgpjckmmleagbaa
/- THE CELL 'sum', in the pinned program and in every row, IS THE sha256 OF THE DUMP (.gsa) THAT YtgpjckmmleagbaaProg.lean LOADS. Nothing in Lean hashes anything: it is a label: what it is worth is what the hold of that sum in a sandbox is worth. -/
noncomputable def Try.pinned : Pinned := { name := "ytgpjckmmleagbaa", sum := "d23ffcebde7b694a5252b00cf2177f24205f0dad76b74b06378de3bb9ee478de", checked := Try.checked }
namespace Rows
def none {H : Type} : Left H := { results := [], args := [] }

/-- 'laws.FnExactTakesOk': WHATEVER THE INPUT: true; the input reads as it did. -/
def fnExactTakesOkSpec : ChangeSpec := { name := "fnExactTakesOk", fn := fun _ => fun
  | [d1, d2] => { results := [.lit (.bool true)], args := [d1, d2] }
  | _ => none }
def fnExactTakesOkRow : OpenClaim := { program := "ytgpjckmmleagbaa", sum := "d23ffcebde7b694a5252b00cf2177f24205f0dad76b74b06378de3bb9ee478de", func := "loop.example/dutyrosters/laws.FnExactTakesOk", spec := "fnExactTakesOk", inPlace := ["internal/bytealg.IndexByteString"], plainKeys := false, apart := false }
def FnExactTakesOkSaid : Prop := fnExactTakesOkRow.holds Try.pinned (OpenSpec.ofChange fnExactTakesOkSpec)

/-- ITS FALSE NEIGHBOUR: 'it returns false'. Refute it at one input. -/
def fnExactTakesOkWrong : ChangeSpec := { name := "fnExactTakesOk", fn := fun _ => fun
  | [d1, d2] => { results := [.lit (.bool false)], args := [d1, d2] }
  | _ => none }
def FnExactTakesOkWrongFalsely : Prop := fnExactTakesOkRow.holds Try.pinned (OpenSpec.ofChange fnExactTakesOkWrong)

/-- 'laws.FnExactTrimmedMachine': WHATEVER THE INPUT: true; the input reads as it did. -/
def fnExactTrimmedMachineSpec : ChangeSpec := { name := "fnExactTrimmedMachine", fn := fun _ => fun
  | [d] => { results := [.lit (.bool true)], args := [d] }
  | _ => none }
def fnExactTrimmedMachineRow : OpenClaim := { program := "ytgpjckmmleagbaa", sum := "d23ffcebde7b694a5252b00cf2177f24205f0dad76b74b06378de3bb9ee478de", func := "loop.example/dutyrosters/laws.FnExactTrimmedMachine", spec := "fnExactTrimmedMachine", unfollowed := true, recurses := true, plainKeys := false, apart := false }
def FnExactTrimmedMachineSaid : Prop := fnExactTrimmedMachineRow.holds Try.pinned (OpenSpec.ofChange fnExactTrimmedMachineSpec)

/-- ITS FALSE NEIGHBOUR: 'it returns false'. Refute it at one input. -/
def fnExactTrimmedMachineWrong : ChangeSpec := { name := "fnExactTrimmedMachine", fn := fun _ => fun
  | [d] => { results := [.lit (.bool false)], args := [d] }
  | _ => none }
def FnExactTrimmedMachineWrongFalsely : Prop := fnExactTrimmedMachineRow.holds Try.pinned (OpenSpec.ofChange fnExactTrimmedMachineWrong)

/-- 'laws.FnExactLeastMachine': WHATEVER THE INPUT: true; the input reads as it did. -/
def fnExactLeastMachineSpec : ChangeSpec := { name := "fnExactLeastMachine", fn := fun _ => fun
  | [d] => { results := [.lit (.bool true)], args := [d] }
  | _ => none }
def fnExactLeastMachineRow : OpenClaim := { program := "ytgpjckmmleagbaa", sum := "d23ffcebde7b694a5252b00cf2177f24205f0dad76b74b06378de3bb9ee478de", func := "loop.example/dutyrosters/laws.FnExactLeastMachine", spec := "fnExactLeastMachine", unfollowed := true, recurses := true, plainKeys := false, apart := false }
def FnExactLeastMachineSaid : Prop := fnExactLeastMachineRow.holds Try.pinned (OpenSpec.ofChange fnExactLeastMachineSpec)

/-- ITS FALSE NEIGHBOUR: 'it returns false'. Refute it at one input. -/
def fnExactLeastMachineWrong : ChangeSpec := { name := "fnExactLeastMachine", fn := fun _ => fun
  | [d] => { results := [.lit (.bool false)], args := [d] }
  | _ => none }
def FnExactLeastMachineWrongFalsely : Prop := fnExactLeastMachineRow.holds Try.pinned (OpenSpec.ofChange fnExactLeastMachineWrong)

/-- 'laws.FnExactSameOk': WHATEVER THE INPUT: true; the input reads as it did. -/
def fnExactSameOkSpec : ChangeSpec := { name := "fnExactSameOk", fn := fun _ => fun
  | [d1, d2] => { results := [.lit (.bool true)], args := [d1, d2] }
  | _ => none }
def fnExactSameOkRow : OpenClaim := { program := "ytgpjckmmleagbaa", sum := "d23ffcebde7b694a5252b00cf2177f24205f0dad76b74b06378de3bb9ee478de", func := "loop.example/dutyrosters/laws.FnExactSameOk", spec := "fnExactSameOk", unfollowed := true, recurses := true, plainKeys := false, apart := false }
def FnExactSameOkSaid : Prop := fnExactSameOkRow.holds Try.pinned (OpenSpec.ofChange fnExactSameOkSpec)

/-- ITS FALSE NEIGHBOUR: 'it returns false'. Refute it at one input. -/
def fnExactSameOkWrong : ChangeSpec := { name := "fnExactSameOk", fn := fun _ => fun
  | [d1, d2] => { results := [.lit (.bool false)], args := [d1, d2] }
  | _ => none }
def FnExactSameOkWrongFalsely : Prop := fnExactSameOkRow.holds Try.pinned (OpenSpec.ofChange fnExactSameOkWrong)

/-- 'laws.FnExactBothMachines': WHATEVER THE INPUT: true; the input reads as it did. -/
def fnExactBothMachinesSpec : ChangeSpec := { name := "fnExactBothMachines", fn := fun _ => fun
  | [d1, d2] => { results := [.lit (.bool true)], args := [d1, d2] }
  | _ => none }
def fnExactBothMachinesRow : OpenClaim := { program := "ytgpjckmmleagbaa", sum := "d23ffcebde7b694a5252b00cf2177f24205f0dad76b74b06378de3bb9ee478de", func := "loop.example/dutyrosters/laws.FnExactBothMachines", spec := "fnExactBothMachines", unfollowed := true, recurses := true, plainKeys := false, apart := false }
def FnExactBothMachinesSaid : Prop := fnExactBothMachinesRow.holds Try.pinned (OpenSpec.ofChange fnExactBothMachinesSpec)

/-- ITS FALSE NEIGHBOUR: 'it returns false'. Refute it at one input. -/
def fnExactBothMachinesWrong : ChangeSpec := { name := "fnExactBothMachines", fn := fun _ => fun
  | [d1, d2] => { results := [.lit (.bool false)], args := [d1, d2] }
  | _ => none }
def FnExactBothMachinesWrongFalsely : Prop := fnExactBothMachinesRow.holds Try.pinned (OpenSpec.ofChange fnExactBothMachinesWrong)

/-- 'laws.FnExactEitherMachine': WHATEVER THE INPUT: true; the input reads as it did. -/
def fnExactEitherMachineSpec : ChangeSpec := { name := "fnExactEitherMachine", fn := fun _ => fun
  | [d1, d2] => { results := [.lit (.bool true)], args := [d1, d2] }
  | _ => none }
def fnExactEitherMachineRow : OpenClaim := { program := "ytgpjckmmleagbaa", sum := "d23ffcebde7b694a5252b00cf2177f24205f0dad76b74b06378de3bb9ee478de", func := "loop.example/dutyrosters/laws.FnExactEitherMachine", spec := "fnExactEitherMachine", unfollowed := true, recurses := true, plainKeys := false, apart := false }
def FnExactEitherMachineSaid : Prop := fnExactEitherMachineRow.holds Try.pinned (OpenSpec.ofChange fnExactEitherMachineSpec)

/-- ITS FALSE NEIGHBOUR: 'it returns false'. Refute it at one input. -/
def fnExactEitherMachineWrong : ChangeSpec := { name := "fnExactEitherMachine", fn := fun _ => fun
  | [d1, d2] => { results := [.lit (.bool false)], args := [d1, d2] }
  | _ => none }
def FnExactEitherMachineWrongFalsely : Prop := fnExactEitherMachineRow.holds Try.pinned (OpenSpec.ofChange fnExactEitherMachineWrong)

/-- 'laws.FnExactNotMachine': WHATEVER THE INPUT: true; the input reads as it did. -/
def fnExactNotMachineSpec : ChangeSpec := { name := "fnExactNotMachine", fn := fun _ => fun
  | [d] => { results := [.lit (.bool true)], args := [d] }
  | _ => none }
def fnExactNotMachineRow : OpenClaim := { program := "ytgpjckmmleagbaa", sum := "d23ffcebde7b694a5252b00cf2177f24205f0dad76b74b06378de3bb9ee478de", func := "loop.example/dutyrosters/laws.FnExactNotMachine", spec := "fnExactNotMachine", unfollowed := true, recurses := true, plainKeys := false, apart := false }
def FnExactNotMachineSaid : Prop := fnExactNotMachineRow.holds Try.pinned (OpenSpec.ofChange fnExactNotMachineSpec)

/-- ITS FALSE NEIGHBOUR: 'it returns false'. Refute it at one input. -/
def fnExactNotMachineWrong : ChangeSpec := { name := "fnExactNotMachine", fn := fun _ => fun
  | [d] => { results := [.lit (.bool false)], args := [d] }
  | _ => none }
def FnExactNotMachineWrongFalsely : Prop := fnExactNotMachineRow.holds Try.pinned (OpenSpec.ofChange fnExactNotMachineWrong)

/-- 'laws.FnExactShortestTaken': WHATEVER THE INPUT: true; the input reads as it did. -/
def fnExactShortestTakenSpec : ChangeSpec := { name := "fnExactShortestTaken", fn := fun _ => fun
  | [d] => { results := [.lit (.bool true)], args := [d] }
  | _ => none }
def fnExactShortestTakenRow : OpenClaim := { program := "ytgpjckmmleagbaa", sum := "d23ffcebde7b694a5252b00cf2177f24205f0dad76b74b06378de3bb9ee478de", func := "loop.example/dutyrosters/laws.FnExactShortestTaken", spec := "fnExactShortestTaken", inPlace := ["internal/bytealg.IndexByteString"], plainKeys := false, apart := false }
def FnExactShortestTakenSaid : Prop := fnExactShortestTakenRow.holds Try.pinned (OpenSpec.ofChange fnExactShortestTakenSpec)

/-- ITS FALSE NEIGHBOUR: 'it returns false'. Refute it at one input. -/
def fnExactShortestTakenWrong : ChangeSpec := { name := "fnExactShortestTaken", fn := fun _ => fun
  | [d] => { results := [.lit (.bool false)], args := [d] }
  | _ => none }
def FnExactShortestTakenWrongFalsely : Prop := fnExactShortestTakenRow.holds Try.pinned (OpenSpec.ofChange fnExactShortestTakenWrong)

/-- 'laws.FnExactRuleOk': WHATEVER THE INPUT: true; the input reads as it did. -/
def fnExactRuleOkSpec : ChangeSpec := { name := "fnExactRuleOk", fn := fun _ => fun
  | [d] => { results := [.lit (.bool true)], args := [d] }
  | _ => none }
def fnExactRuleOkRow : OpenClaim := { program := "ytgpjckmmleagbaa", sum := "d23ffcebde7b694a5252b00cf2177f24205f0dad76b74b06378de3bb9ee478de", func := "loop.example/dutyrosters/laws.FnExactRuleOk", spec := "fnExactRuleOk", inPlace := ["internal/bytealg.IndexByteString"], plainKeys := false, apart := false }
def FnExactRuleOkSaid : Prop := fnExactRuleOkRow.holds Try.pinned (OpenSpec.ofChange fnExactRuleOkSpec)

/-- ITS FALSE NEIGHBOUR: 'it returns false'. Refute it at one input. -/
def fnExactRuleOkWrong : ChangeSpec := { name := "fnExactRuleOk", fn := fun _ => fun
  | [d] => { results := [.lit (.bool false)], args := [d] }
  | _ => none }
def FnExactRuleOkWrongFalsely : Prop := fnExactRuleOkRow.holds Try.pinned (OpenSpec.ofChange fnExactRuleOkWrong)

/-- 'laws.FnExactKeepsRule': WHATEVER THE INPUT: true; the input reads as it did. -/
def fnExactKeepsRuleSpec : ChangeSpec := { name := "fnExactKeepsRule", fn := fun _ => fun
  | [d1, d2] => { results := [.lit (.bool true)], args := [d1, d2] }
  | _ => none }
def fnExactKeepsRuleRow : OpenClaim := { program := "ytgpjckmmleagbaa", sum := "d23ffcebde7b694a5252b00cf2177f24205f0dad76b74b06378de3bb9ee478de", func := "loop.example/dutyrosters/laws.FnExactKeepsRule", spec := "fnExactKeepsRule", inPlace := ["internal/bytealg.IndexByteString", "internal/bytealg.IndexString"], unfollowed := true, recurses := true, named := ["internal/bytealg.MaxLen"], plainKeys := false, apart := false }
def FnExactKeepsRuleSaid : Prop := fnExactKeepsRuleRow.holds Try.pinned (OpenSpec.ofChange fnExactKeepsRuleSpec)

/-- ITS FALSE NEIGHBOUR: 'it returns false'. Refute it at one input. -/
def fnExactKeepsRuleWrong : ChangeSpec := { name := "fnExactKeepsRule", fn := fun _ => fun
  | [d1, d2] => { results := [.lit (.bool false)], args := [d1, d2] }
  | _ => none }
def FnExactKeepsRuleWrongFalsely : Prop := fnExactKeepsRuleRow.holds Try.pinned (OpenSpec.ofChange fnExactKeepsRuleWrong)

/-- 'laws.FnExactMachineFor': WHATEVER THE INPUT: true; the input reads as it did. -/
def fnExactMachineForSpec : ChangeSpec := { name := "fnExactMachineFor", fn := fun _ => fun
  | [d] => { results := [.lit (.bool true)], args := [d] }
  | _ => none }
def fnExactMachineForRow : OpenClaim := { program := "ytgpjckmmleagbaa", sum := "d23ffcebde7b694a5252b00cf2177f24205f0dad76b74b06378de3bb9ee478de", func := "loop.example/dutyrosters/laws.FnExactMachineFor", spec := "fnExactMachineFor", inPlace := ["internal/bytealg.IndexByteString"], unfollowed := true, recurses := true, plainKeys := false, apart := false }
def FnExactMachineForSaid : Prop := fnExactMachineForRow.holds Try.pinned (OpenSpec.ofChange fnExactMachineForSpec)

/-- ITS FALSE NEIGHBOUR: 'it returns false'. Refute it at one input. -/
def fnExactMachineForWrong : ChangeSpec := { name := "fnExactMachineFor", fn := fun _ => fun
  | [d] => { results := [.lit (.bool false)], args := [d] }
  | _ => none }
def FnExactMachineForWrongFalsely : Prop := fnExactMachineForRow.holds Try.pinned (OpenSpec.ofChange fnExactMachineForWrong)

/-- 'laws.FnExactBrokenAt': WHATEVER THE INPUT: true; the input reads as it did. -/
def fnExactBrokenAtSpec : ChangeSpec := { name := "fnExactBrokenAt", fn := fun _ => fun
  | [d1, d2] => { results := [.lit (.bool true)], args := [d1, d2] }
  | _ => none }
def fnExactBrokenAtRow : OpenClaim := { program := "ytgpjckmmleagbaa", sum := "d23ffcebde7b694a5252b00cf2177f24205f0dad76b74b06378de3bb9ee478de", func := "loop.example/dutyrosters/laws.FnExactBrokenAt", spec := "fnExactBrokenAt", inPlace := ["internal/bytealg.IndexByteString"], unfollowed := true, recurses := true, plainKeys := false, apart := false }
def FnExactBrokenAtSaid : Prop := fnExactBrokenAtRow.holds Try.pinned (OpenSpec.ofChange fnExactBrokenAtSpec)

/-- ITS FALSE NEIGHBOUR: 'it returns false'. Refute it at one input. -/
def fnExactBrokenAtWrong : ChangeSpec := { name := "fnExactBrokenAt", fn := fun _ => fun
  | [d1, d2] => { results := [.lit (.bool false)], args := [d1, d2] }
  | _ => none }
def FnExactBrokenAtWrongFalsely : Prop := fnExactBrokenAtRow.holds Try.pinned (OpenSpec.ofChange fnExactBrokenAtWrong)

/- THE SECOND FORM. 'bulk': how many values and letters a reading holds, each counted each time it is reached (what is shared counts as often as it is met; a slice's spare places count too). A statement '..UptoSaid' is the law's where the arguments, and the package variables that the reading takes, are together of bulk at most 1048576: NARROWER than '..Said'. Prove '..Said' where nothing that the law and all that it calls make is longer than what came in: it says more and counts as full. Else prove '..UptoSaid'. A law counts once. -/
mutual
def uptoBulk {H : Type} : DataW H → Nat
  | .lit (.string bytes) => bytes.length + 1
  | .lit _ => 1
  | .nil => 1
  | .ptr d => uptoBulk d + 1
  | .slice elems spare => uptoBulkAll elems + uptoBulkAll spare + 1
  | .agg parts => uptoBulkAll parts + 1
  | .iface _ d => uptoBulk d + 1
  | .map entries => uptoBulkEntries entries + 1
  | .held _ => 1
def uptoBulkAll {H : Type} : List (DataW H) → Nat
  | [] => 0
  | d :: r => uptoBulk d + uptoBulkAll r
def uptoBulkEntries {H : Type} : List (Lit × DataW H) → Nat
  | [] => 0
  | x :: r => uptoBulkEntry x + uptoBulkEntries r
def uptoBulkEntry {H : Type} : Lit × DataW H → Nat
  | (.string bytes, d) => bytes.length + uptoBulk d + 1
  | (_, d) => uptoBulk d + 1
 end
def uptoSmall : (H : Type) → List (DataW H) → Bool := fun _ ds => decide (uptoBulkAll ds ≤ 1048576)
def OpenSpec.upto (s : _root_.Go.ChangeSpec) : _root_.Go.OpenSpec := { _root_.Go.OpenSpec.ofChange s with cond := some uptoSmall }

/-- 'laws.FnExactTakesOk', WHERE WHAT IT READS IS OF BULK AT MOST 1048576: true; the input reads as it did. -/
def fnExactTakesOkUptoRow : OpenClaim := { program := "ytgpjckmmleagbaa", sum := "d23ffcebde7b694a5252b00cf2177f24205f0dad76b74b06378de3bb9ee478de", func := "loop.example/dutyrosters/laws.FnExactTakesOk", spec := "fnExactTakesOk", inPlace := ["internal/bytealg.IndexByteString"], plainKeys := false, apart := false, narrowed := true }
def FnExactTakesOkUptoSaid : Prop := fnExactTakesOkUptoRow.holds Try.pinned (OpenSpec.upto fnExactTakesOkSpec)

/-- 'laws.FnExactTrimmedMachine', WHERE WHAT IT READS IS OF BULK AT MOST 1048576: true; the input reads as it did. -/
def fnExactTrimmedMachineUptoRow : OpenClaim := { program := "ytgpjckmmleagbaa", sum := "d23ffcebde7b694a5252b00cf2177f24205f0dad76b74b06378de3bb9ee478de", func := "loop.example/dutyrosters/laws.FnExactTrimmedMachine", spec := "fnExactTrimmedMachine", unfollowed := true, recurses := true, plainKeys := false, apart := false, narrowed := true }
def FnExactTrimmedMachineUptoSaid : Prop := fnExactTrimmedMachineUptoRow.holds Try.pinned (OpenSpec.upto fnExactTrimmedMachineSpec)

/-- 'laws.FnExactLeastMachine', WHERE WHAT IT READS IS OF BULK AT MOST 1048576: true; the input reads as it did. -/
def fnExactLeastMachineUptoRow : OpenClaim := { program := "ytgpjckmmleagbaa", sum := "d23ffcebde7b694a5252b00cf2177f24205f0dad76b74b06378de3bb9ee478de", func := "loop.example/dutyrosters/laws.FnExactLeastMachine", spec := "fnExactLeastMachine", unfollowed := true, recurses := true, plainKeys := false, apart := false, narrowed := true }
def FnExactLeastMachineUptoSaid : Prop := fnExactLeastMachineUptoRow.holds Try.pinned (OpenSpec.upto fnExactLeastMachineSpec)

/-- 'laws.FnExactSameOk', WHERE WHAT IT READS IS OF BULK AT MOST 1048576: true; the input reads as it did. -/
def fnExactSameOkUptoRow : OpenClaim := { program := "ytgpjckmmleagbaa", sum := "d23ffcebde7b694a5252b00cf2177f24205f0dad76b74b06378de3bb9ee478de", func := "loop.example/dutyrosters/laws.FnExactSameOk", spec := "fnExactSameOk", unfollowed := true, recurses := true, plainKeys := false, apart := false, narrowed := true }
def FnExactSameOkUptoSaid : Prop := fnExactSameOkUptoRow.holds Try.pinned (OpenSpec.upto fnExactSameOkSpec)

/-- 'laws.FnExactBothMachines', WHERE WHAT IT READS IS OF BULK AT MOST 1048576: true; the input reads as it did. -/
def fnExactBothMachinesUptoRow : OpenClaim := { program := "ytgpjckmmleagbaa", sum := "d23ffcebde7b694a5252b00cf2177f24205f0dad76b74b06378de3bb9ee478de", func := "loop.example/dutyrosters/laws.FnExactBothMachines", spec := "fnExactBothMachines", unfollowed := true, recurses := true, plainKeys := false, apart := false, narrowed := true }
def FnExactBothMachinesUptoSaid : Prop := fnExactBothMachinesUptoRow.holds Try.pinned (OpenSpec.upto fnExactBothMachinesSpec)

/-- 'laws.FnExactEitherMachine', WHERE WHAT IT READS IS OF BULK AT MOST 1048576: true; the input reads as it did. -/
def fnExactEitherMachineUptoRow : OpenClaim := { program := "ytgpjckmmleagbaa", sum := "d23ffcebde7b694a5252b00cf2177f24205f0dad76b74b06378de3bb9ee478de", func := "loop.example/dutyrosters/laws.FnExactEitherMachine", spec := "fnExactEitherMachine", unfollowed := true, recurses := true, plainKeys := false, apart := false, narrowed := true }
def FnExactEitherMachineUptoSaid : Prop := fnExactEitherMachineUptoRow.holds Try.pinned (OpenSpec.upto fnExactEitherMachineSpec)

/-- 'laws.FnExactNotMachine', WHERE WHAT IT READS IS OF BULK AT MOST 1048576: true; the input reads as it did. -/
def fnExactNotMachineUptoRow : OpenClaim := { program := "ytgpjckmmleagbaa", sum := "d23ffcebde7b694a5252b00cf2177f24205f0dad76b74b06378de3bb9ee478de", func := "loop.example/dutyrosters/laws.FnExactNotMachine", spec := "fnExactNotMachine", unfollowed := true, recurses := true, plainKeys := false, apart := false, narrowed := true }
def FnExactNotMachineUptoSaid : Prop := fnExactNotMachineUptoRow.holds Try.pinned (OpenSpec.upto fnExactNotMachineSpec)

/-- 'laws.FnExactShortestTaken', WHERE WHAT IT READS IS OF BULK AT MOST 1048576: true; the input reads as it did. -/
def fnExactShortestTakenUptoRow : OpenClaim := { program := "ytgpjckmmleagbaa", sum := "d23ffcebde7b694a5252b00cf2177f24205f0dad76b74b06378de3bb9ee478de", func := "loop.example/dutyrosters/laws.FnExactShortestTaken", spec := "fnExactShortestTaken", inPlace := ["internal/bytealg.IndexByteString"], plainKeys := false, apart := false, narrowed := true }
def FnExactShortestTakenUptoSaid : Prop := fnExactShortestTakenUptoRow.holds Try.pinned (OpenSpec.upto fnExactShortestTakenSpec)

/-- 'laws.FnExactRuleOk', WHERE WHAT IT READS IS OF BULK AT MOST 1048576: true; the input reads as it did. -/
def fnExactRuleOkUptoRow : OpenClaim := { program := "ytgpjckmmleagbaa", sum := "d23ffcebde7b694a5252b00cf2177f24205f0dad76b74b06378de3bb9ee478de", func := "loop.example/dutyrosters/laws.FnExactRuleOk", spec := "fnExactRuleOk", inPlace := ["internal/bytealg.IndexByteString"], plainKeys := false, apart := false, narrowed := true }
def FnExactRuleOkUptoSaid : Prop := fnExactRuleOkUptoRow.holds Try.pinned (OpenSpec.upto fnExactRuleOkSpec)

/-- 'laws.FnExactKeepsRule', WHERE WHAT IT READS IS OF BULK AT MOST 1048576: true; the input reads as it did. -/
def fnExactKeepsRuleUptoRow : OpenClaim := { program := "ytgpjckmmleagbaa", sum := "d23ffcebde7b694a5252b00cf2177f24205f0dad76b74b06378de3bb9ee478de", func := "loop.example/dutyrosters/laws.FnExactKeepsRule", spec := "fnExactKeepsRule", inPlace := ["internal/bytealg.IndexByteString", "internal/bytealg.IndexString"], unfollowed := true, recurses := true, named := ["internal/bytealg.MaxLen"], plainKeys := false, apart := false, narrowed := true }
def FnExactKeepsRuleUptoSaid : Prop := fnExactKeepsRuleUptoRow.holds Try.pinned (OpenSpec.upto fnExactKeepsRuleSpec)

/-- 'laws.FnExactMachineFor', WHERE WHAT IT READS IS OF BULK AT MOST 1048576: true; the input reads as it did. -/
def fnExactMachineForUptoRow : OpenClaim := { program := "ytgpjckmmleagbaa", sum := "d23ffcebde7b694a5252b00cf2177f24205f0dad76b74b06378de3bb9ee478de", func := "loop.example/dutyrosters/laws.FnExactMachineFor", spec := "fnExactMachineFor", inPlace := ["internal/bytealg.IndexByteString"], unfollowed := true, recurses := true, plainKeys := false, apart := false, narrowed := true }
def FnExactMachineForUptoSaid : Prop := fnExactMachineForUptoRow.holds Try.pinned (OpenSpec.upto fnExactMachineForSpec)

/-- 'laws.FnExactBrokenAt', WHERE WHAT IT READS IS OF BULK AT MOST 1048576: true; the input reads as it did. -/
def fnExactBrokenAtUptoRow : OpenClaim := { program := "ytgpjckmmleagbaa", sum := "d23ffcebde7b694a5252b00cf2177f24205f0dad76b74b06378de3bb9ee478de", func := "loop.example/dutyrosters/laws.FnExactBrokenAt", spec := "fnExactBrokenAt", inPlace := ["internal/bytealg.IndexByteString"], unfollowed := true, recurses := true, plainKeys := false, apart := false, narrowed := true }
def FnExactBrokenAtUptoSaid : Prop := fnExactBrokenAtUptoRow.holds Try.pinned (OpenSpec.upto fnExactBrokenAtSpec)

end Rows
end Go.Proofs.Ytgpjckmmleagbaa

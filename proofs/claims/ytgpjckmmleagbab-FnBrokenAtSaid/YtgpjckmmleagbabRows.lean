/-
  No cell of these rows narrows 'for every input' (looked for: loops, veiled, ifaces, maps, wideKeys, modest, calm, conditions, laid).
  DERIVED. THE GIVEN ROWS OF THIS SEAT. 12 by the template 'for every input the law returns true; each argument reads behind the call as it read before'; 0 by the template 'total and deterministic' (their statements: YtgpjckmmleagbabTotals.lean).
  GIVEN WITH THE SEED: the statements are not yours to turn. If you find one false, say at which input.
  Laid BY PROGRAM, IN A SANDBOX (cutbox-rows.mjs): the forced cells as the released guide's own fill.sh prints them over the translation bd31655f51fec7fc… (all of the seat's roots in one cut). By AI agents, Wed Nov 11 2026. No macro, syntax, notation, axiom, sorry.
-/
import Derived.Test.YtgpjckmmleagbabChecked
import GoSem.Claim
import GoSem.ClaimJoined
import GoSem.ClaimMapViews
import Derived.JoinedTies
import Derived.KernelRfl
namespace Go.Proofs.Ytgpjckmmleagbab
/- THE CELL 'sum', in the pinned program and in every row, IS THE sha256 OF THE DUMP (.gsa) THAT YtgpjckmmleagbabProg.lean LOADS. Nothing in Lean hashes anything: it is a label: what it is worth is what the hold of that sum in a sandbox is worth. -/
noncomputable def Try.pinned : Pinned := { name := "ytgpjckmmleagbab", sum := "bd31655f51fec7fc12f011a88a7855b347672e3668b44e59c458dcf49b76b236", checked := Try.checked }
namespace Rows
def none {H : Type} : Left H := { results := [], args := [] }

/-- 'laws.FnTakesOk': WHATEVER THE INPUT: true; the input reads as it did. -/
def fnTakesOkSpec : ChangeSpec := { name := "fnTakesOk", fn := fun _ => fun
  | [d] => { results := [.lit (.bool true)], args := [d] }
  | _ => none }
def fnTakesOkRow : OpenClaim := { program := "ytgpjckmmleagbab", sum := "bd31655f51fec7fc12f011a88a7855b347672e3668b44e59c458dcf49b76b236", func := "loop.example/dutyrosters/laws.FnTakesOk", spec := "fnTakesOk", inPlace := ["internal/bytealg.IndexByteString"], unfollowed := true, recurses := true, plainKeys := false, apart := false }
def FnTakesOkSaid : Prop := fnTakesOkRow.holds Try.pinned (OpenSpec.ofChange fnTakesOkSpec)

/-- ITS FALSE NEIGHBOUR: 'it returns false'. Refute it at one input. -/
def fnTakesOkWrong : ChangeSpec := { name := "fnTakesOk", fn := fun _ => fun
  | [d] => { results := [.lit (.bool false)], args := [d] }
  | _ => none }
def FnTakesOkWrongFalsely : Prop := fnTakesOkRow.holds Try.pinned (OpenSpec.ofChange fnTakesOkWrong)

/-- 'laws.FnTrimmedMachine': WHATEVER THE INPUT: true; the input reads as it did. -/
def fnTrimmedMachineSpec : ChangeSpec := { name := "fnTrimmedMachine", fn := fun _ => fun
  | [d] => { results := [.lit (.bool true)], args := [d] }
  | _ => none }
def fnTrimmedMachineRow : OpenClaim := { program := "ytgpjckmmleagbab", sum := "bd31655f51fec7fc12f011a88a7855b347672e3668b44e59c458dcf49b76b236", func := "loop.example/dutyrosters/laws.FnTrimmedMachine", spec := "fnTrimmedMachine", inPlace := ["internal/bytealg.IndexByteString"], unfollowed := true, recurses := true, plainKeys := false, apart := false }
def FnTrimmedMachineSaid : Prop := fnTrimmedMachineRow.holds Try.pinned (OpenSpec.ofChange fnTrimmedMachineSpec)

/-- ITS FALSE NEIGHBOUR: 'it returns false'. Refute it at one input. -/
def fnTrimmedMachineWrong : ChangeSpec := { name := "fnTrimmedMachine", fn := fun _ => fun
  | [d] => { results := [.lit (.bool false)], args := [d] }
  | _ => none }
def FnTrimmedMachineWrongFalsely : Prop := fnTrimmedMachineRow.holds Try.pinned (OpenSpec.ofChange fnTrimmedMachineWrong)

/-- 'laws.FnLeastMachine': WHATEVER THE INPUT: true; the input reads as it did. -/
def fnLeastMachineSpec : ChangeSpec := { name := "fnLeastMachine", fn := fun _ => fun
  | [d1, d2] => { results := [.lit (.bool true)], args := [d1, d2] }
  | _ => none }
def fnLeastMachineRow : OpenClaim := { program := "ytgpjckmmleagbab", sum := "bd31655f51fec7fc12f011a88a7855b347672e3668b44e59c458dcf49b76b236", func := "loop.example/dutyrosters/laws.FnLeastMachine", spec := "fnLeastMachine", inPlace := ["internal/bytealg.IndexByteString"], unfollowed := true, recurses := true, plainKeys := false, apart := false }
def FnLeastMachineSaid : Prop := fnLeastMachineRow.holds Try.pinned (OpenSpec.ofChange fnLeastMachineSpec)

/-- ITS FALSE NEIGHBOUR: 'it returns false'. Refute it at one input. -/
def fnLeastMachineWrong : ChangeSpec := { name := "fnLeastMachine", fn := fun _ => fun
  | [d1, d2] => { results := [.lit (.bool false)], args := [d1, d2] }
  | _ => none }
def FnLeastMachineWrongFalsely : Prop := fnLeastMachineRow.holds Try.pinned (OpenSpec.ofChange fnLeastMachineWrong)

/-- 'laws.FnSameOk': WHATEVER THE INPUT: true; the input reads as it did. -/
def fnSameOkSpec : ChangeSpec := { name := "fnSameOk", fn := fun _ => fun
  | [d1, d2] => { results := [.lit (.bool true)], args := [d1, d2] }
  | _ => none }
def fnSameOkRow : OpenClaim := { program := "ytgpjckmmleagbab", sum := "bd31655f51fec7fc12f011a88a7855b347672e3668b44e59c458dcf49b76b236", func := "loop.example/dutyrosters/laws.FnSameOk", spec := "fnSameOk", inPlace := ["internal/bytealg.IndexByteString"], unfollowed := true, recurses := true, plainKeys := false, apart := false }
def FnSameOkSaid : Prop := fnSameOkRow.holds Try.pinned (OpenSpec.ofChange fnSameOkSpec)

/-- ITS FALSE NEIGHBOUR: 'it returns false'. Refute it at one input. -/
def fnSameOkWrong : ChangeSpec := { name := "fnSameOk", fn := fun _ => fun
  | [d1, d2] => { results := [.lit (.bool false)], args := [d1, d2] }
  | _ => none }
def FnSameOkWrongFalsely : Prop := fnSameOkRow.holds Try.pinned (OpenSpec.ofChange fnSameOkWrong)

/-- 'laws.FnBothMachines': WHATEVER THE INPUT: true; the input reads as it did. -/
def fnBothMachinesSpec : ChangeSpec := { name := "fnBothMachines", fn := fun _ => fun
  | [d1, d2] => { results := [.lit (.bool true)], args := [d1, d2] }
  | _ => none }
def fnBothMachinesRow : OpenClaim := { program := "ytgpjckmmleagbab", sum := "bd31655f51fec7fc12f011a88a7855b347672e3668b44e59c458dcf49b76b236", func := "loop.example/dutyrosters/laws.FnBothMachines", spec := "fnBothMachines", inPlace := ["internal/bytealg.IndexByteString"], unfollowed := true, recurses := true, plainKeys := false, apart := false }
def FnBothMachinesSaid : Prop := fnBothMachinesRow.holds Try.pinned (OpenSpec.ofChange fnBothMachinesSpec)

/-- ITS FALSE NEIGHBOUR: 'it returns false'. Refute it at one input. -/
def fnBothMachinesWrong : ChangeSpec := { name := "fnBothMachines", fn := fun _ => fun
  | [d1, d2] => { results := [.lit (.bool false)], args := [d1, d2] }
  | _ => none }
def FnBothMachinesWrongFalsely : Prop := fnBothMachinesRow.holds Try.pinned (OpenSpec.ofChange fnBothMachinesWrong)

/-- 'laws.FnEitherMachine': WHATEVER THE INPUT: true; the input reads as it did. -/
def fnEitherMachineSpec : ChangeSpec := { name := "fnEitherMachine", fn := fun _ => fun
  | [d1, d2] => { results := [.lit (.bool true)], args := [d1, d2] }
  | _ => none }
def fnEitherMachineRow : OpenClaim := { program := "ytgpjckmmleagbab", sum := "bd31655f51fec7fc12f011a88a7855b347672e3668b44e59c458dcf49b76b236", func := "loop.example/dutyrosters/laws.FnEitherMachine", spec := "fnEitherMachine", inPlace := ["internal/bytealg.IndexByteString"], unfollowed := true, recurses := true, plainKeys := false, apart := false }
def FnEitherMachineSaid : Prop := fnEitherMachineRow.holds Try.pinned (OpenSpec.ofChange fnEitherMachineSpec)

/-- ITS FALSE NEIGHBOUR: 'it returns false'. Refute it at one input. -/
def fnEitherMachineWrong : ChangeSpec := { name := "fnEitherMachine", fn := fun _ => fun
  | [d1, d2] => { results := [.lit (.bool false)], args := [d1, d2] }
  | _ => none }
def FnEitherMachineWrongFalsely : Prop := fnEitherMachineRow.holds Try.pinned (OpenSpec.ofChange fnEitherMachineWrong)

/-- 'laws.FnNotMachine': WHATEVER THE INPUT: true; the input reads as it did. -/
def fnNotMachineSpec : ChangeSpec := { name := "fnNotMachine", fn := fun _ => fun
  | [d1, d2] => { results := [.lit (.bool true)], args := [d1, d2] }
  | _ => none }
def fnNotMachineRow : OpenClaim := { program := "ytgpjckmmleagbab", sum := "bd31655f51fec7fc12f011a88a7855b347672e3668b44e59c458dcf49b76b236", func := "loop.example/dutyrosters/laws.FnNotMachine", spec := "fnNotMachine", inPlace := ["internal/bytealg.IndexByteString"], unfollowed := true, recurses := true, plainKeys := false, apart := false }
def FnNotMachineSaid : Prop := fnNotMachineRow.holds Try.pinned (OpenSpec.ofChange fnNotMachineSpec)

/-- ITS FALSE NEIGHBOUR: 'it returns false'. Refute it at one input. -/
def fnNotMachineWrong : ChangeSpec := { name := "fnNotMachine", fn := fun _ => fun
  | [d1, d2] => { results := [.lit (.bool false)], args := [d1, d2] }
  | _ => none }
def FnNotMachineWrongFalsely : Prop := fnNotMachineRow.holds Try.pinned (OpenSpec.ofChange fnNotMachineWrong)

/-- 'laws.FnShortestTaken': WHATEVER THE INPUT: true; the input reads as it did. -/
def fnShortestTakenSpec : ChangeSpec := { name := "fnShortestTaken", fn := fun _ => fun
  | [d1, d2] => { results := [.lit (.bool true)], args := [d1, d2] }
  | _ => none }
def fnShortestTakenRow : OpenClaim := { program := "ytgpjckmmleagbab", sum := "bd31655f51fec7fc12f011a88a7855b347672e3668b44e59c458dcf49b76b236", func := "loop.example/dutyrosters/laws.FnShortestTaken", spec := "fnShortestTaken", inPlace := ["internal/bytealg.IndexByteString"], unfollowed := true, recurses := true, plainKeys := false, apart := false }
def FnShortestTakenSaid : Prop := fnShortestTakenRow.holds Try.pinned (OpenSpec.ofChange fnShortestTakenSpec)

/-- ITS FALSE NEIGHBOUR: 'it returns false'. Refute it at one input. -/
def fnShortestTakenWrong : ChangeSpec := { name := "fnShortestTaken", fn := fun _ => fun
  | [d1, d2] => { results := [.lit (.bool false)], args := [d1, d2] }
  | _ => none }
def FnShortestTakenWrongFalsely : Prop := fnShortestTakenRow.holds Try.pinned (OpenSpec.ofChange fnShortestTakenWrong)

/-- 'laws.FnRuleOk': WHATEVER THE INPUT: true; the input reads as it did. -/
def fnRuleOkSpec : ChangeSpec := { name := "fnRuleOk", fn := fun _ => fun
  | [d] => { results := [.lit (.bool true)], args := [d] }
  | _ => none }
def fnRuleOkRow : OpenClaim := { program := "ytgpjckmmleagbab", sum := "bd31655f51fec7fc12f011a88a7855b347672e3668b44e59c458dcf49b76b236", func := "loop.example/dutyrosters/laws.FnRuleOk", spec := "fnRuleOk", inPlace := ["internal/bytealg.IndexByteString"], plainKeys := false, apart := false }
def FnRuleOkSaid : Prop := fnRuleOkRow.holds Try.pinned (OpenSpec.ofChange fnRuleOkSpec)

/-- ITS FALSE NEIGHBOUR: 'it returns false'. Refute it at one input. -/
def fnRuleOkWrong : ChangeSpec := { name := "fnRuleOk", fn := fun _ => fun
  | [d] => { results := [.lit (.bool false)], args := [d] }
  | _ => none }
def FnRuleOkWrongFalsely : Prop := fnRuleOkRow.holds Try.pinned (OpenSpec.ofChange fnRuleOkWrong)

/-- 'laws.FnKeepsRule': WHATEVER THE INPUT: true; the input reads as it did. -/
def fnKeepsRuleSpec : ChangeSpec := { name := "fnKeepsRule", fn := fun _ => fun
  | [d] => { results := [.lit (.bool true)], args := [d] }
  | _ => none }
def fnKeepsRuleRow : OpenClaim := { program := "ytgpjckmmleagbab", sum := "bd31655f51fec7fc12f011a88a7855b347672e3668b44e59c458dcf49b76b236", func := "loop.example/dutyrosters/laws.FnKeepsRule", spec := "fnKeepsRule", inPlace := ["internal/bytealg.IndexByteString", "internal/bytealg.IndexString"], unfollowed := true, recurses := true, named := ["internal/bytealg.MaxLen"], plainKeys := false, apart := false }
def FnKeepsRuleSaid : Prop := fnKeepsRuleRow.holds Try.pinned (OpenSpec.ofChange fnKeepsRuleSpec)

/-- ITS FALSE NEIGHBOUR: 'it returns false'. Refute it at one input. -/
def fnKeepsRuleWrong : ChangeSpec := { name := "fnKeepsRule", fn := fun _ => fun
  | [d] => { results := [.lit (.bool false)], args := [d] }
  | _ => none }
def FnKeepsRuleWrongFalsely : Prop := fnKeepsRuleRow.holds Try.pinned (OpenSpec.ofChange fnKeepsRuleWrong)

/-- 'laws.FnMachineFor': WHATEVER THE INPUT: true; the input reads as it did. -/
def fnMachineForSpec : ChangeSpec := { name := "fnMachineFor", fn := fun _ => fun
  | [d1, d2] => { results := [.lit (.bool true)], args := [d1, d2] }
  | _ => none }
def fnMachineForRow : OpenClaim := { program := "ytgpjckmmleagbab", sum := "bd31655f51fec7fc12f011a88a7855b347672e3668b44e59c458dcf49b76b236", func := "loop.example/dutyrosters/laws.FnMachineFor", spec := "fnMachineFor", inPlace := ["internal/bytealg.IndexByteString", "internal/bytealg.IndexString"], unfollowed := true, recurses := true, named := ["internal/bytealg.MaxLen"], plainKeys := false, apart := false }
def FnMachineForSaid : Prop := fnMachineForRow.holds Try.pinned (OpenSpec.ofChange fnMachineForSpec)

/-- ITS FALSE NEIGHBOUR: 'it returns false'. Refute it at one input. -/
def fnMachineForWrong : ChangeSpec := { name := "fnMachineFor", fn := fun _ => fun
  | [d1, d2] => { results := [.lit (.bool false)], args := [d1, d2] }
  | _ => none }
def FnMachineForWrongFalsely : Prop := fnMachineForRow.holds Try.pinned (OpenSpec.ofChange fnMachineForWrong)

/-- 'laws.FnBrokenAt': WHATEVER THE INPUT: true; the input reads as it did. -/
def fnBrokenAtSpec : ChangeSpec := { name := "fnBrokenAt", fn := fun _ => fun
  | [d] => { results := [.lit (.bool true)], args := [d] }
  | _ => none }
def fnBrokenAtRow : OpenClaim := { program := "ytgpjckmmleagbab", sum := "bd31655f51fec7fc12f011a88a7855b347672e3668b44e59c458dcf49b76b236", func := "loop.example/dutyrosters/laws.FnBrokenAt", spec := "fnBrokenAt", inPlace := ["internal/bytealg.IndexByteString", "internal/bytealg.IndexString"], unfollowed := true, recurses := true, named := ["internal/bytealg.MaxLen"], plainKeys := false, apart := false }
def FnBrokenAtSaid : Prop := fnBrokenAtRow.holds Try.pinned (OpenSpec.ofChange fnBrokenAtSpec)

/-- ITS FALSE NEIGHBOUR: 'it returns false'. Refute it at one input. -/
def fnBrokenAtWrong : ChangeSpec := { name := "fnBrokenAt", fn := fun _ => fun
  | [d] => { results := [.lit (.bool false)], args := [d] }
  | _ => none }
def FnBrokenAtWrongFalsely : Prop := fnBrokenAtRow.holds Try.pinned (OpenSpec.ofChange fnBrokenAtWrong)

/- THE SECOND FORM. 'bulk': how many values and letters a reading holds, each counted each time it is reached (what is shared counts as often as it is met; a slice's spare places count too). A statement '..UptoSaid' is the law's where the arguments, and the package variables that the reading takes, are together of bulk at most 1048576: NARROWER than '..Said'. Prove '..Said' where nothing that the law and all that it calls make is longer than what came in: it says more and counts as full. Else prove '..UptoSaid'. A law counts once. -/
mutual
def uptoBulk {H : Type} : DataW H → Nat
  | .lit (.string bytes) => bytes.length + 1
  | .lit _ => 1
  | .nil => 1
  | .ptr d => uptoBulk d + 1
  | .slice elems spare => uptoBulkAll elems + uptoBulkAll spare + 1
  | .agg parts => uptoBulkAll parts + 1
  | .iface _ d => uptoBulk d + 1
  | .map entries => uptoBulkEntries entries + 1
  | .held _ => 1
def uptoBulkAll {H : Type} : List (DataW H) → Nat
  | [] => 0
  | d :: r => uptoBulk d + uptoBulkAll r
def uptoBulkEntries {H : Type} : List (Lit × DataW H) → Nat
  | [] => 0
  | x :: r => uptoBulkEntry x + uptoBulkEntries r
def uptoBulkEntry {H : Type} : Lit × DataW H → Nat
  | (.string bytes, d) => bytes.length + uptoBulk d + 1
  | (_, d) => uptoBulk d + 1
 end
def uptoSmall : (H : Type) → List (DataW H) → Bool := fun _ ds => decide (uptoBulkAll ds ≤ 1048576)
def OpenSpec.upto (s : _root_.Go.ChangeSpec) : _root_.Go.OpenSpec := { _root_.Go.OpenSpec.ofChange s with cond := some uptoSmall }

/-- 'laws.FnTakesOk', WHERE WHAT IT READS IS OF BULK AT MOST 1048576: true; the input reads as it did. -/
def fnTakesOkUptoRow : OpenClaim := { program := "ytgpjckmmleagbab", sum := "bd31655f51fec7fc12f011a88a7855b347672e3668b44e59c458dcf49b76b236", func := "loop.example/dutyrosters/laws.FnTakesOk", spec := "fnTakesOk", inPlace := ["internal/bytealg.IndexByteString"], unfollowed := true, recurses := true, plainKeys := false, apart := false, narrowed := true }
def FnTakesOkUptoSaid : Prop := fnTakesOkUptoRow.holds Try.pinned (OpenSpec.upto fnTakesOkSpec)

/-- 'laws.FnTrimmedMachine', WHERE WHAT IT READS IS OF BULK AT MOST 1048576: true; the input reads as it did. -/
def fnTrimmedMachineUptoRow : OpenClaim := { program := "ytgpjckmmleagbab", sum := "bd31655f51fec7fc12f011a88a7855b347672e3668b44e59c458dcf49b76b236", func := "loop.example/dutyrosters/laws.FnTrimmedMachine", spec := "fnTrimmedMachine", inPlace := ["internal/bytealg.IndexByteString"], unfollowed := true, recurses := true, plainKeys := false, apart := false, narrowed := true }
def FnTrimmedMachineUptoSaid : Prop := fnTrimmedMachineUptoRow.holds Try.pinned (OpenSpec.upto fnTrimmedMachineSpec)

/-- 'laws.FnLeastMachine', WHERE WHAT IT READS IS OF BULK AT MOST 1048576: true; the input reads as it did. -/
def fnLeastMachineUptoRow : OpenClaim := { program := "ytgpjckmmleagbab", sum := "bd31655f51fec7fc12f011a88a7855b347672e3668b44e59c458dcf49b76b236", func := "loop.example/dutyrosters/laws.FnLeastMachine", spec := "fnLeastMachine", inPlace := ["internal/bytealg.IndexByteString"], unfollowed := true, recurses := true, plainKeys := false, apart := false, narrowed := true }
def FnLeastMachineUptoSaid : Prop := fnLeastMachineUptoRow.holds Try.pinned (OpenSpec.upto fnLeastMachineSpec)

/-- 'laws.FnSameOk', WHERE WHAT IT READS IS OF BULK AT MOST 1048576: true; the input reads as it did. -/
def fnSameOkUptoRow : OpenClaim := { program := "ytgpjckmmleagbab", sum := "bd31655f51fec7fc12f011a88a7855b347672e3668b44e59c458dcf49b76b236", func := "loop.example/dutyrosters/laws.FnSameOk", spec := "fnSameOk", inPlace := ["internal/bytealg.IndexByteString"], unfollowed := true, recurses := true, plainKeys := false, apart := false, narrowed := true }
def FnSameOkUptoSaid : Prop := fnSameOkUptoRow.holds Try.pinned (OpenSpec.upto fnSameOkSpec)

/-- 'laws.FnBothMachines', WHERE WHAT IT READS IS OF BULK AT MOST 1048576: true; the input reads as it did. -/
def fnBothMachinesUptoRow : OpenClaim := { program := "ytgpjckmmleagbab", sum := "bd31655f51fec7fc12f011a88a7855b347672e3668b44e59c458dcf49b76b236", func := "loop.example/dutyrosters/laws.FnBothMachines", spec := "fnBothMachines", inPlace := ["internal/bytealg.IndexByteString"], unfollowed := true, recurses := true, plainKeys := false, apart := false, narrowed := true }
def FnBothMachinesUptoSaid : Prop := fnBothMachinesUptoRow.holds Try.pinned (OpenSpec.upto fnBothMachinesSpec)

/-- 'laws.FnEitherMachine', WHERE WHAT IT READS IS OF BULK AT MOST 1048576: true; the input reads as it did. -/
def fnEitherMachineUptoRow : OpenClaim := { program := "ytgpjckmmleagbab", sum := "bd31655f51fec7fc12f011a88a7855b347672e3668b44e59c458dcf49b76b236", func := "loop.example/dutyrosters/laws.FnEitherMachine", spec := "fnEitherMachine", inPlace := ["internal/bytealg.IndexByteString"], unfollowed := true, recurses := true, plainKeys := false, apart := false, narrowed := true }
def FnEitherMachineUptoSaid : Prop := fnEitherMachineUptoRow.holds Try.pinned (OpenSpec.upto fnEitherMachineSpec)

/-- 'laws.FnNotMachine', WHERE WHAT IT READS IS OF BULK AT MOST 1048576: true; the input reads as it did. -/
def fnNotMachineUptoRow : OpenClaim := { program := "ytgpjckmmleagbab", sum := "bd31655f51fec7fc12f011a88a7855b347672e3668b44e59c458dcf49b76b236", func := "loop.example/dutyrosters/laws.FnNotMachine", spec := "fnNotMachine", inPlace := ["internal/bytealg.IndexByteString"], unfollowed := true, recurses := true, plainKeys := false, apart := false, narrowed := true }
def FnNotMachineUptoSaid : Prop := fnNotMachineUptoRow.holds Try.pinned (OpenSpec.upto fnNotMachineSpec)

/-- 'laws.FnShortestTaken', WHERE WHAT IT READS IS OF BULK AT MOST 1048576: true; the input reads as it did. -/
def fnShortestTakenUptoRow : OpenClaim := { program := "ytgpjckmmleagbab", sum := "bd31655f51fec7fc12f011a88a7855b347672e3668b44e59c458dcf49b76b236", func := "loop.example/dutyrosters/laws.FnShortestTaken", spec := "fnShortestTaken", inPlace := ["internal/bytealg.IndexByteString"], unfollowed := true, recurses := true, plainKeys := false, apart := false, narrowed := true }
def FnShortestTakenUptoSaid : Prop := fnShortestTakenUptoRow.holds Try.pinned (OpenSpec.upto fnShortestTakenSpec)

/-- 'laws.FnRuleOk', WHERE WHAT IT READS IS OF BULK AT MOST 1048576: true; the input reads as it did. -/
def fnRuleOkUptoRow : OpenClaim := { program := "ytgpjckmmleagbab", sum := "bd31655f51fec7fc12f011a88a7855b347672e3668b44e59c458dcf49b76b236", func := "loop.example/dutyrosters/laws.FnRuleOk", spec := "fnRuleOk", inPlace := ["internal/bytealg.IndexByteString"], plainKeys := false, apart := false, narrowed := true }
def FnRuleOkUptoSaid : Prop := fnRuleOkUptoRow.holds Try.pinned (OpenSpec.upto fnRuleOkSpec)

/-- 'laws.FnKeepsRule', WHERE WHAT IT READS IS OF BULK AT MOST 1048576: true; the input reads as it did. -/
def fnKeepsRuleUptoRow : OpenClaim := { program := "ytgpjckmmleagbab", sum := "bd31655f51fec7fc12f011a88a7855b347672e3668b44e59c458dcf49b76b236", func := "loop.example/dutyrosters/laws.FnKeepsRule", spec := "fnKeepsRule", inPlace := ["internal/bytealg.IndexByteString", "internal/bytealg.IndexString"], unfollowed := true, recurses := true, named := ["internal/bytealg.MaxLen"], plainKeys := false, apart := false, narrowed := true }
def FnKeepsRuleUptoSaid : Prop := fnKeepsRuleUptoRow.holds Try.pinned (OpenSpec.upto fnKeepsRuleSpec)

/-- 'laws.FnMachineFor', WHERE WHAT IT READS IS OF BULK AT MOST 1048576: true; the input reads as it did. -/
def fnMachineForUptoRow : OpenClaim := { program := "ytgpjckmmleagbab", sum := "bd31655f51fec7fc12f011a88a7855b347672e3668b44e59c458dcf49b76b236", func := "loop.example/dutyrosters/laws.FnMachineFor", spec := "fnMachineFor", inPlace := ["internal/bytealg.IndexByteString", "internal/bytealg.IndexString"], unfollowed := true, recurses := true, named := ["internal/bytealg.MaxLen"], plainKeys := false, apart := false, narrowed := true }
def FnMachineForUptoSaid : Prop := fnMachineForUptoRow.holds Try.pinned (OpenSpec.upto fnMachineForSpec)

/-- 'laws.FnBrokenAt', WHERE WHAT IT READS IS OF BULK AT MOST 1048576: true; the input reads as it did. -/
def fnBrokenAtUptoRow : OpenClaim := { program := "ytgpjckmmleagbab", sum := "bd31655f51fec7fc12f011a88a7855b347672e3668b44e59c458dcf49b76b236", func := "loop.example/dutyrosters/laws.FnBrokenAt", spec := "fnBrokenAt", inPlace := ["internal/bytealg.IndexByteString", "internal/bytealg.IndexString"], unfollowed := true, recurses := true, named := ["internal/bytealg.MaxLen"], plainKeys := false, apart := false, narrowed := true }
def FnBrokenAtUptoSaid : Prop := fnBrokenAtUptoRow.holds Try.pinned (OpenSpec.upto fnBrokenAtSpec)

end Rows
end Go.Proofs.Ytgpjckmmleagbab

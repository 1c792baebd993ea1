/-
  No cell of these rows narrows 'for every input' (looked for: loops, veiled, ifaces, maps, wideKeys, modest, calm, conditions, laid).
  DERIVED. THE GIVEN ROWS OF THIS SEAT. 8 by the template 'for every input the law returns true; each argument reads behind the call as it read before'; 0 by the template 'total and deterministic' (their statements: YtlfjecaffmfgcabTotals.lean).
  GIVEN WITH THE SEED: the statements are not yours to turn. If you find one false, say at which input.
  Laid BY PROGRAM, IN A SANDBOX (cutbox-rows.mjs): the forced cells as the released guide's own fill.sh prints them over the translation 35ef65bbef08fdb0… (all of the seat's roots in one cut). By AI agents, Wed Nov 11 2026. No macro, syntax, notation, axiom, sorry.
-/
import Derived.Test.YtlfjecaffmfgcabChecked
import GoSem.Claim
import GoSem.ClaimJoined
import GoSem.ClaimMapViews
import Derived.JoinedTies
import Derived.KernelRfl
namespace Go.Proofs.Ytlfjecaffmfgcab
/- THE CELL 'sum', in the pinned program and in every row, IS THE sha256 OF THE DUMP (.gsa) THAT YtlfjecaffmfgcabProg.lean LOADS. Nothing in Lean hashes anything: it is a label: what it is worth is what the hold of that sum in a sandbox is worth. -/
noncomputable def Try.pinned : Pinned := { name := "ytlfjecaffmfgcab", sum := "35ef65bbef08fdb0f4ccf82adaad2f012ae9a4a1af080b67fdaff033a061bee0", checked := Try.checked }
namespace Rows
def none {H : Type} : Left H := { results := [], args := [] }

/-- 'laws.FnTermOk': WHATEVER THE INPUT: true; the input reads as it did. -/
def fnTermOkSpec : ChangeSpec := { name := "fnTermOk", fn := fun _ => fun
  | [d] => { results := [.lit (.bool true)], args := [d] }
  | _ => none }
def fnTermOkRow : OpenClaim := { program := "ytlfjecaffmfgcab", sum := "35ef65bbef08fdb0f4ccf82adaad2f012ae9a4a1af080b67fdaff033a061bee0", func := "loop.example/dutyrosters/laws.FnTermOk", spec := "fnTermOk", inPlace := ["internal/bytealg.IndexByteString"], plainKeys := false, apart := false }
def FnTermOkSaid : Prop := fnTermOkRow.holds Try.pinned (OpenSpec.ofChange fnTermOkSpec)

/-- ITS FALSE NEIGHBOUR: 'it returns false'. Refute it at one input. -/
def fnTermOkWrong : ChangeSpec := { name := "fnTermOk", fn := fun _ => fun
  | [d] => { results := [.lit (.bool false)], args := [d] }
  | _ => none }
def FnTermOkWrongFalsely : Prop := fnTermOkRow.holds Try.pinned (OpenSpec.ofChange fnTermOkWrong)

/-- 'laws.FnRulesIn': WHATEVER THE INPUT: true; the input reads as it did. -/
def fnRulesInSpec : ChangeSpec := { name := "fnRulesIn", fn := fun _ => fun
  | [d] => { results := [.lit (.bool true)], args := [d] }
  | _ => none }
def fnRulesInRow : OpenClaim := { program := "ytlfjecaffmfgcab", sum := "35ef65bbef08fdb0f4ccf82adaad2f012ae9a4a1af080b67fdaff033a061bee0", func := "loop.example/dutyrosters/laws.FnRulesIn", spec := "fnRulesIn", inPlace := ["internal/bytealg.IndexByteString"], unfollowed := true, recurses := true, plainKeys := false, apart := false }
def FnRulesInSaid : Prop := fnRulesInRow.holds Try.pinned (OpenSpec.ofChange fnRulesInSpec)

/-- ITS FALSE NEIGHBOUR: 'it returns false'. Refute it at one input. -/
def fnRulesInWrong : ChangeSpec := { name := "fnRulesIn", fn := fun _ => fun
  | [d] => { results := [.lit (.bool false)], args := [d] }
  | _ => none }
def FnRulesInWrongFalsely : Prop := fnRulesInRow.holds Try.pinned (OpenSpec.ofChange fnRulesInWrong)

/-- 'laws.FnMachineFor': WHATEVER THE INPUT: true; the input reads as it did. -/
def fnMachineForSpec : ChangeSpec := { name := "fnMachineFor", fn := fun _ => fun
  | [d1, d2] => { results := [.lit (.bool true)], args := [d1, d2] }
  | _ => none }
def fnMachineForRow : OpenClaim := { program := "ytlfjecaffmfgcab", sum := "35ef65bbef08fdb0f4ccf82adaad2f012ae9a4a1af080b67fdaff033a061bee0", func := "loop.example/dutyrosters/laws.FnMachineFor", spec := "fnMachineFor", inPlace := ["internal/bytealg.IndexByteString", "internal/bytealg.IndexString"], unfollowed := true, recurses := true, named := ["internal/bytealg.MaxLen"], plainKeys := false, apart := false }
def FnMachineForSaid : Prop := fnMachineForRow.holds Try.pinned (OpenSpec.ofChange fnMachineForSpec)

/-- ITS FALSE NEIGHBOUR: 'it returns false'. Refute it at one input. -/
def fnMachineForWrong : ChangeSpec := { name := "fnMachineFor", fn := fun _ => fun
  | [d1, d2] => { results := [.lit (.bool false)], args := [d1, d2] }
  | _ => none }
def FnMachineForWrongFalsely : Prop := fnMachineForRow.holds Try.pinned (OpenSpec.ofChange fnMachineForWrong)

/-- 'laws.FnTakesOk': WHATEVER THE INPUT: true; the input reads as it did. -/
def fnTakesOkSpec : ChangeSpec := { name := "fnTakesOk", fn := fun _ => fun
  | [d] => { results := [.lit (.bool true)], args := [d] }
  | _ => none }
def fnTakesOkRow : OpenClaim := { program := "ytlfjecaffmfgcab", sum := "35ef65bbef08fdb0f4ccf82adaad2f012ae9a4a1af080b67fdaff033a061bee0", func := "loop.example/dutyrosters/laws.FnTakesOk", spec := "fnTakesOk", inPlace := ["internal/bytealg.IndexByteString"], unfollowed := true, recurses := true, plainKeys := false, apart := false }
def FnTakesOkSaid : Prop := fnTakesOkRow.holds Try.pinned (OpenSpec.ofChange fnTakesOkSpec)

/-- ITS FALSE NEIGHBOUR: 'it returns false'. Refute it at one input. -/
def fnTakesOkWrong : ChangeSpec := { name := "fnTakesOk", fn := fun _ => fun
  | [d] => { results := [.lit (.bool false)], args := [d] }
  | _ => none }
def FnTakesOkWrongFalsely : Prop := fnTakesOkRow.holds Try.pinned (OpenSpec.ofChange fnTakesOkWrong)

/-- 'laws.FnTrimmedMachine': WHATEVER THE INPUT: true; the input reads as it did. -/
def fnTrimmedMachineSpec : ChangeSpec := { name := "fnTrimmedMachine", fn := fun _ => fun
  | [d] => { results := [.lit (.bool true)], args := [d] }
  | _ => none }
def fnTrimmedMachineRow : OpenClaim := { program := "ytlfjecaffmfgcab", sum := "35ef65bbef08fdb0f4ccf82adaad2f012ae9a4a1af080b67fdaff033a061bee0", func := "loop.example/dutyrosters/laws.FnTrimmedMachine", spec := "fnTrimmedMachine", inPlace := ["internal/bytealg.IndexByteString"], unfollowed := true, recurses := true, plainKeys := false, apart := false }
def FnTrimmedMachineSaid : Prop := fnTrimmedMachineRow.holds Try.pinned (OpenSpec.ofChange fnTrimmedMachineSpec)

/-- ITS FALSE NEIGHBOUR: 'it returns false'. Refute it at one input. -/
def fnTrimmedMachineWrong : ChangeSpec := { name := "fnTrimmedMachine", fn := fun _ => fun
  | [d] => { results := [.lit (.bool false)], args := [d] }
  | _ => none }
def FnTrimmedMachineWrongFalsely : Prop := fnTrimmedMachineRow.holds Try.pinned (OpenSpec.ofChange fnTrimmedMachineWrong)

/-- 'laws.FnLeastMachine': WHATEVER THE INPUT: true; the input reads as it did. -/
def fnLeastMachineSpec : ChangeSpec := { name := "fnLeastMachine", fn := fun _ => fun
  | [d1, d2] => { results := [.lit (.bool true)], args := [d1, d2] }
  | _ => none }
def fnLeastMachineRow : OpenClaim := { program := "ytlfjecaffmfgcab", sum := "35ef65bbef08fdb0f4ccf82adaad2f012ae9a4a1af080b67fdaff033a061bee0", func := "loop.example/dutyrosters/laws.FnLeastMachine", spec := "fnLeastMachine", inPlace := ["internal/bytealg.IndexByteString"], unfollowed := true, recurses := true, plainKeys := false, apart := false }
def FnLeastMachineSaid : Prop := fnLeastMachineRow.holds Try.pinned (OpenSpec.ofChange fnLeastMachineSpec)

/-- ITS FALSE NEIGHBOUR: 'it returns false'. Refute it at one input. -/
def fnLeastMachineWrong : ChangeSpec := { name := "fnLeastMachine", fn := fun _ => fun
  | [d1, d2] => { results := [.lit (.bool false)], args := [d1, d2] }
  | _ => none }
def FnLeastMachineWrongFalsely : Prop := fnLeastMachineRow.holds Try.pinned (OpenSpec.ofChange fnLeastMachineWrong)

/-- 'laws.FnNotMachine': WHATEVER THE INPUT: true; the input reads as it did. -/
def fnNotMachineSpec : ChangeSpec := { name := "fnNotMachine", fn := fun _ => fun
  | [d1, d2] => { results := [.lit (.bool true)], args := [d1, d2] }
  | _ => none }
def fnNotMachineRow : OpenClaim := { program := "ytlfjecaffmfgcab", sum := "35ef65bbef08fdb0f4ccf82adaad2f012ae9a4a1af080b67fdaff033a061bee0", func := "loop.example/dutyrosters/laws.FnNotMachine", spec := "fnNotMachine", inPlace := ["internal/bytealg.IndexByteString"], unfollowed := true, recurses := true, plainKeys := false, apart := false }
def FnNotMachineSaid : Prop := fnNotMachineRow.holds Try.pinned (OpenSpec.ofChange fnNotMachineSpec)

/-- ITS FALSE NEIGHBOUR: 'it returns false'. Refute it at one input. -/
def fnNotMachineWrong : ChangeSpec := { name := "fnNotMachine", fn := fun _ => fun
  | [d1, d2] => { results := [.lit (.bool false)], args := [d1, d2] }
  | _ => none }
def FnNotMachineWrongFalsely : Prop := fnNotMachineRow.holds Try.pinned (OpenSpec.ofChange fnNotMachineWrong)

/-- 'laws.FnShortestTaken': WHATEVER THE INPUT: true; the input reads as it did. -/
def fnShortestTakenSpec : ChangeSpec := { name := "fnShortestTaken", fn := fun _ => fun
  | [d1, d2] => { results := [.lit (.bool true)], args := [d1, d2] }
  | _ => none }
def fnShortestTakenRow : OpenClaim := { program := "ytlfjecaffmfgcab", sum := "35ef65bbef08fdb0f4ccf82adaad2f012ae9a4a1af080b67fdaff033a061bee0", func := "loop.example/dutyrosters/laws.FnShortestTaken", spec := "fnShortestTaken", inPlace := ["internal/bytealg.IndexByteString"], unfollowed := true, recurses := true, plainKeys := false, apart := false }
def FnShortestTakenSaid : Prop := fnShortestTakenRow.holds Try.pinned (OpenSpec.ofChange fnShortestTakenSpec)

/-- ITS FALSE NEIGHBOUR: 'it returns false'. Refute it at one input. -/
def fnShortestTakenWrong : ChangeSpec := { name := "fnShortestTaken", fn := fun _ => fun
  | [d1, d2] => { results := [.lit (.bool false)], args := [d1, d2] }
  | _ => none }
def FnShortestTakenWrongFalsely : Prop := fnShortestTakenRow.holds Try.pinned (OpenSpec.ofChange fnShortestTakenWrong)

/- THE SECOND FORM. 'bulk': how many values and letters a reading holds, each counted each time it is reached (what is shared counts as often as it is met; a slice's spare places count too). A statement '..UptoSaid' is the law's where the arguments, and the package variables that the reading takes, are together of bulk at most 1048576: NARROWER than '..Said'. Prove '..Said' where nothing that the law and all that it calls make is longer than what came in: it says more and counts as full. Else prove '..UptoSaid'. A law counts once. -/
mutual
def uptoBulk {H : Type} : DataW H → Nat
  | .lit (.string bytes) => bytes.length + 1
  | .lit _ => 1
  | .nil => 1
  | .ptr d => uptoBulk d + 1
  | .slice elems spare => uptoBulkAll elems + uptoBulkAll spare + 1
  | .agg parts => uptoBulkAll parts + 1
  | .iface _ d => uptoBulk d + 1
  | .map entries => uptoBulkEntries entries + 1
  | .held _ => 1
def uptoBulkAll {H : Type} : List (DataW H) → Nat
  | [] => 0
  | d :: r => uptoBulk d + uptoBulkAll r
def uptoBulkEntries {H : Type} : List (Lit × DataW H) → Nat
  | [] => 0
  | x :: r => uptoBulkEntry x + uptoBulkEntries r
def uptoBulkEntry {H : Type} : Lit × DataW H → Nat
  | (.string bytes, d) => bytes.length + uptoBulk d + 1
  | (_, d) => uptoBulk d + 1
 end
def uptoSmall : (H : Type) → List (DataW H) → Bool := fun _ ds => decide (uptoBulkAll ds ≤ 1048576)
def OpenSpec.upto (s : _root_.Go.ChangeSpec) : _root_.Go.OpenSpec := { _root_.Go.OpenSpec.ofChange s with cond := some uptoSmall }

/-- 'laws.FnTermOk', WHERE WHAT IT READS IS OF BULK AT MOST 1048576: true; the input reads as it did. -/
def fnTermOkUptoRow : OpenClaim := { program := "ytlfjecaffmfgcab", sum := "35ef65bbef08fdb0f4ccf82adaad2f012ae9a4a1af080b67fdaff033a061bee0", func := "loop.example/dutyrosters/laws.FnTermOk", spec := "fnTermOk", inPlace := ["internal/bytealg.IndexByteString"], plainKeys := false, apart := false, narrowed := true }
def FnTermOkUptoSaid : Prop := fnTermOkUptoRow.holds Try.pinned (OpenSpec.upto fnTermOkSpec)

/-- 'laws.FnRulesIn', WHERE WHAT IT READS IS OF BULK AT MOST 1048576: true; the input reads as it did. -/
def fnRulesInUptoRow : OpenClaim := { program := "ytlfjecaffmfgcab", sum := "35ef65bbef08fdb0f4ccf82adaad2f012ae9a4a1af080b67fdaff033a061bee0", func := "loop.example/dutyrosters/laws.FnRulesIn", spec := "fnRulesIn", inPlace := ["internal/bytealg.IndexByteString"], unfollowed := true, recurses := true, plainKeys := false, apart := false, narrowed := true }
def FnRulesInUptoSaid : Prop := fnRulesInUptoRow.holds Try.pinned (OpenSpec.upto fnRulesInSpec)

/-- 'laws.FnMachineFor', WHERE WHAT IT READS IS OF BULK AT MOST 1048576: true; the input reads as it did. -/
def fnMachineForUptoRow : OpenClaim := { program := "ytlfjecaffmfgcab", sum := "35ef65bbef08fdb0f4ccf82adaad2f012ae9a4a1af080b67fdaff033a061bee0", func := "loop.example/dutyrosters/laws.FnMachineFor", spec := "fnMachineFor", inPlace := ["internal/bytealg.IndexByteString", "internal/bytealg.IndexString"], unfollowed := true, recurses := true, named := ["internal/bytealg.MaxLen"], plainKeys := false, apart := false, narrowed := true }
def FnMachineForUptoSaid : Prop := fnMachineForUptoRow.holds Try.pinned (OpenSpec.upto fnMachineForSpec)

/-- 'laws.FnTakesOk', WHERE WHAT IT READS IS OF BULK AT MOST 1048576: true; the input reads as it did. -/
def fnTakesOkUptoRow : OpenClaim := { program := "ytlfjecaffmfgcab", sum := "35ef65bbef08fdb0f4ccf82adaad2f012ae9a4a1af080b67fdaff033a061bee0", func := "loop.example/dutyrosters/laws.FnTakesOk", spec := "fnTakesOk", inPlace := ["internal/bytealg.IndexByteString"], unfollowed := true, recurses := true, plainKeys := false, apart := false, narrowed := true }
def FnTakesOkUptoSaid : Prop := fnTakesOkUptoRow.holds Try.pinned (OpenSpec.upto fnTakesOkSpec)

/-- 'laws.FnTrimmedMachine', WHERE WHAT IT READS IS OF BULK AT MOST 1048576: true; the input reads as it did. -/
def fnTrimmedMachineUptoRow : OpenClaim := { program := "ytlfjecaffmfgcab", sum := "35ef65bbef08fdb0f4ccf82adaad2f012ae9a4a1af080b67fdaff033a061bee0", func := "loop.example/dutyrosters/laws.FnTrimmedMachine", spec := "fnTrimmedMachine", inPlace := ["internal/bytealg.IndexByteString"], unfollowed := true, recurses := true, plainKeys := false, apart := false, narrowed := true }
def FnTrimmedMachineUptoSaid : Prop := fnTrimmedMachineUptoRow.holds Try.pinned (OpenSpec.upto fnTrimmedMachineSpec)

/-- 'laws.FnLeastMachine', WHERE WHAT IT READS IS OF BULK AT MOST 1048576: true; the input reads as it did. -/
def fnLeastMachineUptoRow : OpenClaim := { program := "ytlfjecaffmfgcab", sum := "35ef65bbef08fdb0f4ccf82adaad2f012ae9a4a1af080b67fdaff033a061bee0", func := "loop.example/dutyrosters/laws.FnLeastMachine", spec := "fnLeastMachine", inPlace := ["internal/bytealg.IndexByteString"], unfollowed := true, recurses := true, plainKeys := false, apart := false, narrowed := true }
def FnLeastMachineUptoSaid : Prop := fnLeastMachineUptoRow.holds Try.pinned (OpenSpec.upto fnLeastMachineSpec)

/-- 'laws.FnNotMachine', WHERE WHAT IT READS IS OF BULK AT MOST 1048576: true; the input reads as it did. -/
def fnNotMachineUptoRow : OpenClaim := { program := "ytlfjecaffmfgcab", sum := "35ef65bbef08fdb0f4ccf82adaad2f012ae9a4a1af080b67fdaff033a061bee0", func := "loop.example/dutyrosters/laws.FnNotMachine", spec := "fnNotMachine", inPlace := ["internal/bytealg.IndexByteString"], unfollowed := true, recurses := true, plainKeys := false, apart := false, narrowed := true }
def FnNotMachineUptoSaid : Prop := fnNotMachineUptoRow.holds Try.pinned (OpenSpec.upto fnNotMachineSpec)

/-- 'laws.FnShortestTaken', WHERE WHAT IT READS IS OF BULK AT MOST 1048576: true; the input reads as it did. -/
def fnShortestTakenUptoRow : OpenClaim := { program := "ytlfjecaffmfgcab", sum := "35ef65bbef08fdb0f4ccf82adaad2f012ae9a4a1af080b67fdaff033a061bee0", func := "loop.example/dutyrosters/laws.FnShortestTaken", spec := "fnShortestTaken", inPlace := ["internal/bytealg.IndexByteString"], unfollowed := true, recurses := true, plainKeys := false, apart := false, narrowed := true }
def FnShortestTakenUptoSaid : Prop := fnShortestTakenUptoRow.holds Try.pinned (OpenSpec.upto fnShortestTakenSpec)

end Rows
end Go.Proofs.Ytlfjecaffmfgcab

/-
  No cell of these rows narrows 'for every input' (looked for: loops, veiled, ifaces, maps, wideKeys, modest, calm, conditions, laid).
  DERIVED. THE GIVEN ROWS OF THIS SEAT. 10 by the template 'for every input the law returns true; each argument reads behind the call as it read before'; 0 by the template 'total and deterministic' (their statements: YtbcjbdhanmkpjabTotals.lean).
  GIVEN WITH THE SEED: the statements are not yours to turn. If you find one false, say at which input.
  Laid BY PROGRAM, IN A SANDBOX (cutbox-rows.mjs): the forced cells as the released guide's own fill.sh prints them over the translation 9151a1754cfc9adc… (all of the seat's roots in one cut). By AI agents, Wed Nov 11 2026. No macro, syntax, notation, axiom, sorry.
-/
import Derived.Test.YtbcjbdhanmkpjabChecked
import GoSem.Claim
import GoSem.ClaimJoined
import GoSem.ClaimMapViews
import Derived.JoinedTies
import Derived.KernelRfl
namespace Go.Proofs.Ytbcjbdhanmkpjab
/- THE CELL 'sum', in the pinned program and in every row, IS THE sha256 OF THE DUMP (.gsa) THAT YtbcjbdhanmkpjabProg.lean LOADS. Nothing in Lean hashes anything: it is a label: what it is worth is what the hold of that sum in a sandbox is worth. -/
noncomputable def Try.pinned : Pinned := { name := "ytbcjbdhanmkpjab", sum := "9151a1754cfc9adcfe0e4fe54c1f26979e189c5a03b577b7cfed5e9472164edf", checked := Try.checked }
namespace Rows
def none {H : Type} : Left H := { results := [], args := [] }

/-- 'laws.FnExactMachineOk': WHATEVER THE INPUT: true; the input reads as it did. -/
def fnExactMachineOkSpec : ChangeSpec := { name := "fnExactMachineOk", fn := fun _ => fun
  | [d] => { results := [.lit (.bool true)], args := [d] }
  | _ => none }
def fnExactMachineOkRow : OpenClaim := { program := "ytbcjbdhanmkpjab", sum := "9151a1754cfc9adcfe0e4fe54c1f26979e189c5a03b577b7cfed5e9472164edf", func := "loop.example/dutyrosters/laws.FnExactMachineOk", spec := "fnExactMachineOk", plainKeys := false, apart := false }
def FnExactMachineOkSaid : Prop := fnExactMachineOkRow.holds Try.pinned (OpenSpec.ofChange fnExactMachineOkSpec)

/-- ITS FALSE NEIGHBOUR: 'it returns false'. Refute it at one input. -/
def fnExactMachineOkWrong : ChangeSpec := { name := "fnExactMachineOk", fn := fun _ => fun
  | [d] => { results := [.lit (.bool false)], args := [d] }
  | _ => none }
def FnExactMachineOkWrongFalsely : Prop := fnExactMachineOkRow.holds Try.pinned (OpenSpec.ofChange fnExactMachineOkWrong)

/-- 'laws.FnExactStateAfter': WHATEVER THE INPUT: true; the input reads as it did. -/
def fnExactStateAfterSpec : ChangeSpec := { name := "fnExactStateAfter", fn := fun _ => fun
  | [d1, d2] => { results := [.lit (.bool true)], args := [d1, d2] }
  | _ => none }
def fnExactStateAfterRow : OpenClaim := { program := "ytbcjbdhanmkpjab", sum := "9151a1754cfc9adcfe0e4fe54c1f26979e189c5a03b577b7cfed5e9472164edf", func := "loop.example/dutyrosters/laws.FnExactStateAfter", spec := "fnExactStateAfter", inPlace := ["internal/bytealg.IndexByteString"], plainKeys := false, apart := false }
def FnExactStateAfterSaid : Prop := fnExactStateAfterRow.holds Try.pinned (OpenSpec.ofChange fnExactStateAfterSpec)

/-- ITS FALSE NEIGHBOUR: 'it returns false'. Refute it at one input. -/
def fnExactStateAfterWrong : ChangeSpec := { name := "fnExactStateAfter", fn := fun _ => fun
  | [d1, d2] => { results := [.lit (.bool false)], args := [d1, d2] }
  | _ => none }
def FnExactStateAfterWrongFalsely : Prop := fnExactStateAfterRow.holds Try.pinned (OpenSpec.ofChange fnExactStateAfterWrong)

/-- 'laws.FnExactTakesOk': WHATEVER THE INPUT: true; the input reads as it did. -/
def fnExactTakesOkSpec : ChangeSpec := { name := "fnExactTakesOk", fn := fun _ => fun
  | [d1, d2] => { results := [.lit (.bool true)], args := [d1, d2] }
  | _ => none }
def fnExactTakesOkRow : OpenClaim := { program := "ytbcjbdhanmkpjab", sum := "9151a1754cfc9adcfe0e4fe54c1f26979e189c5a03b577b7cfed5e9472164edf", func := "loop.example/dutyrosters/laws.FnExactTakesOk", spec := "fnExactTakesOk", inPlace := ["internal/bytealg.IndexByteString"], plainKeys := false, apart := false }
def FnExactTakesOkSaid : Prop := fnExactTakesOkRow.holds Try.pinned (OpenSpec.ofChange fnExactTakesOkSpec)

/-- ITS FALSE NEIGHBOUR: 'it returns false'. Refute it at one input. -/
def fnExactTakesOkWrong : ChangeSpec := { name := "fnExactTakesOk", fn := fun _ => fun
  | [d1, d2] => { results := [.lit (.bool false)], args := [d1, d2] }
  | _ => none }
def FnExactTakesOkWrongFalsely : Prop := fnExactTakesOkRow.holds Try.pinned (OpenSpec.ofChange fnExactTakesOkWrong)

/-- 'laws.FnExactTrimmedMachine': WHATEVER THE INPUT: true; the input reads as it did. -/
def fnExactTrimmedMachineSpec : ChangeSpec := { name := "fnExactTrimmedMachine", fn := fun _ => fun
  | [d] => { results := [.lit (.bool true)], args := [d] }
  | _ => none }
def fnExactTrimmedMachineRow : OpenClaim := { program := "ytbcjbdhanmkpjab", sum := "9151a1754cfc9adcfe0e4fe54c1f26979e189c5a03b577b7cfed5e9472164edf", func := "loop.example/dutyrosters/laws.FnExactTrimmedMachine", spec := "fnExactTrimmedMachine", unfollowed := true, recurses := true, plainKeys := false, apart := false }
def FnExactTrimmedMachineSaid : Prop := fnExactTrimmedMachineRow.holds Try.pinned (OpenSpec.ofChange fnExactTrimmedMachineSpec)

/-- ITS FALSE NEIGHBOUR: 'it returns false'. Refute it at one input. -/
def fnExactTrimmedMachineWrong : ChangeSpec := { name := "fnExactTrimmedMachine", fn := fun _ => fun
  | [d] => { results := [.lit (.bool false)], args := [d] }
  | _ => none }
def FnExactTrimmedMachineWrongFalsely : Prop := fnExactTrimmedMachineRow.holds Try.pinned (OpenSpec.ofChange fnExactTrimmedMachineWrong)

/-- 'laws.FnExactLeastMachine': WHATEVER THE INPUT: true; the input reads as it did. -/
def fnExactLeastMachineSpec : ChangeSpec := { name := "fnExactLeastMachine", fn := fun _ => fun
  | [d] => { results := [.lit (.bool true)], args := [d] }
  | _ => none }
def fnExactLeastMachineRow : OpenClaim := { program := "ytbcjbdhanmkpjab", sum := "9151a1754cfc9adcfe0e4fe54c1f26979e189c5a03b577b7cfed5e9472164edf", func := "loop.example/dutyrosters/laws.FnExactLeastMachine", spec := "fnExactLeastMachine", unfollowed := true, recurses := true, plainKeys := false, apart := false }
def FnExactLeastMachineSaid : Prop := fnExactLeastMachineRow.holds Try.pinned (OpenSpec.ofChange fnExactLeastMachineSpec)

/-- ITS FALSE NEIGHBOUR: 'it returns false'. Refute it at one input. -/
def fnExactLeastMachineWrong : ChangeSpec := { name := "fnExactLeastMachine", fn := fun _ => fun
  | [d] => { results := [.lit (.bool false)], args := [d] }
  | _ => none }
def FnExactLeastMachineWrongFalsely : Prop := fnExactLeastMachineRow.holds Try.pinned (OpenSpec.ofChange fnExactLeastMachineWrong)

/-- 'laws.FnExactSameOk': WHATEVER THE INPUT: true; the input reads as it did. -/
def fnExactSameOkSpec : ChangeSpec := { name := "fnExactSameOk", fn := fun _ => fun
  | [d1, d2] => { results := [.lit (.bool true)], args := [d1, d2] }
  | _ => none }
def fnExactSameOkRow : OpenClaim := { program := "ytbcjbdhanmkpjab", sum := "9151a1754cfc9adcfe0e4fe54c1f26979e189c5a03b577b7cfed5e9472164edf", func := "loop.example/dutyrosters/laws.FnExactSameOk", spec := "fnExactSameOk", unfollowed := true, recurses := true, plainKeys := false, apart := false }
def FnExactSameOkSaid : Prop := fnExactSameOkRow.holds Try.pinned (OpenSpec.ofChange fnExactSameOkSpec)

/-- ITS FALSE NEIGHBOUR: 'it returns false'. Refute it at one input. -/
def fnExactSameOkWrong : ChangeSpec := { name := "fnExactSameOk", fn := fun _ => fun
  | [d1, d2] => { results := [.lit (.bool false)], args := [d1, d2] }
  | _ => none }
def FnExactSameOkWrongFalsely : Prop := fnExactSameOkRow.holds Try.pinned (OpenSpec.ofChange fnExactSameOkWrong)

/-- 'laws.FnExactBothMachines': WHATEVER THE INPUT: true; the input reads as it did. -/
def fnExactBothMachinesSpec : ChangeSpec := { name := "fnExactBothMachines", fn := fun _ => fun
  | [d1, d2] => { results := [.lit (.bool true)], args := [d1, d2] }
  | _ => none }
def fnExactBothMachinesRow : OpenClaim := { program := "ytbcjbdhanmkpjab", sum := "9151a1754cfc9adcfe0e4fe54c1f26979e189c5a03b577b7cfed5e9472164edf", func := "loop.example/dutyrosters/laws.FnExactBothMachines", spec := "fnExactBothMachines", unfollowed := true, recurses := true, plainKeys := false, apart := false }
def FnExactBothMachinesSaid : Prop := fnExactBothMachinesRow.holds Try.pinned (OpenSpec.ofChange fnExactBothMachinesSpec)

/-- ITS FALSE NEIGHBOUR: 'it returns false'. Refute it at one input. -/
def fnExactBothMachinesWrong : ChangeSpec := { name := "fnExactBothMachines", fn := fun _ => fun
  | [d1, d2] => { results := [.lit (.bool false)], args := [d1, d2] }
  | _ => none }
def FnExactBothMachinesWrongFalsely : Prop := fnExactBothMachinesRow.holds Try.pinned (OpenSpec.ofChange fnExactBothMachinesWrong)

/-- 'laws.FnExactEitherMachine': WHATEVER THE INPUT: true; the input reads as it did. -/
def fnExactEitherMachineSpec : ChangeSpec := { name := "fnExactEitherMachine", fn := fun _ => fun
  | [d1, d2] => { results := [.lit (.bool true)], args := [d1, d2] }
  | _ => none }
def fnExactEitherMachineRow : OpenClaim := { program := "ytbcjbdhanmkpjab", sum := "9151a1754cfc9adcfe0e4fe54c1f26979e189c5a03b577b7cfed5e9472164edf", func := "loop.example/dutyrosters/laws.FnExactEitherMachine", spec := "fnExactEitherMachine", unfollowed := true, recurses := true, plainKeys := false, apart := false }
def FnExactEitherMachineSaid : Prop := fnExactEitherMachineRow.holds Try.pinned (OpenSpec.ofChange fnExactEitherMachineSpec)

/-- ITS FALSE NEIGHBOUR: 'it returns false'. Refute it at one input. -/
def fnExactEitherMachineWrong : ChangeSpec := { name := "fnExactEitherMachine", fn := fun _ => fun
  | [d1, d2] => { results := [.lit (.bool false)], args := [d1, d2] }
  | _ => none }
def FnExactEitherMachineWrongFalsely : Prop := fnExactEitherMachineRow.holds Try.pinned (OpenSpec.ofChange fnExactEitherMachineWrong)

/-- 'laws.FnExactNotMachine': WHATEVER THE INPUT: true; the input reads as it did. -/
def fnExactNotMachineSpec : ChangeSpec := { name := "fnExactNotMachine", fn := fun _ => fun
  | [d] => { results := [.lit (.bool true)], args := [d] }
  | _ => none }
def fnExactNotMachineRow : OpenClaim := { program := "ytbcjbdhanmkpjab", sum := "9151a1754cfc9adcfe0e4fe54c1f26979e189c5a03b577b7cfed5e9472164edf", func := "loop.example/dutyrosters/laws.FnExactNotMachine", spec := "fnExactNotMachine", unfollowed := true, recurses := true, plainKeys := false, apart := false }
def FnExactNotMachineSaid : Prop := fnExactNotMachineRow.holds Try.pinned (OpenSpec.ofChange fnExactNotMachineSpec)

/-- ITS FALSE NEIGHBOUR: 'it returns false'. Refute it at one input. -/
def fnExactNotMachineWrong : ChangeSpec := { name := "fnExactNotMachine", fn := fun _ => fun
  | [d] => { results := [.lit (.bool false)], args := [d] }
  | _ => none }
def FnExactNotMachineWrongFalsely : Prop := fnExactNotMachineRow.holds Try.pinned (OpenSpec.ofChange fnExactNotMachineWrong)

/-- 'laws.FnExactShortestTaken': WHATEVER THE INPUT: true; the input reads as it did. -/
def fnExactShortestTakenSpec : ChangeSpec := { name := "fnExactShortestTaken", fn := fun _ => fun
  | [d] => { results := [.lit (.bool true)], args := [d] }
  | _ => none }
def fnExactShortestTakenRow : OpenClaim := { program := "ytbcjbdhanmkpjab", sum := "9151a1754cfc9adcfe0e4fe54c1f26979e189c5a03b577b7cfed5e9472164edf", func := "loop.example/dutyrosters/laws.FnExactShortestTaken", spec := "fnExactShortestTaken", inPlace := ["internal/bytealg.IndexByteString"], plainKeys := false, apart := false }
def FnExactShortestTakenSaid : Prop := fnExactShortestTakenRow.holds Try.pinned (OpenSpec.ofChange fnExactShortestTakenSpec)

/-- ITS FALSE NEIGHBOUR: 'it returns false'. Refute it at one input. -/
def fnExactShortestTakenWrong : ChangeSpec := { name := "fnExactShortestTaken", fn := fun _ => fun
  | [d] => { results := [.lit (.bool false)], args := [d] }
  | _ => none }
def FnExactShortestTakenWrongFalsely : Prop := fnExactShortestTakenRow.holds Try.pinned (OpenSpec.ofChange fnExactShortestTakenWrong)

/- THE SECOND FORM. 'bulk': how many values and letters a reading holds, each counted each time it is reached (what is shared counts as often as it is met; a slice's spare places count too). A statement '..UptoSaid' is the law's where the arguments, and the package variables that the reading takes, are together of bulk at most 1048576: NARROWER than '..Said'. Prove '..Said' where nothing that the law and all that it calls make is longer than what came in: it says more and counts as full. Else prove '..UptoSaid'. A law counts once. -/
mutual
def uptoBulk {H : Type} : DataW H → Nat
  | .lit (.string bytes) => bytes.length + 1
  | .lit _ => 1
  | .nil => 1
  | .ptr d => uptoBulk d + 1
  | .slice elems spare => uptoBulkAll elems + uptoBulkAll spare + 1
  | .agg parts => uptoBulkAll parts + 1
  | .iface _ d => uptoBulk d + 1
  | .map entries => uptoBulkEntries entries + 1
  | .held _ => 1
def uptoBulkAll {H : Type} : List (DataW H) → Nat
  | [] => 0
  | d :: r => uptoBulk d + uptoBulkAll r
def uptoBulkEntries {H : Type} : List (Lit × DataW H) → Nat
  | [] => 0
  | x :: r => uptoBulkEntry x + uptoBulkEntries r
def uptoBulkEntry {H : Type} : Lit × DataW H → Nat
  | (.string bytes, d) => bytes.length + uptoBulk d + 1
  | (_, d) => uptoBulk d + 1
 end
def uptoSmall : (H : Type) → List (DataW H) → Bool := fun _ ds => decide (uptoBulkAll ds ≤ 1048576)
def OpenSpec.upto (s : _root_.Go.ChangeSpec) : _root_.Go.OpenSpec := { _root_.Go.OpenSpec.ofChange s with cond := some uptoSmall }

/-- 'laws.FnExactMachineOk', WHERE WHAT IT READS IS OF BULK AT MOST 1048576: true; the input reads as it did. -/
def fnExactMachineOkUptoRow : OpenClaim := { program := "ytbcjbdhanmkpjab", sum := "9151a1754cfc9adcfe0e4fe54c1f26979e189c5a03b577b7cfed5e9472164edf", func := "loop.example/dutyrosters/laws.FnExactMachineOk", spec := "fnExactMachineOk", plainKeys := false, apart := false, narrowed := true }
def FnExactMachineOkUptoSaid : Prop := fnExactMachineOkUptoRow.holds Try.pinned (OpenSpec.upto fnExactMachineOkSpec)

/-- 'laws.FnExactStateAfter', WHERE WHAT IT READS IS OF BULK AT MOST 1048576: true; the input reads as it did. -/
def fnExactStateAfterUptoRow : OpenClaim := { program := "ytbcjbdhanmkpjab", sum := "9151a1754cfc9adcfe0e4fe54c1f26979e189c5a03b577b7cfed5e9472164edf", func := "loop.example/dutyrosters/laws.FnExactStateAfter", spec := "fnExactStateAfter", inPlace := ["internal/bytealg.IndexByteString"], plainKeys := false, apart := false, narrowed := true }
def FnExactStateAfterUptoSaid : Prop := fnExactStateAfterUptoRow.holds Try.pinned (OpenSpec.upto fnExactStateAfterSpec)

/-- 'laws.FnExactTakesOk', WHERE WHAT IT READS IS OF BULK AT MOST 1048576: true; the input reads as it did. -/
def fnExactTakesOkUptoRow : OpenClaim := { program := "ytbcjbdhanmkpjab", sum := "9151a1754cfc9adcfe0e4fe54c1f26979e189c5a03b577b7cfed5e9472164edf", func := "loop.example/dutyrosters/laws.FnExactTakesOk", spec := "fnExactTakesOk", inPlace := ["internal/bytealg.IndexByteString"], plainKeys := false, apart := false, narrowed := true }
def FnExactTakesOkUptoSaid : Prop := fnExactTakesOkUptoRow.holds Try.pinned (OpenSpec.upto fnExactTakesOkSpec)

/-- 'laws.FnExactTrimmedMachine', WHERE WHAT IT READS IS OF BULK AT MOST 1048576: true; the input reads as it did. -/
def fnExactTrimmedMachineUptoRow : OpenClaim := { program := "ytbcjbdhanmkpjab", sum := "9151a1754cfc9adcfe0e4fe54c1f26979e189c5a03b577b7cfed5e9472164edf", func := "loop.example/dutyrosters/laws.FnExactTrimmedMachine", spec := "fnExactTrimmedMachine", unfollowed := true, recurses := true, plainKeys := false, apart := false, narrowed := true }
def FnExactTrimmedMachineUptoSaid : Prop := fnExactTrimmedMachineUptoRow.holds Try.pinned (OpenSpec.upto fnExactTrimmedMachineSpec)

/-- 'laws.FnExactLeastMachine', WHERE WHAT IT READS IS OF BULK AT MOST 1048576: true; the input reads as it did. -/
def fnExactLeastMachineUptoRow : OpenClaim := { program := "ytbcjbdhanmkpjab", sum := "9151a1754cfc9adcfe0e4fe54c1f26979e189c5a03b577b7cfed5e9472164edf", func := "loop.example/dutyrosters/laws.FnExactLeastMachine", spec := "fnExactLeastMachine", unfollowed := true, recurses := true, plainKeys := false, apart := false, narrowed := true }
def FnExactLeastMachineUptoSaid : Prop := fnExactLeastMachineUptoRow.holds Try.pinned (OpenSpec.upto fnExactLeastMachineSpec)

/-- 'laws.FnExactSameOk', WHERE WHAT IT READS IS OF BULK AT MOST 1048576: true; the input reads as it did. -/
def fnExactSameOkUptoRow : OpenClaim := { program := "ytbcjbdhanmkpjab", sum := "9151a1754cfc9adcfe0e4fe54c1f26979e189c5a03b577b7cfed5e9472164edf", func := "loop.example/dutyrosters/laws.FnExactSameOk", spec := "fnExactSameOk", unfollowed := true, recurses := true, plainKeys := false, apart := false, narrowed := true }
def FnExactSameOkUptoSaid : Prop := fnExactSameOkUptoRow.holds Try.pinned (OpenSpec.upto fnExactSameOkSpec)

/-- 'laws.FnExactBothMachines', WHERE WHAT IT READS IS OF BULK AT MOST 1048576: true; the input reads as it did. -/
def fnExactBothMachinesUptoRow : OpenClaim := { program := "ytbcjbdhanmkpjab", sum := "9151a1754cfc9adcfe0e4fe54c1f26979e189c5a03b577b7cfed5e9472164edf", func := "loop.example/dutyrosters/laws.FnExactBothMachines", spec := "fnExactBothMachines", unfollowed := true, recurses := true, plainKeys := false, apart := false, narrowed := true }
def FnExactBothMachinesUptoSaid : Prop := fnExactBothMachinesUptoRow.holds Try.pinned (OpenSpec.upto fnExactBothMachinesSpec)

/-- 'laws.FnExactEitherMachine', WHERE WHAT IT READS IS OF BULK AT MOST 1048576: true; the input reads as it did. -/
def fnExactEitherMachineUptoRow : OpenClaim := { program := "ytbcjbdhanmkpjab", sum := "9151a1754cfc9adcfe0e4fe54c1f26979e189c5a03b577b7cfed5e9472164edf", func := "loop.example/dutyrosters/laws.FnExactEitherMachine", spec := "fnExactEitherMachine", unfollowed := true, recurses := true, plainKeys := false, apart := false, narrowed := true }
def FnExactEitherMachineUptoSaid : Prop := fnExactEitherMachineUptoRow.holds Try.pinned (OpenSpec.upto fnExactEitherMachineSpec)

/-- 'laws.FnExactNotMachine', WHERE WHAT IT READS IS OF BULK AT MOST 1048576: true; the input reads as it did. -/
def fnExactNotMachineUptoRow : OpenClaim := { program := "ytbcjbdhanmkpjab", sum := "9151a1754cfc9adcfe0e4fe54c1f26979e189c5a03b577b7cfed5e9472164edf", func := "loop.example/dutyrosters/laws.FnExactNotMachine", spec := "fnExactNotMachine", unfollowed := true, recurses := true, plainKeys := false, apart := false, narrowed := true }
def FnExactNotMachineUptoSaid : Prop := fnExactNotMachineUptoRow.holds Try.pinned (OpenSpec.upto fnExactNotMachineSpec)

/-- 'laws.FnExactShortestTaken', WHERE WHAT IT READS IS OF BULK AT MOST 1048576: true; the input reads as it did. -/
def fnExactShortestTakenUptoRow : OpenClaim := { program := "ytbcjbdhanmkpjab", sum := "9151a1754cfc9adcfe0e4fe54c1f26979e189c5a03b577b7cfed5e9472164edf", func := "loop.example/dutyrosters/laws.FnExactShortestTaken", spec := "fnExactShortestTaken", inPlace := ["internal/bytealg.IndexByteString"], plainKeys := false, apart := false, narrowed := true }
def FnExactShortestTakenUptoSaid : Prop := fnExactShortestTakenUptoRow.holds Try.pinned (OpenSpec.upto fnExactShortestTakenSpec)

end Rows
end Go.Proofs.Ytbcjbdhanmkpjab

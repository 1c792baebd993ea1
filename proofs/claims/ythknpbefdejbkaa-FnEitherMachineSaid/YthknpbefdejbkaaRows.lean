/-
  No cell of these rows narrows 'for every input' (looked for: loops, veiled, ifaces, maps, wideKeys, modest, calm, conditions, laid).
  DERIVED. THE GIVEN ROWS OF THIS SEAT. 9 by the template 'for every input the law returns true; each argument reads behind the call as it read before'; 0 by the template 'total and deterministic' (their statements: YthknpbefdejbkaaTotals.lean).
  GIVEN WITH THE SEED: the statements are not yours to turn. If you find one false, say at which input.
  Laid BY PROGRAM, IN A SANDBOX (cutbox-rows.mjs): the forced cells as the released guide's own fill.sh prints them over the translation a6cc3a84acf28bc1… (all of the seat's roots in one cut). By AI agents, Wed Nov 11 2026. No macro, syntax, notation, axiom, sorry.
-/
import Derived.Test.YthknpbefdejbkaaChecked
import GoSem.Claim
import GoSem.ClaimJoined
import GoSem.ClaimMapViews
import Derived.JoinedTies
import Derived.KernelRfl
namespace Go.Proofs.Ythknpbefdejbkaa
/- THE CELL 'sum', in the pinned program and in every row, IS THE sha256 OF THE DUMP (.gsa) THAT YthknpbefdejbkaaProg.lean LOADS. Nothing in Lean hashes anything: it is a label: what it is worth is what the hold of that sum in a sandbox is worth. -/
noncomputable def Try.pinned : Pinned := { name := "ythknpbefdejbkaa", sum := "a6cc3a84acf28bc13404ae9c5c4e2f0f4275cf585ebdc9fabd45d72d6f3b1fa0", checked := Try.checked }
namespace Rows
def none {H : Type} : Left H := { results := [], args := [] }

/-- 'laws.FnExactNotMachine': WHATEVER THE INPUT: true; the input reads as it did. -/
def fnExactNotMachineSpec : ChangeSpec := { name := "fnExactNotMachine", fn := fun _ => fun
  | [d] => { results := [.lit (.bool true)], args := [d] }
  | _ => none }
def fnExactNotMachineRow : OpenClaim := { program := "ythknpbefdejbkaa", sum := "a6cc3a84acf28bc13404ae9c5c4e2f0f4275cf585ebdc9fabd45d72d6f3b1fa0", func := "loop.example/dutyrosters/laws.FnExactNotMachine", spec := "fnExactNotMachine", unfollowed := true, recurses := true, plainKeys := false, apart := false }
def FnExactNotMachineSaid : Prop := fnExactNotMachineRow.holds Try.pinned (OpenSpec.ofChange fnExactNotMachineSpec)

/-- ITS FALSE NEIGHBOUR: 'it returns false'. Refute it at one input. -/
def fnExactNotMachineWrong : ChangeSpec := { name := "fnExactNotMachine", fn := fun _ => fun
  | [d] => { results := [.lit (.bool false)], args := [d] }
  | _ => none }
def FnExactNotMachineWrongFalsely : Prop := fnExactNotMachineRow.holds Try.pinned (OpenSpec.ofChange fnExactNotMachineWrong)

/-- 'laws.FnExactBothMachines': WHATEVER THE INPUT: true; the input reads as it did. -/
def fnExactBothMachinesSpec : ChangeSpec := { name := "fnExactBothMachines", fn := fun _ => fun
  | [d1, d2] => { results := [.lit (.bool true)], args := [d1, d2] }
  | _ => none }
def fnExactBothMachinesRow : OpenClaim := { program := "ythknpbefdejbkaa", sum := "a6cc3a84acf28bc13404ae9c5c4e2f0f4275cf585ebdc9fabd45d72d6f3b1fa0", func := "loop.example/dutyrosters/laws.FnExactBothMachines", spec := "fnExactBothMachines", unfollowed := true, recurses := true, plainKeys := false, apart := false }
def FnExactBothMachinesSaid : Prop := fnExactBothMachinesRow.holds Try.pinned (OpenSpec.ofChange fnExactBothMachinesSpec)

/-- ITS FALSE NEIGHBOUR: 'it returns false'. Refute it at one input. -/
def fnExactBothMachinesWrong : ChangeSpec := { name := "fnExactBothMachines", fn := fun _ => fun
  | [d1, d2] => { results := [.lit (.bool false)], args := [d1, d2] }
  | _ => none }
def FnExactBothMachinesWrongFalsely : Prop := fnExactBothMachinesRow.holds Try.pinned (OpenSpec.ofChange fnExactBothMachinesWrong)

/-- 'laws.FnExactEitherMachine': WHATEVER THE INPUT: true; the input reads as it did. -/
def fnExactEitherMachineSpec : ChangeSpec := { name := "fnExactEitherMachine", fn := fun _ => fun
  | [d1, d2] => { results := [.lit (.bool true)], args := [d1, d2] }
  | _ => none }
def fnExactEitherMachineRow : OpenClaim := { program := "ythknpbefdejbkaa", sum := "a6cc3a84acf28bc13404ae9c5c4e2f0f4275cf585ebdc9fabd45d72d6f3b1fa0", func := "loop.example/dutyrosters/laws.FnExactEitherMachine", spec := "fnExactEitherMachine", unfollowed := true, recurses := true, plainKeys := false, apart := false }
def FnExactEitherMachineSaid : Prop := fnExactEitherMachineRow.holds Try.pinned (OpenSpec.ofChange fnExactEitherMachineSpec)

/-- ITS FALSE NEIGHBOUR: 'it returns false'. Refute it at one input. -/
def fnExactEitherMachineWrong : ChangeSpec := { name := "fnExactEitherMachine", fn := fun _ => fun
  | [d1, d2] => { results := [.lit (.bool false)], args := [d1, d2] }
  | _ => none }
def FnExactEitherMachineWrongFalsely : Prop := fnExactEitherMachineRow.holds Try.pinned (OpenSpec.ofChange fnExactEitherMachineWrong)

/-- 'laws.FnNotMachine': WHATEVER THE INPUT: true; the input reads as it did. -/
def fnNotMachineSpec : ChangeSpec := { name := "fnNotMachine", fn := fun _ => fun
  | [d1, d2] => { results := [.lit (.bool true)], args := [d1, d2] }
  | _ => none }
def fnNotMachineRow : OpenClaim := { program := "ythknpbefdejbkaa", sum := "a6cc3a84acf28bc13404ae9c5c4e2f0f4275cf585ebdc9fabd45d72d6f3b1fa0", func := "loop.example/dutyrosters/laws.FnNotMachine", spec := "fnNotMachine", inPlace := ["internal/bytealg.IndexByteString"], unfollowed := true, recurses := true, plainKeys := false, apart := false }
def FnNotMachineSaid : Prop := fnNotMachineRow.holds Try.pinned (OpenSpec.ofChange fnNotMachineSpec)

/-- ITS FALSE NEIGHBOUR: 'it returns false'. Refute it at one input. -/
def fnNotMachineWrong : ChangeSpec := { name := "fnNotMachine", fn := fun _ => fun
  | [d1, d2] => { results := [.lit (.bool false)], args := [d1, d2] }
  | _ => none }
def FnNotMachineWrongFalsely : Prop := fnNotMachineRow.holds Try.pinned (OpenSpec.ofChange fnNotMachineWrong)

/-- 'laws.FnBothMachines': WHATEVER THE INPUT: true; the input reads as it did. -/
def fnBothMachinesSpec : ChangeSpec := { name := "fnBothMachines", fn := fun _ => fun
  | [d1, d2] => { results := [.lit (.bool true)], args := [d1, d2] }
  | _ => none }
def fnBothMachinesRow : OpenClaim := { program := "ythknpbefdejbkaa", sum := "a6cc3a84acf28bc13404ae9c5c4e2f0f4275cf585ebdc9fabd45d72d6f3b1fa0", func := "loop.example/dutyrosters/laws.FnBothMachines", spec := "fnBothMachines", inPlace := ["internal/bytealg.IndexByteString"], unfollowed := true, recurses := true, plainKeys := false, apart := false }
def FnBothMachinesSaid : Prop := fnBothMachinesRow.holds Try.pinned (OpenSpec.ofChange fnBothMachinesSpec)

/-- ITS FALSE NEIGHBOUR: 'it returns false'. Refute it at one input. -/
def fnBothMachinesWrong : ChangeSpec := { name := "fnBothMachines", fn := fun _ => fun
  | [d1, d2] => { results := [.lit (.bool false)], args := [d1, d2] }
  | _ => none }
def FnBothMachinesWrongFalsely : Prop := fnBothMachinesRow.holds Try.pinned (OpenSpec.ofChange fnBothMachinesWrong)

/-- 'laws.FnEitherMachine': WHATEVER THE INPUT: true; the input reads as it did. -/
def fnEitherMachineSpec : ChangeSpec := { name := "fnEitherMachine", fn := fun _ => fun
  | [d1, d2] => { results := [.lit (.bool true)], args := [d1, d2] }
  | _ => none }
def fnEitherMachineRow : OpenClaim := { program := "ythknpbefdejbkaa", sum := "a6cc3a84acf28bc13404ae9c5c4e2f0f4275cf585ebdc9fabd45d72d6f3b1fa0", func := "loop.example/dutyrosters/laws.FnEitherMachine", spec := "fnEitherMachine", inPlace := ["internal/bytealg.IndexByteString"], unfollowed := true, recurses := true, plainKeys := false, apart := false }
def FnEitherMachineSaid : Prop := fnEitherMachineRow.holds Try.pinned (OpenSpec.ofChange fnEitherMachineSpec)

/-- ITS FALSE NEIGHBOUR: 'it returns false'. Refute it at one input. -/
def fnEitherMachineWrong : ChangeSpec := { name := "fnEitherMachine", fn := fun _ => fun
  | [d1, d2] => { results := [.lit (.bool false)], args := [d1, d2] }
  | _ => none }
def FnEitherMachineWrongFalsely : Prop := fnEitherMachineRow.holds Try.pinned (OpenSpec.ofChange fnEitherMachineWrong)

/-- 'laws.FnSameOk': WHATEVER THE INPUT: true; the input reads as it did. -/
def fnSameOkSpec : ChangeSpec := { name := "fnSameOk", fn := fun _ => fun
  | [d1, d2] => { results := [.lit (.bool true)], args := [d1, d2] }
  | _ => none }
def fnSameOkRow : OpenClaim := { program := "ythknpbefdejbkaa", sum := "a6cc3a84acf28bc13404ae9c5c4e2f0f4275cf585ebdc9fabd45d72d6f3b1fa0", func := "loop.example/dutyrosters/laws.FnSameOk", spec := "fnSameOk", inPlace := ["internal/bytealg.IndexByteString"], unfollowed := true, recurses := true, plainKeys := false, apart := false }
def FnSameOkSaid : Prop := fnSameOkRow.holds Try.pinned (OpenSpec.ofChange fnSameOkSpec)

/-- ITS FALSE NEIGHBOUR: 'it returns false'. Refute it at one input. -/
def fnSameOkWrong : ChangeSpec := { name := "fnSameOk", fn := fun _ => fun
  | [d1, d2] => { results := [.lit (.bool false)], args := [d1, d2] }
  | _ => none }
def FnSameOkWrongFalsely : Prop := fnSameOkRow.holds Try.pinned (OpenSpec.ofChange fnSameOkWrong)

/-- 'laws.FnTrimmedMachine': WHATEVER THE INPUT: true; the input reads as it did. -/
def fnTrimmedMachineSpec : ChangeSpec := { name := "fnTrimmedMachine", fn := fun _ => fun
  | [d] => { results := [.lit (.bool true)], args := [d] }
  | _ => none }
def fnTrimmedMachineRow : OpenClaim := { program := "ythknpbefdejbkaa", sum := "a6cc3a84acf28bc13404ae9c5c4e2f0f4275cf585ebdc9fabd45d72d6f3b1fa0", func := "loop.example/dutyrosters/laws.FnTrimmedMachine", spec := "fnTrimmedMachine", inPlace := ["internal/bytealg.IndexByteString"], unfollowed := true, recurses := true, plainKeys := false, apart := false }
def FnTrimmedMachineSaid : Prop := fnTrimmedMachineRow.holds Try.pinned (OpenSpec.ofChange fnTrimmedMachineSpec)

/-- ITS FALSE NEIGHBOUR: 'it returns false'. Refute it at one input. -/
def fnTrimmedMachineWrong : ChangeSpec := { name := "fnTrimmedMachine", fn := fun _ => fun
  | [d] => { results := [.lit (.bool false)], args := [d] }
  | _ => none }
def FnTrimmedMachineWrongFalsely : Prop := fnTrimmedMachineRow.holds Try.pinned (OpenSpec.ofChange fnTrimmedMachineWrong)

/-- 'laws.FnLeastMachine': WHATEVER THE INPUT: true; the input reads as it did. -/
def fnLeastMachineSpec : ChangeSpec := { name := "fnLeastMachine", fn := fun _ => fun
  | [d1, d2] => { results := [.lit (.bool true)], args := [d1, d2] }
  | _ => none }
def fnLeastMachineRow : OpenClaim := { program := "ythknpbefdejbkaa", sum := "a6cc3a84acf28bc13404ae9c5c4e2f0f4275cf585ebdc9fabd45d72d6f3b1fa0", func := "loop.example/dutyrosters/laws.FnLeastMachine", spec := "fnLeastMachine", inPlace := ["internal/bytealg.IndexByteString"], unfollowed := true, recurses := true, plainKeys := false, apart := false }
def FnLeastMachineSaid : Prop := fnLeastMachineRow.holds Try.pinned (OpenSpec.ofChange fnLeastMachineSpec)

/-- ITS FALSE NEIGHBOUR: 'it returns false'. Refute it at one input. -/
def fnLeastMachineWrong : ChangeSpec := { name := "fnLeastMachine", fn := fun _ => fun
  | [d1, d2] => { results := [.lit (.bool false)], args := [d1, d2] }
  | _ => none }
def FnLeastMachineWrongFalsely : Prop := fnLeastMachineRow.holds Try.pinned (OpenSpec.ofChange fnLeastMachineWrong)

/- THE SECOND FORM. 'bulk': how many values and letters a reading holds, each counted each time it is reached (what is shared counts as often as it is met; a slice's spare places count too). A statement '..UptoSaid' is the law's where the arguments, and the package variables that the reading takes, are together of bulk at most 1048576: NARROWER than '..Said'. Prove '..Said' where nothing that the law and all that it calls make is longer than what came in: it says more and counts as full. Else prove '..UptoSaid'. A law counts once. -/
mutual
def uptoBulk {H : Type} : DataW H → Nat
  | .lit (.string bytes) => bytes.length + 1
  | .lit _ => 1
  | .nil => 1
  | .ptr d => uptoBulk d + 1
  | .slice elems spare => uptoBulkAll elems + uptoBulkAll spare + 1
  | .agg parts => uptoBulkAll parts + 1
  | .iface _ d => uptoBulk d + 1
  | .map entries => uptoBulkEntries entries + 1
  | .held _ => 1
def uptoBulkAll {H : Type} : List (DataW H) → Nat
  | [] => 0
  | d :: r => uptoBulk d + uptoBulkAll r
def uptoBulkEntries {H : Type} : List (Lit × DataW H) → Nat
  | [] => 0
  | x :: r => uptoBulkEntry x + uptoBulkEntries r
def uptoBulkEntry {H : Type} : Lit × DataW H → Nat
  | (.string bytes, d) => bytes.length + uptoBulk d + 1
  | (_, d) => uptoBulk d + 1
 end
def uptoSmall : (H : Type) → List (DataW H) → Bool := fun _ ds => decide (uptoBulkAll ds ≤ 1048576)
def OpenSpec.upto (s : _root_.Go.ChangeSpec) : _root_.Go.OpenSpec := { _root_.Go.OpenSpec.ofChange s with cond := some uptoSmall }

/-- 'laws.FnExactNotMachine', WHERE WHAT IT READS IS OF BULK AT MOST 1048576: true; the input reads as it did. -/
def fnExactNotMachineUptoRow : OpenClaim := { program := "ythknpbefdejbkaa", sum := "a6cc3a84acf28bc13404ae9c5c4e2f0f4275cf585ebdc9fabd45d72d6f3b1fa0", func := "loop.example/dutyrosters/laws.FnExactNotMachine", spec := "fnExactNotMachine", unfollowed := true, recurses := true, plainKeys := false, apart := false, narrowed := true }
def FnExactNotMachineUptoSaid : Prop := fnExactNotMachineUptoRow.holds Try.pinned (OpenSpec.upto fnExactNotMachineSpec)

/-- 'laws.FnExactBothMachines', WHERE WHAT IT READS IS OF BULK AT MOST 1048576: true; the input reads as it did. -/
def fnExactBothMachinesUptoRow : OpenClaim := { program := "ythknpbefdejbkaa", sum := "a6cc3a84acf28bc13404ae9c5c4e2f0f4275cf585ebdc9fabd45d72d6f3b1fa0", func := "loop.example/dutyrosters/laws.FnExactBothMachines", spec := "fnExactBothMachines", unfollowed := true, recurses := true, plainKeys := false, apart := false, narrowed := true }
def FnExactBothMachinesUptoSaid : Prop := fnExactBothMachinesUptoRow.holds Try.pinned (OpenSpec.upto fnExactBothMachinesSpec)

/-- 'laws.FnExactEitherMachine', WHERE WHAT IT READS IS OF BULK AT MOST 1048576: true; the input reads as it did. -/
def fnExactEitherMachineUptoRow : OpenClaim := { program := "ythknpbefdejbkaa", sum := "a6cc3a84acf28bc13404ae9c5c4e2f0f4275cf585ebdc9fabd45d72d6f3b1fa0", func := "loop.example/dutyrosters/laws.FnExactEitherMachine", spec := "fnExactEitherMachine", unfollowed := true, recurses := true, plainKeys := false, apart := false, narrowed := true }
def FnExactEitherMachineUptoSaid : Prop := fnExactEitherMachineUptoRow.holds Try.pinned (OpenSpec.upto fnExactEitherMachineSpec)

/-- 'laws.FnNotMachine', WHERE WHAT IT READS IS OF BULK AT MOST 1048576: true; the input reads as it did. -/
def fnNotMachineUptoRow : OpenClaim := { program := "ythknpbefdejbkaa", sum := "a6cc3a84acf28bc13404ae9c5c4e2f0f4275cf585ebdc9fabd45d72d6f3b1fa0", func := "loop.example/dutyrosters/laws.FnNotMachine", spec := "fnNotMachine", inPlace := ["internal/bytealg.IndexByteString"], unfollowed := true, recurses := true, plainKeys := false, apart := false, narrowed := true }
def FnNotMachineUptoSaid : Prop := fnNotMachineUptoRow.holds Try.pinned (OpenSpec.upto fnNotMachineSpec)

/-- 'laws.FnBothMachines', WHERE WHAT IT READS IS OF BULK AT MOST 1048576: true; the input reads as it did. -/
def fnBothMachinesUptoRow : OpenClaim := { program := "ythknpbefdejbkaa", sum := "a6cc3a84acf28bc13404ae9c5c4e2f0f4275cf585ebdc9fabd45d72d6f3b1fa0", func := "loop.example/dutyrosters/laws.FnBothMachines", spec := "fnBothMachines", inPlace := ["internal/bytealg.IndexByteString"], unfollowed := true, recurses := true, plainKeys := false, apart := false, narrowed := true }
def FnBothMachinesUptoSaid : Prop := fnBothMachinesUptoRow.holds Try.pinned (OpenSpec.upto fnBothMachinesSpec)

/-- 'laws.FnEitherMachine', WHERE WHAT IT READS IS OF BULK AT MOST 1048576: true; the input reads as it did. -/
def fnEitherMachineUptoRow : OpenClaim := { program := "ythknpbefdejbkaa", sum := "a6cc3a84acf28bc13404ae9c5c4e2f0f4275cf585ebdc9fabd45d72d6f3b1fa0", func := "loop.example/dutyrosters/laws.FnEitherMachine", spec := "fnEitherMachine", inPlace := ["internal/bytealg.IndexByteString"], unfollowed := true, recurses := true, plainKeys := false, apart := false, narrowed := true }
def FnEitherMachineUptoSaid : Prop := fnEitherMachineUptoRow.holds Try.pinned (OpenSpec.upto fnEitherMachineSpec)

/-- 'laws.FnSameOk', WHERE WHAT IT READS IS OF BULK AT MOST 1048576: true; the input reads as it did. -/
def fnSameOkUptoRow : OpenClaim := { program := "ythknpbefdejbkaa", sum := "a6cc3a84acf28bc13404ae9c5c4e2f0f4275cf585ebdc9fabd45d72d6f3b1fa0", func := "loop.example/dutyrosters/laws.FnSameOk", spec := "fnSameOk", inPlace := ["internal/bytealg.IndexByteString"], unfollowed := true, recurses := true, plainKeys := false, apart := false, narrowed := true }
def FnSameOkUptoSaid : Prop := fnSameOkUptoRow.holds Try.pinned (OpenSpec.upto fnSameOkSpec)

/-- 'laws.FnTrimmedMachine', WHERE WHAT IT READS IS OF BULK AT MOST 1048576: true; the input reads as it did. -/
def fnTrimmedMachineUptoRow : OpenClaim := { program := "ythknpbefdejbkaa", sum := "a6cc3a84acf28bc13404ae9c5c4e2f0f4275cf585ebdc9fabd45d72d6f3b1fa0", func := "loop.example/dutyrosters/laws.FnTrimmedMachine", spec := "fnTrimmedMachine", inPlace := ["internal/bytealg.IndexByteString"], unfollowed := true, recurses := true, plainKeys := false, apart := false, narrowed := true }
def FnTrimmedMachineUptoSaid : Prop := fnTrimmedMachineUptoRow.holds Try.pinned (OpenSpec.upto fnTrimmedMachineSpec)

/-- 'laws.FnLeastMachine', WHERE WHAT IT READS IS OF BULK AT MOST 1048576: true; the input reads as it did. -/
def fnLeastMachineUptoRow : OpenClaim := { program := "ythknpbefdejbkaa", sum := "a6cc3a84acf28bc13404ae9c5c4e2f0f4275cf585ebdc9fabd45d72d6f3b1fa0", func := "loop.example/dutyrosters/laws.FnLeastMachine", spec := "fnLeastMachine", inPlace := ["internal/bytealg.IndexByteString"], unfollowed := true, recurses := true, plainKeys := false, apart := false, narrowed := true }
def FnLeastMachineUptoSaid : Prop := fnLeastMachineUptoRow.holds Try.pinned (OpenSpec.upto fnLeastMachineSpec)

end Rows
end Go.Proofs.Ythknpbefdejbkaa

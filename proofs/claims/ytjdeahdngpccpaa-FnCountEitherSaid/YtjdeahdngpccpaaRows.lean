/-
  No cell of these rows narrows 'for every input' (looked for: loops, veiled, ifaces, maps, wideKeys, modest, calm, conditions, laid).
  DERIVED. THE GIVEN ROWS OF THIS SEAT. 10 by the template 'for every input the law returns true; each argument reads behind the call as it read before'; 0 by the template 'total and deterministic' (their statements: YtjdeahdngpccpaaTotals.lean).
  GIVEN WITH THE SEED: the statements are not yours to turn. If you find one false, say at which input.
  Laid BY PROGRAM, IN A SANDBOX (cutbox-rows.mjs): the forced cells as the released guide's own fill.sh prints them over the translation 3a7f6b168ad56286… (all of the seat's roots in one cut). By AI agents, Wed Nov 11 2026. No macro, syntax, notation, axiom, sorry.
-/
import Derived.Test.YtjdeahdngpccpaaChecked
import GoSem.Claim
import GoSem.ClaimJoined
import GoSem.ClaimMapViews
import Derived.JoinedTies
import Derived.KernelRfl
namespace Go.Proofs.Ytjdeahdngpccpaa
/- THE CELL 'sum', in the pinned program and in every row, IS THE sha256 OF THE DUMP (.gsa) THAT YtjdeahdngpccpaaProg.lean LOADS. Nothing in Lean hashes anything: it is a label: what it is worth is what the hold of that sum in a sandbox is worth. -/
noncomputable def Try.pinned : Pinned := { name := "ytjdeahdngpccpaa", sum := "3a7f6b168ad56286cf682a0641d14b57b5a90b80fa340df6a3b41f638d66dd4c", checked := Try.checked }
namespace Rows
def none {H : Type} : Left H := { results := [], args := [] }

/-- 'laws.FnLeastMachine': WHATEVER THE INPUT: true; the input reads as it did. -/
def fnLeastMachineSpec : ChangeSpec := { name := "fnLeastMachine", fn := fun _ => fun
  | [d1, d2] => { results := [.lit (.bool true)], args := [d1, d2] }
  | _ => none }
def fnLeastMachineRow : OpenClaim := { program := "ytjdeahdngpccpaa", sum := "3a7f6b168ad56286cf682a0641d14b57b5a90b80fa340df6a3b41f638d66dd4c", func := "loop.example/dutyrosters/laws.FnLeastMachine", spec := "fnLeastMachine", inPlace := ["internal/bytealg.IndexByteString"], unfollowed := true, recurses := true, plainKeys := false, apart := false }
def FnLeastMachineSaid : Prop := fnLeastMachineRow.holds Try.pinned (OpenSpec.ofChange fnLeastMachineSpec)

/-- ITS FALSE NEIGHBOUR: 'it returns false'. Refute it at one input. -/
def fnLeastMachineWrong : ChangeSpec := { name := "fnLeastMachine", fn := fun _ => fun
  | [d1, d2] => { results := [.lit (.bool false)], args := [d1, d2] }
  | _ => none }
def FnLeastMachineWrongFalsely : Prop := fnLeastMachineRow.holds Try.pinned (OpenSpec.ofChange fnLeastMachineWrong)

/-- 'laws.FnCountWords': WHATEVER THE INPUT: true; the input reads as it did. -/
def fnCountWordsSpec : ChangeSpec := { name := "fnCountWords", fn := fun _ => fun
  | [d] => { results := [.lit (.bool true)], args := [d] }
  | _ => none }
def fnCountWordsRow : OpenClaim := { program := "ytjdeahdngpccpaa", sum := "3a7f6b168ad56286cf682a0641d14b57b5a90b80fa340df6a3b41f638d66dd4c", func := "loop.example/dutyrosters/laws.FnCountWords", spec := "fnCountWords", inPlace := ["internal/bytealg.IndexByteString"], unfollowed := true, recurses := true, plainKeys := false, apart := false }
def FnCountWordsSaid : Prop := fnCountWordsRow.holds Try.pinned (OpenSpec.ofChange fnCountWordsSpec)

/-- ITS FALSE NEIGHBOUR: 'it returns false'. Refute it at one input. -/
def fnCountWordsWrong : ChangeSpec := { name := "fnCountWords", fn := fun _ => fun
  | [d] => { results := [.lit (.bool false)], args := [d] }
  | _ => none }
def FnCountWordsWrongFalsely : Prop := fnCountWordsRow.holds Try.pinned (OpenSpec.ofChange fnCountWordsWrong)

/-- 'laws.FnWordAt': WHATEVER THE INPUT: true; the input reads as it did. -/
def fnWordAtSpec : ChangeSpec := { name := "fnWordAt", fn := fun _ => fun
  | [d] => { results := [.lit (.bool true)], args := [d] }
  | _ => none }
def fnWordAtRow : OpenClaim := { program := "ytjdeahdngpccpaa", sum := "3a7f6b168ad56286cf682a0641d14b57b5a90b80fa340df6a3b41f638d66dd4c", func := "loop.example/dutyrosters/laws.FnWordAt", spec := "fnWordAt", inPlace := ["internal/bytealg.IndexByteString"], recurses := true, plainKeys := false, apart := false }
def FnWordAtSaid : Prop := fnWordAtRow.holds Try.pinned (OpenSpec.ofChange fnWordAtSpec)

/-- ITS FALSE NEIGHBOUR: 'it returns false'. Refute it at one input. -/
def fnWordAtWrong : ChangeSpec := { name := "fnWordAt", fn := fun _ => fun
  | [d] => { results := [.lit (.bool false)], args := [d] }
  | _ => none }
def FnWordAtWrongFalsely : Prop := fnWordAtRow.holds Try.pinned (OpenSpec.ofChange fnWordAtWrong)

/-- 'laws.FnPlaceOf': WHATEVER THE INPUT: true; the input reads as it did. -/
def fnPlaceOfSpec : ChangeSpec := { name := "fnPlaceOf", fn := fun _ => fun
  | [d] => { results := [.lit (.bool true)], args := [d] }
  | _ => none }
def fnPlaceOfRow : OpenClaim := { program := "ytjdeahdngpccpaa", sum := "3a7f6b168ad56286cf682a0641d14b57b5a90b80fa340df6a3b41f638d66dd4c", func := "loop.example/dutyrosters/laws.FnPlaceOf", spec := "fnPlaceOf", inPlace := ["internal/bytealg.IndexByteString"], recurses := true, plainKeys := false, apart := false }
def FnPlaceOfSaid : Prop := fnPlaceOfRow.holds Try.pinned (OpenSpec.ofChange fnPlaceOfSpec)

/-- ITS FALSE NEIGHBOUR: 'it returns false'. Refute it at one input. -/
def fnPlaceOfWrong : ChangeSpec := { name := "fnPlaceOf", fn := fun _ => fun
  | [d] => { results := [.lit (.bool false)], args := [d] }
  | _ => none }
def FnPlaceOfWrongFalsely : Prop := fnPlaceOfRow.holds Try.pinned (OpenSpec.ofChange fnPlaceOfWrong)

/-- 'laws.FnLettersAfter': WHATEVER THE INPUT: true; the input reads as it did. -/
def fnLettersAfterSpec : ChangeSpec := { name := "fnLettersAfter", fn := fun _ => fun
  | [d] => { results := [.lit (.bool true)], args := [d] }
  | _ => none }
def fnLettersAfterRow : OpenClaim := { program := "ytjdeahdngpccpaa", sum := "3a7f6b168ad56286cf682a0641d14b57b5a90b80fa340df6a3b41f638d66dd4c", func := "loop.example/dutyrosters/laws.FnLettersAfter", spec := "fnLettersAfter", inPlace := ["internal/bytealg.IndexByteString"], recurses := true, plainKeys := false, apart := false }
def FnLettersAfterSaid : Prop := fnLettersAfterRow.holds Try.pinned (OpenSpec.ofChange fnLettersAfterSpec)

/-- ITS FALSE NEIGHBOUR: 'it returns false'. Refute it at one input. -/
def fnLettersAfterWrong : ChangeSpec := { name := "fnLettersAfter", fn := fun _ => fun
  | [d] => { results := [.lit (.bool false)], args := [d] }
  | _ => none }
def FnLettersAfterWrongFalsely : Prop := fnLettersAfterRow.holds Try.pinned (OpenSpec.ofChange fnLettersAfterWrong)

/-- 'laws.FnNextWord': WHATEVER THE INPUT: true; the input reads as it did. -/
def fnNextWordSpec : ChangeSpec := { name := "fnNextWord", fn := fun _ => fun
  | [d] => { results := [.lit (.bool true)], args := [d] }
  | _ => none }
def fnNextWordRow : OpenClaim := { program := "ytjdeahdngpccpaa", sum := "3a7f6b168ad56286cf682a0641d14b57b5a90b80fa340df6a3b41f638d66dd4c", func := "loop.example/dutyrosters/laws.FnNextWord", spec := "fnNextWord", inPlace := ["internal/bytealg.IndexByteString"], recurses := true, plainKeys := false, apart := false }
def FnNextWordSaid : Prop := fnNextWordRow.holds Try.pinned (OpenSpec.ofChange fnNextWordSpec)

/-- ITS FALSE NEIGHBOUR: 'it returns false'. Refute it at one input. -/
def fnNextWordWrong : ChangeSpec := { name := "fnNextWord", fn := fun _ => fun
  | [d] => { results := [.lit (.bool false)], args := [d] }
  | _ => none }
def FnNextWordWrongFalsely : Prop := fnNextWordRow.holds Try.pinned (OpenSpec.ofChange fnNextWordWrong)

/-- 'laws.FnCountEither': WHATEVER THE INPUT: true; the input reads as it did. -/
def fnCountEitherSpec : ChangeSpec := { name := "fnCountEither", fn := fun _ => fun
  | [d1, d2] => { results := [.lit (.bool true)], args := [d1, d2] }
  | _ => none }
def fnCountEitherRow : OpenClaim := { program := "ytjdeahdngpccpaa", sum := "3a7f6b168ad56286cf682a0641d14b57b5a90b80fa340df6a3b41f638d66dd4c", func := "loop.example/dutyrosters/laws.FnCountEither", spec := "fnCountEither", inPlace := ["internal/bytealg.IndexByteString"], unfollowed := true, recurses := true, plainKeys := false, apart := false }
def FnCountEitherSaid : Prop := fnCountEitherRow.holds Try.pinned (OpenSpec.ofChange fnCountEitherSpec)

/-- ITS FALSE NEIGHBOUR: 'it returns false'. Refute it at one input. -/
def fnCountEitherWrong : ChangeSpec := { name := "fnCountEither", fn := fun _ => fun
  | [d1, d2] => { results := [.lit (.bool false)], args := [d1, d2] }
  | _ => none }
def FnCountEitherWrongFalsely : Prop := fnCountEitherRow.holds Try.pinned (OpenSpec.ofChange fnCountEitherWrong)

/-- 'laws.FnCountWalks': WHATEVER THE INPUT: true; the input reads as it did. -/
def fnCountWalksSpec : ChangeSpec := { name := "fnCountWalks", fn := fun _ => fun
  | [d] => { results := [.lit (.bool true)], args := [d] }
  | _ => none }
def fnCountWalksRow : OpenClaim := { program := "ytjdeahdngpccpaa", sum := "3a7f6b168ad56286cf682a0641d14b57b5a90b80fa340df6a3b41f638d66dd4c", func := "loop.example/dutyrosters/laws.FnCountWalks", spec := "fnCountWalks", inPlace := ["internal/bytealg.IndexByteString"], unfollowed := true, recurses := true, plainKeys := false, apart := false }
def FnCountWalksSaid : Prop := fnCountWalksRow.holds Try.pinned (OpenSpec.ofChange fnCountWalksSpec)

/-- ITS FALSE NEIGHBOUR: 'it returns false'. Refute it at one input. -/
def fnCountWalksWrong : ChangeSpec := { name := "fnCountWalks", fn := fun _ => fun
  | [d] => { results := [.lit (.bool false)], args := [d] }
  | _ => none }
def FnCountWalksWrongFalsely : Prop := fnCountWalksRow.holds Try.pinned (OpenSpec.ofChange fnCountWalksWrong)

/-- 'laws.FnCountNecklaces': WHATEVER THE INPUT: true; the input reads as it did. -/
def fnCountNecklacesSpec : ChangeSpec := { name := "fnCountNecklaces", fn := fun _ => fun
  | [d] => { results := [.lit (.bool true)], args := [d] }
  | _ => none }
def fnCountNecklacesRow : OpenClaim := { program := "ytjdeahdngpccpaa", sum := "3a7f6b168ad56286cf682a0641d14b57b5a90b80fa340df6a3b41f638d66dd4c", func := "loop.example/dutyrosters/laws.FnCountNecklaces", spec := "fnCountNecklaces", inPlace := ["internal/bytealg.IndexByteString"], unfollowed := true, recurses := true, plainKeys := false, apart := false }
def FnCountNecklacesSaid : Prop := fnCountNecklacesRow.holds Try.pinned (OpenSpec.ofChange fnCountNecklacesSpec)

/-- ITS FALSE NEIGHBOUR: 'it returns false'. Refute it at one input. -/
def fnCountNecklacesWrong : ChangeSpec := { name := "fnCountNecklaces", fn := fun _ => fun
  | [d] => { results := [.lit (.bool false)], args := [d] }
  | _ => none }
def FnCountNecklacesWrongFalsely : Prop := fnCountNecklacesRow.holds Try.pinned (OpenSpec.ofChange fnCountNecklacesWrong)

/-- 'laws.FnExactWitnessOf': WHATEVER THE INPUT: true; the input reads as it did. -/
def fnExactWitnessOfSpec : ChangeSpec := { name := "fnExactWitnessOf", fn := fun _ => fun
  | [d1, d2] => { results := [.lit (.bool true)], args := [d1, d2] }
  | _ => none }
def fnExactWitnessOfRow : OpenClaim := { program := "ytjdeahdngpccpaa", sum := "3a7f6b168ad56286cf682a0641d14b57b5a90b80fa340df6a3b41f638d66dd4c", func := "loop.example/dutyrosters/laws.FnExactWitnessOf", spec := "fnExactWitnessOf", inPlace := ["internal/bytealg.IndexByteString"], unfollowed := true, recurses := true, plainKeys := false, apart := false }
def FnExactWitnessOfSaid : Prop := fnExactWitnessOfRow.holds Try.pinned (OpenSpec.ofChange fnExactWitnessOfSpec)

/-- ITS FALSE NEIGHBOUR: 'it returns false'. Refute it at one input. -/
def fnExactWitnessOfWrong : ChangeSpec := { name := "fnExactWitnessOf", fn := fun _ => fun
  | [d1, d2] => { results := [.lit (.bool false)], args := [d1, d2] }
  | _ => none }
def FnExactWitnessOfWrongFalsely : Prop := fnExactWitnessOfRow.holds Try.pinned (OpenSpec.ofChange fnExactWitnessOfWrong)

/- THE SECOND FORM. 'bulk': how many values and letters a reading holds, each counted each time it is reached (what is shared counts as often as it is met; a slice's spare places count too). A statement '..UptoSaid' is the law's where the arguments, and the package variables that the reading takes, are together of bulk at most 1048576: NARROWER than '..Said'. Prove '..Said' where nothing that the law and all that it calls make is longer than what came in: it says more and counts as full. Else prove '..UptoSaid'. A law counts once. -/
mutual
def uptoBulk {H : Type} : DataW H → Nat
  | .lit (.string bytes) => bytes.length + 1
  | .lit _ => 1
  | .nil => 1
  | .ptr d => uptoBulk d + 1
  | .slice elems spare => uptoBulkAll elems + uptoBulkAll spare + 1
  | .agg parts => uptoBulkAll parts + 1
  | .iface _ d => uptoBulk d + 1
  | .map entries => uptoBulkEntries entries + 1
  | .held _ => 1
def uptoBulkAll {H : Type} : List (DataW H) → Nat
  | [] => 0
  | d :: r => uptoBulk d + uptoBulkAll r
def uptoBulkEntries {H : Type} : List (Lit × DataW H) → Nat
  | [] => 0
  | x :: r => uptoBulkEntry x + uptoBulkEntries r
def uptoBulkEntry {H : Type} : Lit × DataW H → Nat
  | (.string bytes, d) => bytes.length + uptoBulk d + 1
  | (_, d) => uptoBulk d + 1
 end
def uptoSmall : (H : Type) → List (DataW H) → Bool := fun _ ds => decide (uptoBulkAll ds ≤ 1048576)
def OpenSpec.upto (s : _root_.Go.ChangeSpec) : _root_.Go.OpenSpec := { _root_.Go.OpenSpec.ofChange s with cond := some uptoSmall }

/-- 'laws.FnLeastMachine', WHERE WHAT IT READS IS OF BULK AT MOST 1048576: true; the input reads as it did. -/
def fnLeastMachineUptoRow : OpenClaim := { program := "ytjdeahdngpccpaa", sum := "3a7f6b168ad56286cf682a0641d14b57b5a90b80fa340df6a3b41f638d66dd4c", func := "loop.example/dutyrosters/laws.FnLeastMachine", spec := "fnLeastMachine", inPlace := ["internal/bytealg.IndexByteString"], unfollowed := true, recurses := true, plainKeys := false, apart := false, narrowed := true }
def FnLeastMachineUptoSaid : Prop := fnLeastMachineUptoRow.holds Try.pinned (OpenSpec.upto fnLeastMachineSpec)

/-- 'laws.FnCountWords', WHERE WHAT IT READS IS OF BULK AT MOST 1048576: true; the input reads as it did. -/
def fnCountWordsUptoRow : OpenClaim := { program := "ytjdeahdngpccpaa", sum := "3a7f6b168ad56286cf682a0641d14b57b5a90b80fa340df6a3b41f638d66dd4c", func := "loop.example/dutyrosters/laws.FnCountWords", spec := "fnCountWords", inPlace := ["internal/bytealg.IndexByteString"], unfollowed := true, recurses := true, plainKeys := false, apart := false, narrowed := true }
def FnCountWordsUptoSaid : Prop := fnCountWordsUptoRow.holds Try.pinned (OpenSpec.upto fnCountWordsSpec)

/-- 'laws.FnWordAt', WHERE WHAT IT READS IS OF BULK AT MOST 1048576: true; the input reads as it did. -/
def fnWordAtUptoRow : OpenClaim := { program := "ytjdeahdngpccpaa", sum := "3a7f6b168ad56286cf682a0641d14b57b5a90b80fa340df6a3b41f638d66dd4c", func := "loop.example/dutyrosters/laws.FnWordAt", spec := "fnWordAt", inPlace := ["internal/bytealg.IndexByteString"], recurses := true, plainKeys := false, apart := false, narrowed := true }
def FnWordAtUptoSaid : Prop := fnWordAtUptoRow.holds Try.pinned (OpenSpec.upto fnWordAtSpec)

/-- 'laws.FnPlaceOf', WHERE WHAT IT READS IS OF BULK AT MOST 1048576: true; the input reads as it did. -/
def fnPlaceOfUptoRow : OpenClaim := { program := "ytjdeahdngpccpaa", sum := "3a7f6b168ad56286cf682a0641d14b57b5a90b80fa340df6a3b41f638d66dd4c", func := "loop.example/dutyrosters/laws.FnPlaceOf", spec := "fnPlaceOf", inPlace := ["internal/bytealg.IndexByteString"], recurses := true, plainKeys := false, apart := false, narrowed := true }
def FnPlaceOfUptoSaid : Prop := fnPlaceOfUptoRow.holds Try.pinned (OpenSpec.upto fnPlaceOfSpec)

/-- 'laws.FnLettersAfter', WHERE WHAT IT READS IS OF BULK AT MOST 1048576: true; the input reads as it did. -/
def fnLettersAfterUptoRow : OpenClaim := { program := "ytjdeahdngpccpaa", sum := "3a7f6b168ad56286cf682a0641d14b57b5a90b80fa340df6a3b41f638d66dd4c", func := "loop.example/dutyrosters/laws.FnLettersAfter", spec := "fnLettersAfter", inPlace := ["internal/bytealg.IndexByteString"], recurses := true, plainKeys := false, apart := false, narrowed := true }
def FnLettersAfterUptoSaid : Prop := fnLettersAfterUptoRow.holds Try.pinned (OpenSpec.upto fnLettersAfterSpec)

/-- 'laws.FnNextWord', WHERE WHAT IT READS IS OF BULK AT MOST 1048576: true; the input reads as it did. -/
def fnNextWordUptoRow : OpenClaim := { program := "ytjdeahdngpccpaa", sum := "3a7f6b168ad56286cf682a0641d14b57b5a90b80fa340df6a3b41f638d66dd4c", func := "loop.example/dutyrosters/laws.FnNextWord", spec := "fnNextWord", inPlace := ["internal/bytealg.IndexByteString"], recurses := true, plainKeys := false, apart := false, narrowed := true }
def FnNextWordUptoSaid : Prop := fnNextWordUptoRow.holds Try.pinned (OpenSpec.upto fnNextWordSpec)

/-- 'laws.FnCountEither', WHERE WHAT IT READS IS OF BULK AT MOST 1048576: true; the input reads as it did. -/
def fnCountEitherUptoRow : OpenClaim := { program := "ytjdeahdngpccpaa", sum := "3a7f6b168ad56286cf682a0641d14b57b5a90b80fa340df6a3b41f638d66dd4c", func := "loop.example/dutyrosters/laws.FnCountEither", spec := "fnCountEither", inPlace := ["internal/bytealg.IndexByteString"], unfollowed := true, recurses := true, plainKeys := false, apart := false, narrowed := true }
def FnCountEitherUptoSaid : Prop := fnCountEitherUptoRow.holds Try.pinned (OpenSpec.upto fnCountEitherSpec)

/-- 'laws.FnCountWalks', WHERE WHAT IT READS IS OF BULK AT MOST 1048576: true; the input reads as it did. -/
def fnCountWalksUptoRow : OpenClaim := { program := "ytjdeahdngpccpaa", sum := "3a7f6b168ad56286cf682a0641d14b57b5a90b80fa340df6a3b41f638d66dd4c", func := "loop.example/dutyrosters/laws.FnCountWalks", spec := "fnCountWalks", inPlace := ["internal/bytealg.IndexByteString"], unfollowed := true, recurses := true, plainKeys := false, apart := false, narrowed := true }
def FnCountWalksUptoSaid : Prop := fnCountWalksUptoRow.holds Try.pinned (OpenSpec.upto fnCountWalksSpec)

/-- 'laws.FnCountNecklaces', WHERE WHAT IT READS IS OF BULK AT MOST 1048576: true; the input reads as it did. -/
def fnCountNecklacesUptoRow : OpenClaim := { program := "ytjdeahdngpccpaa", sum := "3a7f6b168ad56286cf682a0641d14b57b5a90b80fa340df6a3b41f638d66dd4c", func := "loop.example/dutyrosters/laws.FnCountNecklaces", spec := "fnCountNecklaces", inPlace := ["internal/bytealg.IndexByteString"], unfollowed := true, recurses := true, plainKeys := false, apart := false, narrowed := true }
def FnCountNecklacesUptoSaid : Prop := fnCountNecklacesUptoRow.holds Try.pinned (OpenSpec.upto fnCountNecklacesSpec)

/-- 'laws.FnExactWitnessOf', WHERE WHAT IT READS IS OF BULK AT MOST 1048576: true; the input reads as it did. -/
def fnExactWitnessOfUptoRow : OpenClaim := { program := "ytjdeahdngpccpaa", sum := "3a7f6b168ad56286cf682a0641d14b57b5a90b80fa340df6a3b41f638d66dd4c", func := "loop.example/dutyrosters/laws.FnExactWitnessOf", spec := "fnExactWitnessOf", inPlace := ["internal/bytealg.IndexByteString"], unfollowed := true, recurses := true, plainKeys := false, apart := false, narrowed := true }
def FnExactWitnessOfUptoSaid : Prop := fnExactWitnessOfUptoRow.holds Try.pinned (OpenSpec.upto fnExactWitnessOfSpec)

end Rows
end Go.Proofs.Ytjdeahdngpccpaa

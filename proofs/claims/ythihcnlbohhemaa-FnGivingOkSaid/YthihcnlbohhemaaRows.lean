/-
  No cell of these rows narrows 'for every input' (looked for: loops, veiled, ifaces, maps, wideKeys, modest, calm, conditions, laid).
  DERIVED. THE GIVEN ROWS OF THIS SEAT. 15 by the template 'for every input the law returns true; each argument reads behind the call as it read before'; 0 by the template 'total and deterministic' (their statements: YthihcnlbohhemaaTotals.lean).
  GIVEN WITH THE SEED: the statements are not yours to turn. If you find one false, say at which input.
  Laid BY PROGRAM, IN A SANDBOX (cutbox-rows.mjs): the forced cells as the released guide's own fill.sh prints them over the translation 02d3faffbc4741b9… (all of the seat's roots in one cut). By AI agents, Wed Nov 11 2026. No macro, syntax, notation, axiom, sorry.
-/
import Derived.Test.YthihcnlbohhemaaChecked
import GoSem.Claim
import GoSem.ClaimJoined
import GoSem.ClaimMapViews
import Derived.JoinedTies
import Derived.KernelRfl
namespace Go.Proofs.Ythihcnlbohhemaa
/- THE CELL 'sum', in the pinned program and in every row, IS THE sha256 OF THE DUMP (.gsa) THAT YthihcnlbohhemaaProg.lean LOADS. Nothing in Lean hashes anything: it is a label: what it is worth is what the hold of that sum in a sandbox is worth. -/
noncomputable def Try.pinned : Pinned := { name := "ythihcnlbohhemaa", sum := "02d3faffbc4741b97b2bee96020dee93589543728ff266ea9327f61aed6af9ca", checked := Try.checked }
namespace Rows
def none {H : Type} : Left H := { results := [], args := [] }

/-- 'laws.FnLeastMachine': WHATEVER THE INPUT: true; the input reads as it did. -/
def fnLeastMachineSpec : ChangeSpec := { name := "fnLeastMachine", fn := fun _ => fun
  | [d1, d2] => { results := [.lit (.bool true)], args := [d1, d2] }
  | _ => none }
def fnLeastMachineRow : OpenClaim := { program := "ythihcnlbohhemaa", sum := "02d3faffbc4741b97b2bee96020dee93589543728ff266ea9327f61aed6af9ca", func := "loop.example/dutyrosters/laws.FnLeastMachine", spec := "fnLeastMachine", inPlace := ["internal/bytealg.IndexByteString"], unfollowed := true, recurses := true, plainKeys := false, apart := false }
def FnLeastMachineSaid : Prop := fnLeastMachineRow.holds Try.pinned (OpenSpec.ofChange fnLeastMachineSpec)

/-- ITS FALSE NEIGHBOUR: 'it returns false'. Refute it at one input. -/
def fnLeastMachineWrong : ChangeSpec := { name := "fnLeastMachine", fn := fun _ => fun
  | [d1, d2] => { results := [.lit (.bool false)], args := [d1, d2] }
  | _ => none }
def FnLeastMachineWrongFalsely : Prop := fnLeastMachineRow.holds Try.pinned (OpenSpec.ofChange fnLeastMachineWrong)

/-- 'laws.FnCountWalks': WHATEVER THE INPUT: true; the input reads as it did. -/
def fnCountWalksSpec : ChangeSpec := { name := "fnCountWalks", fn := fun _ => fun
  | [d] => { results := [.lit (.bool true)], args := [d] }
  | _ => none }
def fnCountWalksRow : OpenClaim := { program := "ythihcnlbohhemaa", sum := "02d3faffbc4741b97b2bee96020dee93589543728ff266ea9327f61aed6af9ca", func := "loop.example/dutyrosters/laws.FnCountWalks", spec := "fnCountWalks", inPlace := ["internal/bytealg.IndexByteString"], unfollowed := true, recurses := true, plainKeys := false, apart := false }
def FnCountWalksSaid : Prop := fnCountWalksRow.holds Try.pinned (OpenSpec.ofChange fnCountWalksSpec)

/-- ITS FALSE NEIGHBOUR: 'it returns false'. Refute it at one input. -/
def fnCountWalksWrong : ChangeSpec := { name := "fnCountWalks", fn := fun _ => fun
  | [d] => { results := [.lit (.bool false)], args := [d] }
  | _ => none }
def FnCountWalksWrongFalsely : Prop := fnCountWalksRow.holds Try.pinned (OpenSpec.ofChange fnCountWalksWrong)

/-- 'laws.FnCountNecklaces': WHATEVER THE INPUT: true; the input reads as it did. -/
def fnCountNecklacesSpec : ChangeSpec := { name := "fnCountNecklaces", fn := fun _ => fun
  | [d] => { results := [.lit (.bool true)], args := [d] }
  | _ => none }
def fnCountNecklacesRow : OpenClaim := { program := "ythihcnlbohhemaa", sum := "02d3faffbc4741b97b2bee96020dee93589543728ff266ea9327f61aed6af9ca", func := "loop.example/dutyrosters/laws.FnCountNecklaces", spec := "fnCountNecklaces", inPlace := ["internal/bytealg.IndexByteString"], unfollowed := true, recurses := true, plainKeys := false, apart := false }
def FnCountNecklacesSaid : Prop := fnCountNecklacesRow.holds Try.pinned (OpenSpec.ofChange fnCountNecklacesSpec)

/-- ITS FALSE NEIGHBOUR: 'it returns false'. Refute it at one input. -/
def fnCountNecklacesWrong : ChangeSpec := { name := "fnCountNecklaces", fn := fun _ => fun
  | [d] => { results := [.lit (.bool false)], args := [d] }
  | _ => none }
def FnCountNecklacesWrongFalsely : Prop := fnCountNecklacesRow.holds Try.pinned (OpenSpec.ofChange fnCountNecklacesWrong)

/-- 'laws.FnDayOk': WHATEVER THE INPUT: true; the input reads as it did. -/
def fnDayOkSpec : ChangeSpec := { name := "fnDayOk", fn := fun _ => fun
  | [d] => { results := [.lit (.bool true)], args := [d] }
  | _ => none }
def fnDayOkRow : OpenClaim := { program := "ythihcnlbohhemaa", sum := "02d3faffbc4741b97b2bee96020dee93589543728ff266ea9327f61aed6af9ca", func := "loop.example/dutyrosters/laws.FnDayOk", spec := "fnDayOk", inPlace := ["internal/bytealg.IndexByteString"], plainKeys := false, apart := false }
def FnDayOkSaid : Prop := fnDayOkRow.holds Try.pinned (OpenSpec.ofChange fnDayOkSpec)

/-- ITS FALSE NEIGHBOUR: 'it returns false'. Refute it at one input. -/
def fnDayOkWrong : ChangeSpec := { name := "fnDayOk", fn := fun _ => fun
  | [d] => { results := [.lit (.bool false)], args := [d] }
  | _ => none }
def FnDayOkWrongFalsely : Prop := fnDayOkRow.holds Try.pinned (OpenSpec.ofChange fnDayOkWrong)

/-- 'laws.FnMostDone': WHATEVER THE INPUT: true; the input reads as it did. -/
def fnMostDoneSpec : ChangeSpec := { name := "fnMostDone", fn := fun _ => fun
  | [d] => { results := [.lit (.bool true)], args := [d] }
  | _ => none }
def fnMostDoneRow : OpenClaim := { program := "ythihcnlbohhemaa", sum := "02d3faffbc4741b97b2bee96020dee93589543728ff266ea9327f61aed6af9ca", func := "loop.example/dutyrosters/laws.FnMostDone", spec := "fnMostDone", inPlace := ["internal/bytealg.IndexByteString"], recurses := true, plainKeys := false, apart := false }
def FnMostDoneSaid : Prop := fnMostDoneRow.holds Try.pinned (OpenSpec.ofChange fnMostDoneSpec)

/-- ITS FALSE NEIGHBOUR: 'it returns false'. Refute it at one input. -/
def fnMostDoneWrong : ChangeSpec := { name := "fnMostDone", fn := fun _ => fun
  | [d] => { results := [.lit (.bool false)], args := [d] }
  | _ => none }
def FnMostDoneWrongFalsely : Prop := fnMostDoneRow.holds Try.pinned (OpenSpec.ofChange fnMostDoneWrong)

/-- 'laws.FnShortOf': WHATEVER THE INPUT: true; the input reads as it did. -/
def fnShortOfSpec : ChangeSpec := { name := "fnShortOf", fn := fun _ => fun
  | [d] => { results := [.lit (.bool true)], args := [d] }
  | _ => none }
def fnShortOfRow : OpenClaim := { program := "ythihcnlbohhemaa", sum := "02d3faffbc4741b97b2bee96020dee93589543728ff266ea9327f61aed6af9ca", func := "loop.example/dutyrosters/laws.FnShortOf", spec := "fnShortOf", inPlace := ["internal/bytealg.IndexByteString"], recurses := true, plainKeys := false, apart := false }
def FnShortOfSaid : Prop := fnShortOfRow.holds Try.pinned (OpenSpec.ofChange fnShortOfSpec)

/-- ITS FALSE NEIGHBOUR: 'it returns false'. Refute it at one input. -/
def fnShortOfWrong : ChangeSpec := { name := "fnShortOf", fn := fun _ => fun
  | [d] => { results := [.lit (.bool false)], args := [d] }
  | _ => none }
def FnShortOfWrongFalsely : Prop := fnShortOfRow.holds Try.pinned (OpenSpec.ofChange fnShortOfWrong)

/-- 'laws.FnGivingOk': WHATEVER THE INPUT: true; the input reads as it did. -/
def fnGivingOkSpec : ChangeSpec := { name := "fnGivingOk", fn := fun _ => fun
  | [d] => { results := [.lit (.bool true)], args := [d] }
  | _ => none }
def fnGivingOkRow : OpenClaim := { program := "ythihcnlbohhemaa", sum := "02d3faffbc4741b97b2bee96020dee93589543728ff266ea9327f61aed6af9ca", func := "loop.example/dutyrosters/laws.FnGivingOk", spec := "fnGivingOk", inPlace := ["internal/bytealg.IndexByteString"], recurses := true, plainKeys := false, apart := false }
def FnGivingOkSaid : Prop := fnGivingOkRow.holds Try.pinned (OpenSpec.ofChange fnGivingOkSpec)

/-- ITS FALSE NEIGHBOUR: 'it returns false'. Refute it at one input. -/
def fnGivingOkWrong : ChangeSpec := { name := "fnGivingOk", fn := fun _ => fun
  | [d] => { results := [.lit (.bool false)], args := [d] }
  | _ => none }
def FnGivingOkWrongFalsely : Prop := fnGivingOkRow.holds Try.pinned (OpenSpec.ofChange fnGivingOkWrong)

/-- 'laws.FnFirstGiving': WHATEVER THE INPUT: true; the input reads as it did. -/
def fnFirstGivingSpec : ChangeSpec := { name := "fnFirstGiving", fn := fun _ => fun
  | [d1, d2] => { results := [.lit (.bool true)], args := [d1, d2] }
  | _ => none }
def fnFirstGivingRow : OpenClaim := { program := "ythihcnlbohhemaa", sum := "02d3faffbc4741b97b2bee96020dee93589543728ff266ea9327f61aed6af9ca", func := "loop.example/dutyrosters/laws.FnFirstGiving", spec := "fnFirstGiving", inPlace := ["internal/bytealg.IndexByteString"], recurses := true, plainKeys := false, apart := false }
def FnFirstGivingSaid : Prop := fnFirstGivingRow.holds Try.pinned (OpenSpec.ofChange fnFirstGivingSpec)

/-- ITS FALSE NEIGHBOUR: 'it returns false'. Refute it at one input. -/
def fnFirstGivingWrong : ChangeSpec := { name := "fnFirstGiving", fn := fun _ => fun
  | [d1, d2] => { results := [.lit (.bool false)], args := [d1, d2] }
  | _ => none }
def FnFirstGivingWrongFalsely : Prop := fnFirstGivingRow.holds Try.pinned (OpenSpec.ofChange fnFirstGivingWrong)

/-- 'laws.FnCountGivings': WHATEVER THE INPUT: true; the input reads as it did. -/
def fnCountGivingsSpec : ChangeSpec := { name := "fnCountGivings", fn := fun _ => fun
  | [d] => { results := [.lit (.bool true)], args := [d] }
  | _ => none }
def fnCountGivingsRow : OpenClaim := { program := "ythihcnlbohhemaa", sum := "02d3faffbc4741b97b2bee96020dee93589543728ff266ea9327f61aed6af9ca", func := "loop.example/dutyrosters/laws.FnCountGivings", spec := "fnCountGivings", inPlace := ["internal/bytealg.IndexByteString"], recurses := true, plainKeys := false, apart := false }
def FnCountGivingsSaid : Prop := fnCountGivingsRow.holds Try.pinned (OpenSpec.ofChange fnCountGivingsSpec)

/-- ITS FALSE NEIGHBOUR: 'it returns false'. Refute it at one input. -/
def fnCountGivingsWrong : ChangeSpec := { name := "fnCountGivings", fn := fun _ => fun
  | [d] => { results := [.lit (.bool false)], args := [d] }
  | _ => none }
def FnCountGivingsWrongFalsely : Prop := fnCountGivingsRow.holds Try.pinned (OpenSpec.ofChange fnCountGivingsWrong)

/-- 'laws.FnExactDayOk': WHATEVER THE INPUT: true; the input reads as it did. -/
def fnExactDayOkSpec : ChangeSpec := { name := "fnExactDayOk", fn := fun _ => fun
  | [d] => { results := [.lit (.bool true)], args := [d] }
  | _ => none }
def fnExactDayOkRow : OpenClaim := { program := "ythihcnlbohhemaa", sum := "02d3faffbc4741b97b2bee96020dee93589543728ff266ea9327f61aed6af9ca", func := "loop.example/dutyrosters/laws.FnExactDayOk", spec := "fnExactDayOk", plainKeys := false, apart := false }
def FnExactDayOkSaid : Prop := fnExactDayOkRow.holds Try.pinned (OpenSpec.ofChange fnExactDayOkSpec)

/-- ITS FALSE NEIGHBOUR: 'it returns false'. Refute it at one input. -/
def fnExactDayOkWrong : ChangeSpec := { name := "fnExactDayOk", fn := fun _ => fun
  | [d] => { results := [.lit (.bool false)], args := [d] }
  | _ => none }
def FnExactDayOkWrongFalsely : Prop := fnExactDayOkRow.holds Try.pinned (OpenSpec.ofChange fnExactDayOkWrong)

/-- 'laws.FnExactMostDone': WHATEVER THE INPUT: true; the input reads as it did. -/
def fnExactMostDoneSpec : ChangeSpec := { name := "fnExactMostDone", fn := fun _ => fun
  | [d] => { results := [.lit (.bool true)], args := [d] }
  | _ => none }
def fnExactMostDoneRow : OpenClaim := { program := "ythihcnlbohhemaa", sum := "02d3faffbc4741b97b2bee96020dee93589543728ff266ea9327f61aed6af9ca", func := "loop.example/dutyrosters/laws.FnExactMostDone", spec := "fnExactMostDone", recurses := true, plainKeys := false, apart := false }
def FnExactMostDoneSaid : Prop := fnExactMostDoneRow.holds Try.pinned (OpenSpec.ofChange fnExactMostDoneSpec)

/-- ITS FALSE NEIGHBOUR: 'it returns false'. Refute it at one input. -/
def fnExactMostDoneWrong : ChangeSpec := { name := "fnExactMostDone", fn := fun _ => fun
  | [d] => { results := [.lit (.bool false)], args := [d] }
  | _ => none }
def FnExactMostDoneWrongFalsely : Prop := fnExactMostDoneRow.holds Try.pinned (OpenSpec.ofChange fnExactMostDoneWrong)

/-- 'laws.FnExactShortOf': WHATEVER THE INPUT: true; the input reads as it did. -/
def fnExactShortOfSpec : ChangeSpec := { name := "fnExactShortOf", fn := fun _ => fun
  | [d] => { results := [.lit (.bool true)], args := [d] }
  | _ => none }
def fnExactShortOfRow : OpenClaim := { program := "ythihcnlbohhemaa", sum := "02d3faffbc4741b97b2bee96020dee93589543728ff266ea9327f61aed6af9ca", func := "loop.example/dutyrosters/laws.FnExactShortOf", spec := "fnExactShortOf", plainKeys := false, apart := false }
def FnExactShortOfSaid : Prop := fnExactShortOfRow.holds Try.pinned (OpenSpec.ofChange fnExactShortOfSpec)

/-- ITS FALSE NEIGHBOUR: 'it returns false'. Refute it at one input. -/
def fnExactShortOfWrong : ChangeSpec := { name := "fnExactShortOf", fn := fun _ => fun
  | [d] => { results := [.lit (.bool false)], args := [d] }
  | _ => none }
def FnExactShortOfWrongFalsely : Prop := fnExactShortOfRow.holds Try.pinned (OpenSpec.ofChange fnExactShortOfWrong)

/-- 'laws.FnExactGivingOk': WHATEVER THE INPUT: true; the input reads as it did. -/
def fnExactGivingOkSpec : ChangeSpec := { name := "fnExactGivingOk", fn := fun _ => fun
  | [d1, d2] => { results := [.lit (.bool true)], args := [d1, d2] }
  | _ => none }
def fnExactGivingOkRow : OpenClaim := { program := "ythihcnlbohhemaa", sum := "02d3faffbc4741b97b2bee96020dee93589543728ff266ea9327f61aed6af9ca", func := "loop.example/dutyrosters/laws.FnExactGivingOk", spec := "fnExactGivingOk", plainKeys := false, apart := false }
def FnExactGivingOkSaid : Prop := fnExactGivingOkRow.holds Try.pinned (OpenSpec.ofChange fnExactGivingOkSpec)

/-- ITS FALSE NEIGHBOUR: 'it returns false'. Refute it at one input. -/
def fnExactGivingOkWrong : ChangeSpec := { name := "fnExactGivingOk", fn := fun _ => fun
  | [d1, d2] => { results := [.lit (.bool false)], args := [d1, d2] }
  | _ => none }
def FnExactGivingOkWrongFalsely : Prop := fnExactGivingOkRow.holds Try.pinned (OpenSpec.ofChange fnExactGivingOkWrong)

/-- 'laws.FnExactFirstGiving': WHATEVER THE INPUT: true; the input reads as it did. -/
def fnExactFirstGivingSpec : ChangeSpec := { name := "fnExactFirstGiving", fn := fun _ => fun
  | [d] => { results := [.lit (.bool true)], args := [d] }
  | _ => none }
def fnExactFirstGivingRow : OpenClaim := { program := "ythihcnlbohhemaa", sum := "02d3faffbc4741b97b2bee96020dee93589543728ff266ea9327f61aed6af9ca", func := "loop.example/dutyrosters/laws.FnExactFirstGiving", spec := "fnExactFirstGiving", recurses := true, plainKeys := false, apart := false }
def FnExactFirstGivingSaid : Prop := fnExactFirstGivingRow.holds Try.pinned (OpenSpec.ofChange fnExactFirstGivingSpec)

/-- ITS FALSE NEIGHBOUR: 'it returns false'. Refute it at one input. -/
def fnExactFirstGivingWrong : ChangeSpec := { name := "fnExactFirstGiving", fn := fun _ => fun
  | [d] => { results := [.lit (.bool false)], args := [d] }
  | _ => none }
def FnExactFirstGivingWrongFalsely : Prop := fnExactFirstGivingRow.holds Try.pinned (OpenSpec.ofChange fnExactFirstGivingWrong)

/-- 'laws.FnExactCountGivings': WHATEVER THE INPUT: true; the input reads as it did. -/
def fnExactCountGivingsSpec : ChangeSpec := { name := "fnExactCountGivings", fn := fun _ => fun
  | [d] => { results := [.lit (.bool true)], args := [d] }
  | _ => none }
def fnExactCountGivingsRow : OpenClaim := { program := "ythihcnlbohhemaa", sum := "02d3faffbc4741b97b2bee96020dee93589543728ff266ea9327f61aed6af9ca", func := "loop.example/dutyrosters/laws.FnExactCountGivings", spec := "fnExactCountGivings", recurses := true, plainKeys := false, apart := false }
def FnExactCountGivingsSaid : Prop := fnExactCountGivingsRow.holds Try.pinned (OpenSpec.ofChange fnExactCountGivingsSpec)

/-- ITS FALSE NEIGHBOUR: 'it returns false'. Refute it at one input. -/
def fnExactCountGivingsWrong : ChangeSpec := { name := "fnExactCountGivings", fn := fun _ => fun
  | [d] => { results := [.lit (.bool false)], args := [d] }
  | _ => none }
def FnExactCountGivingsWrongFalsely : Prop := fnExactCountGivingsRow.holds Try.pinned (OpenSpec.ofChange fnExactCountGivingsWrong)

/- THE SECOND FORM. 'bulk': how many values and letters a reading holds, each counted each time it is reached (what is shared counts as often as it is met; a slice's spare places count too). A statement '..UptoSaid' is the law's where the arguments, and the package variables that the reading takes, are together of bulk at most 1048576: NARROWER than '..Said'. Prove '..Said' where nothing that the law and all that it calls make is longer than what came in: it says more and counts as full. Else prove '..UptoSaid'. A law counts once. -/
mutual
def uptoBulk {H : Type} : DataW H → Nat
  | .lit (.string bytes) => bytes.length + 1
  | .lit _ => 1
  | .nil => 1
  | .ptr d => uptoBulk d + 1
  | .slice elems spare => uptoBulkAll elems + uptoBulkAll spare + 1
  | .agg parts => uptoBulkAll parts + 1
  | .iface _ d => uptoBulk d + 1
  | .map entries => uptoBulkEntries entries + 1
  | .held _ => 1
def uptoBulkAll {H : Type} : List (DataW H) → Nat
  | [] => 0
  | d :: r => uptoBulk d + uptoBulkAll r
def uptoBulkEntries {H : Type} : List (Lit × DataW H) → Nat
  | [] => 0
  | x :: r => uptoBulkEntry x + uptoBulkEntries r
def uptoBulkEntry {H : Type} : Lit × DataW H → Nat
  | (.string bytes, d) => bytes.length + uptoBulk d + 1
  | (_, d) => uptoBulk d + 1
 end
def uptoSmall : (H : Type) → List (DataW H) → Bool := fun _ ds => decide (uptoBulkAll ds ≤ 1048576)
def OpenSpec.upto (s : _root_.Go.ChangeSpec) : _root_.Go.OpenSpec := { _root_.Go.OpenSpec.ofChange s with cond := some uptoSmall }

/-- 'laws.FnLeastMachine', WHERE WHAT IT READS IS OF BULK AT MOST 1048576: true; the input reads as it did. -/
def fnLeastMachineUptoRow : OpenClaim := { program := "ythihcnlbohhemaa", sum := "02d3faffbc4741b97b2bee96020dee93589543728ff266ea9327f61aed6af9ca", func := "loop.example/dutyrosters/laws.FnLeastMachine", spec := "fnLeastMachine", inPlace := ["internal/bytealg.IndexByteString"], unfollowed := true, recurses := true, plainKeys := false, apart := false, narrowed := true }
def FnLeastMachineUptoSaid : Prop := fnLeastMachineUptoRow.holds Try.pinned (OpenSpec.upto fnLeastMachineSpec)

/-- 'laws.FnCountWalks', WHERE WHAT IT READS IS OF BULK AT MOST 1048576: true; the input reads as it did. -/
def fnCountWalksUptoRow : OpenClaim := { program := "ythihcnlbohhemaa", sum := "02d3faffbc4741b97b2bee96020dee93589543728ff266ea9327f61aed6af9ca", func := "loop.example/dutyrosters/laws.FnCountWalks", spec := "fnCountWalks", inPlace := ["internal/bytealg.IndexByteString"], unfollowed := true, recurses := true, plainKeys := false, apart := false, narrowed := true }
def FnCountWalksUptoSaid : Prop := fnCountWalksUptoRow.holds Try.pinned (OpenSpec.upto fnCountWalksSpec)

/-- 'laws.FnCountNecklaces', WHERE WHAT IT READS IS OF BULK AT MOST 1048576: true; the input reads as it did. -/
def fnCountNecklacesUptoRow : OpenClaim := { program := "ythihcnlbohhemaa", sum := "02d3faffbc4741b97b2bee96020dee93589543728ff266ea9327f61aed6af9ca", func := "loop.example/dutyrosters/laws.FnCountNecklaces", spec := "fnCountNecklaces", inPlace := ["internal/bytealg.IndexByteString"], unfollowed := true, recurses := true, plainKeys := false, apart := false, narrowed := true }
def FnCountNecklacesUptoSaid : Prop := fnCountNecklacesUptoRow.holds Try.pinned (OpenSpec.upto fnCountNecklacesSpec)

/-- 'laws.FnDayOk', WHERE WHAT IT READS IS OF BULK AT MOST 1048576: true; the input reads as it did. -/
def fnDayOkUptoRow : OpenClaim := { program := "ythihcnlbohhemaa", sum := "02d3faffbc4741b97b2bee96020dee93589543728ff266ea9327f61aed6af9ca", func := "loop.example/dutyrosters/laws.FnDayOk", spec := "fnDayOk", inPlace := ["internal/bytealg.IndexByteString"], plainKeys := false, apart := false, narrowed := true }
def FnDayOkUptoSaid : Prop := fnDayOkUptoRow.holds Try.pinned (OpenSpec.upto fnDayOkSpec)

/-- 'laws.FnMostDone', WHERE WHAT IT READS IS OF BULK AT MOST 1048576: true; the input reads as it did. -/
def fnMostDoneUptoRow : OpenClaim := { program := "ythihcnlbohhemaa", sum := "02d3faffbc4741b97b2bee96020dee93589543728ff266ea9327f61aed6af9ca", func := "loop.example/dutyrosters/laws.FnMostDone", spec := "fnMostDone", inPlace := ["internal/bytealg.IndexByteString"], recurses := true, plainKeys := false, apart := false, narrowed := true }
def FnMostDoneUptoSaid : Prop := fnMostDoneUptoRow.holds Try.pinned (OpenSpec.upto fnMostDoneSpec)

/-- 'laws.FnShortOf', WHERE WHAT IT READS IS OF BULK AT MOST 1048576: true; the input reads as it did. -/
def fnShortOfUptoRow : OpenClaim := { program := "ythihcnlbohhemaa", sum := "02d3faffbc4741b97b2bee96020dee93589543728ff266ea9327f61aed6af9ca", func := "loop.example/dutyrosters/laws.FnShortOf", spec := "fnShortOf", inPlace := ["internal/bytealg.IndexByteString"], recurses := true, plainKeys := false, apart := false, narrowed := true }
def FnShortOfUptoSaid : Prop := fnShortOfUptoRow.holds Try.pinned (OpenSpec.upto fnShortOfSpec)

/-- 'laws.FnGivingOk', WHERE WHAT IT READS IS OF BULK AT MOST 1048576: true; the input reads as it did. -/
def fnGivingOkUptoRow : OpenClaim := { program := "ythihcnlbohhemaa", sum := "02d3faffbc4741b97b2bee96020dee93589543728ff266ea9327f61aed6af9ca", func := "loop.example/dutyrosters/laws.FnGivingOk", spec := "fnGivingOk", inPlace := ["internal/bytealg.IndexByteString"], recurses := true, plainKeys := false, apart := false, narrowed := true }
def FnGivingOkUptoSaid : Prop := fnGivingOkUptoRow.holds Try.pinned (OpenSpec.upto fnGivingOkSpec)

/-- 'laws.FnFirstGiving', WHERE WHAT IT READS IS OF BULK AT MOST 1048576: true; the input reads as it did. -/
def fnFirstGivingUptoRow : OpenClaim := { program := "ythihcnlbohhemaa", sum := "02d3faffbc4741b97b2bee96020dee93589543728ff266ea9327f61aed6af9ca", func := "loop.example/dutyrosters/laws.FnFirstGiving", spec := "fnFirstGiving", inPlace := ["internal/bytealg.IndexByteString"], recurses := true, plainKeys := false, apart := false, narrowed := true }
def FnFirstGivingUptoSaid : Prop := fnFirstGivingUptoRow.holds Try.pinned (OpenSpec.upto fnFirstGivingSpec)

/-- 'laws.FnCountGivings', WHERE WHAT IT READS IS OF BULK AT MOST 1048576: true; the input reads as it did. -/
def fnCountGivingsUptoRow : OpenClaim := { program := "ythihcnlbohhemaa", sum := "02d3faffbc4741b97b2bee96020dee93589543728ff266ea9327f61aed6af9ca", func := "loop.example/dutyrosters/laws.FnCountGivings", spec := "fnCountGivings", inPlace := ["internal/bytealg.IndexByteString"], recurses := true, plainKeys := false, apart := false, narrowed := true }
def FnCountGivingsUptoSaid : Prop := fnCountGivingsUptoRow.holds Try.pinned (OpenSpec.upto fnCountGivingsSpec)

/-- 'laws.FnExactDayOk', WHERE WHAT IT READS IS OF BULK AT MOST 1048576: true; the input reads as it did. -/
def fnExactDayOkUptoRow : OpenClaim := { program := "ythihcnlbohhemaa", sum := "02d3faffbc4741b97b2bee96020dee93589543728ff266ea9327f61aed6af9ca", func := "loop.example/dutyrosters/laws.FnExactDayOk", spec := "fnExactDayOk", plainKeys := false, apart := false, narrowed := true }
def FnExactDayOkUptoSaid : Prop := fnExactDayOkUptoRow.holds Try.pinned (OpenSpec.upto fnExactDayOkSpec)

/-- 'laws.FnExactMostDone', WHERE WHAT IT READS IS OF BULK AT MOST 1048576: true; the input reads as it did. -/
def fnExactMostDoneUptoRow : OpenClaim := { program := "ythihcnlbohhemaa", sum := "02d3faffbc4741b97b2bee96020dee93589543728ff266ea9327f61aed6af9ca", func := "loop.example/dutyrosters/laws.FnExactMostDone", spec := "fnExactMostDone", recurses := true, plainKeys := false, apart := false, narrowed := true }
def FnExactMostDoneUptoSaid : Prop := fnExactMostDoneUptoRow.holds Try.pinned (OpenSpec.upto fnExactMostDoneSpec)

/-- 'laws.FnExactShortOf', WHERE WHAT IT READS IS OF BULK AT MOST 1048576: true; the input reads as it did. -/
def fnExactShortOfUptoRow : OpenClaim := { program := "ythihcnlbohhemaa", sum := "02d3faffbc4741b97b2bee96020dee93589543728ff266ea9327f61aed6af9ca", func := "loop.example/dutyrosters/laws.FnExactShortOf", spec := "fnExactShortOf", plainKeys := false, apart := false, narrowed := true }
def FnExactShortOfUptoSaid : Prop := fnExactShortOfUptoRow.holds Try.pinned (OpenSpec.upto fnExactShortOfSpec)

/-- 'laws.FnExactGivingOk', WHERE WHAT IT READS IS OF BULK AT MOST 1048576: true; the input reads as it did. -/
def fnExactGivingOkUptoRow : OpenClaim := { program := "ythihcnlbohhemaa", sum := "02d3faffbc4741b97b2bee96020dee93589543728ff266ea9327f61aed6af9ca", func := "loop.example/dutyrosters/laws.FnExactGivingOk", spec := "fnExactGivingOk", plainKeys := false, apart := false, narrowed := true }
def FnExactGivingOkUptoSaid : Prop := fnExactGivingOkUptoRow.holds Try.pinned (OpenSpec.upto fnExactGivingOkSpec)

/-- 'laws.FnExactFirstGiving', WHERE WHAT IT READS IS OF BULK AT MOST 1048576: true; the input reads as it did. -/
def fnExactFirstGivingUptoRow : OpenClaim := { program := "ythihcnlbohhemaa", sum := "02d3faffbc4741b97b2bee96020dee93589543728ff266ea9327f61aed6af9ca", func := "loop.example/dutyrosters/laws.FnExactFirstGiving", spec := "fnExactFirstGiving", recurses := true, plainKeys := false, apart := false, narrowed := true }
def FnExactFirstGivingUptoSaid : Prop := fnExactFirstGivingUptoRow.holds Try.pinned (OpenSpec.upto fnExactFirstGivingSpec)

/-- 'laws.FnExactCountGivings', WHERE WHAT IT READS IS OF BULK AT MOST 1048576: true; the input reads as it did. -/
def fnExactCountGivingsUptoRow : OpenClaim := { program := "ythihcnlbohhemaa", sum := "02d3faffbc4741b97b2bee96020dee93589543728ff266ea9327f61aed6af9ca", func := "loop.example/dutyrosters/laws.FnExactCountGivings", spec := "fnExactCountGivings", recurses := true, plainKeys := false, apart := false, narrowed := true }
def FnExactCountGivingsUptoSaid : Prop := fnExactCountGivingsUptoRow.holds Try.pinned (OpenSpec.upto fnExactCountGivingsSpec)

end Rows
end Go.Proofs.Ythihcnlbohhemaa

/-
  No cell of these rows narrows 'for every input' (looked for: loops, veiled, ifaces, maps, wideKeys, modest, calm, conditions, laid).
  DERIVED. THE GIVEN ROWS OF THIS SEAT. 14 by the template 'for every input the law returns true; each argument reads behind the call as it read before'; 0 by the template 'total and deterministic' (their statements: YtlbblfbiiceofaaTotals.lean).
  GIVEN WITH THE SEED: the statements are not yours to turn. If you find one false, say at which input.
  Laid BY PROGRAM, IN A SANDBOX (cutbox-rows.mjs): the forced cells as the released guide's own fill.sh prints them over the translation 364f9d1ba45eeb2f… (all of the seat's roots in one cut). By AI agents, Wed Nov 11 2026. No macro, syntax, notation, axiom, sorry.
-/
import Derived.Test.YtlbblfbiiceofaaChecked
import GoSem.Claim
import GoSem.ClaimJoined
import GoSem.ClaimMapViews
import Derived.JoinedTies
import Derived.KernelRfl
namespace Go.Proofs.Ytlbblfbiiceofaa
/- THE CELL 'sum', in the pinned program and in every row, IS THE sha256 OF THE DUMP (.gsa) THAT YtlbblfbiiceofaaProg.lean LOADS. Nothing in Lean hashes anything: it is a label: what it is worth is what the hold of that sum in a sandbox is worth. -/
noncomputable def Try.pinned : Pinned := { name := "ytlbblfbiiceofaa", sum := "364f9d1ba45eeb2f59edf62a1b427ffd4f2194ff8bf23190f6f33f2eef7b0977", checked := Try.checked }
namespace Rows
def none {H : Type} : Left H := { results := [], args := [] }

/-- 'laws.FnRosterOk': WHATEVER THE INPUT: true; the input reads as it did. -/
def fnRosterOkSpec : ChangeSpec := { name := "fnRosterOk", fn := fun _ => fun
  | [d] => { results := [.lit (.bool true)], args := [d] }
  | _ => none }
def fnRosterOkRow : OpenClaim := { program := "ytlbblfbiiceofaa", sum := "364f9d1ba45eeb2f59edf62a1b427ffd4f2194ff8bf23190f6f33f2eef7b0977", func := "loop.example/dutyrosters/laws.FnRosterOk", spec := "fnRosterOk", inPlace := ["internal/bytealg.IndexByteString"], unfollowed := true, recurses := true, apart := false }
def FnRosterOkSaid : Prop := fnRosterOkRow.holds Try.pinned (OpenSpec.ofChange fnRosterOkSpec)

/-- ITS FALSE NEIGHBOUR: 'it returns false'. Refute it at one input. -/
def fnRosterOkWrong : ChangeSpec := { name := "fnRosterOk", fn := fun _ => fun
  | [d] => { results := [.lit (.bool false)], args := [d] }
  | _ => none }
def FnRosterOkWrongFalsely : Prop := fnRosterOkRow.holds Try.pinned (OpenSpec.ofChange fnRosterOkWrong)

/-- 'laws.FnNeedsOk': WHATEVER THE INPUT: true; the input reads as it did. -/
def fnNeedsOkSpec : ChangeSpec := { name := "fnNeedsOk", fn := fun _ => fun
  | [d] => { results := [.lit (.bool true)], args := [d] }
  | _ => none }
def fnNeedsOkRow : OpenClaim := { program := "ytlbblfbiiceofaa", sum := "364f9d1ba45eeb2f59edf62a1b427ffd4f2194ff8bf23190f6f33f2eef7b0977", func := "loop.example/dutyrosters/laws.FnNeedsOk", spec := "fnNeedsOk", inPlace := ["internal/bytealg.IndexByteString"], apart := false }
def FnNeedsOkSaid : Prop := fnNeedsOkRow.holds Try.pinned (OpenSpec.ofChange fnNeedsOkSpec)

/-- ITS FALSE NEIGHBOUR: 'it returns false'. Refute it at one input. -/
def fnNeedsOkWrong : ChangeSpec := { name := "fnNeedsOk", fn := fun _ => fun
  | [d] => { results := [.lit (.bool false)], args := [d] }
  | _ => none }
def FnNeedsOkWrongFalsely : Prop := fnNeedsOkRow.holds Try.pinned (OpenSpec.ofChange fnNeedsOkWrong)

/-- 'laws.FnDayOf': WHATEVER THE INPUT: true; the input reads as it did. -/
def fnDayOfSpec : ChangeSpec := { name := "fnDayOf", fn := fun _ => fun
  | [d] => { results := [.lit (.bool true)], args := [d] }
  | _ => none }
def fnDayOfRow : OpenClaim := { program := "ytlbblfbiiceofaa", sum := "364f9d1ba45eeb2f59edf62a1b427ffd4f2194ff8bf23190f6f33f2eef7b0977", func := "loop.example/dutyrosters/laws.FnDayOf", spec := "fnDayOf", inPlace := ["internal/bytealg.IndexByteString"], unfollowed := true, recurses := true, apart := false }
def FnDayOfSaid : Prop := fnDayOfRow.holds Try.pinned (OpenSpec.ofChange fnDayOfSpec)

/-- ITS FALSE NEIGHBOUR: 'it returns false'. Refute it at one input. -/
def fnDayOfWrong : ChangeSpec := { name := "fnDayOf", fn := fun _ => fun
  | [d] => { results := [.lit (.bool false)], args := [d] }
  | _ => none }
def FnDayOfWrongFalsely : Prop := fnDayOfRow.holds Try.pinned (OpenSpec.ofChange fnDayOfWrong)

/-- 'laws.FnCoverOk': WHATEVER THE INPUT: true; the input reads as it did. -/
def fnCoverOkSpec : ChangeSpec := { name := "fnCoverOk", fn := fun _ => fun
  | [d] => { results := [.lit (.bool true)], args := [d] }
  | _ => none }
def fnCoverOkRow : OpenClaim := { program := "ytlbblfbiiceofaa", sum := "364f9d1ba45eeb2f59edf62a1b427ffd4f2194ff8bf23190f6f33f2eef7b0977", func := "loop.example/dutyrosters/laws.FnCoverOk", spec := "fnCoverOk", inPlace := ["internal/bytealg.IndexByteString"], unfollowed := true, recurses := true, apart := false }
def FnCoverOkSaid : Prop := fnCoverOkRow.holds Try.pinned (OpenSpec.ofChange fnCoverOkSpec)

/-- ITS FALSE NEIGHBOUR: 'it returns false'. Refute it at one input. -/
def fnCoverOkWrong : ChangeSpec := { name := "fnCoverOk", fn := fun _ => fun
  | [d] => { results := [.lit (.bool false)], args := [d] }
  | _ => none }
def FnCoverOkWrongFalsely : Prop := fnCoverOkRow.holds Try.pinned (OpenSpec.ofChange fnCoverOkWrong)

/-- 'laws.FnKeepsAll': WHATEVER THE INPUT: true; the input reads as it did. -/
def fnKeepsAllSpec : ChangeSpec := { name := "fnKeepsAll", fn := fun _ => fun
  | [d] => { results := [.lit (.bool true)], args := [d] }
  | _ => none }
def fnKeepsAllRow : OpenClaim := { program := "ytlbblfbiiceofaa", sum := "364f9d1ba45eeb2f59edf62a1b427ffd4f2194ff8bf23190f6f33f2eef7b0977", func := "loop.example/dutyrosters/laws.FnKeepsAll", spec := "fnKeepsAll", inPlace := ["internal/bytealg.IndexByteString", "internal/bytealg.IndexString"], unfollowed := true, recurses := true, named := ["internal/bytealg.MaxLen"], apart := false }
def FnKeepsAllSaid : Prop := fnKeepsAllRow.holds Try.pinned (OpenSpec.ofChange fnKeepsAllSpec)

/-- ITS FALSE NEIGHBOUR: 'it returns false'. Refute it at one input. -/
def fnKeepsAllWrong : ChangeSpec := { name := "fnKeepsAll", fn := fun _ => fun
  | [d] => { results := [.lit (.bool false)], args := [d] }
  | _ => none }
def FnKeepsAllWrongFalsely : Prop := fnKeepsAllRow.holds Try.pinned (OpenSpec.ofChange fnKeepsAllWrong)

/-- 'laws.FnRightOk': WHATEVER THE INPUT: true; the input reads as it did. -/
def fnRightOkSpec : ChangeSpec := { name := "fnRightOk", fn := fun _ => fun
  | [d] => { results := [.lit (.bool true)], args := [d] }
  | _ => none }
def fnRightOkRow : OpenClaim := { program := "ytlbblfbiiceofaa", sum := "364f9d1ba45eeb2f59edf62a1b427ffd4f2194ff8bf23190f6f33f2eef7b0977", func := "loop.example/dutyrosters/laws.FnRightOk", spec := "fnRightOk", inPlace := ["internal/bytealg.IndexByteString", "internal/bytealg.IndexString"], unfollowed := true, recurses := true, named := ["internal/bytealg.MaxLen"], apart := false }
def FnRightOkSaid : Prop := fnRightOkRow.holds Try.pinned (OpenSpec.ofChange fnRightOkSpec)

/-- ITS FALSE NEIGHBOUR: 'it returns false'. Refute it at one input. -/
def fnRightOkWrong : ChangeSpec := { name := "fnRightOk", fn := fun _ => fun
  | [d] => { results := [.lit (.bool false)], args := [d] }
  | _ => none }
def FnRightOkWrongFalsely : Prop := fnRightOkRow.holds Try.pinned (OpenSpec.ofChange fnRightOkWrong)

/-- 'laws.FnRowsExchanged': WHATEVER THE INPUT: true; the input reads as it did. -/
def fnRowsExchangedSpec : ChangeSpec := { name := "fnRowsExchanged", fn := fun _ => fun
  | [d] => { results := [.lit (.bool true)], args := [d] }
  | _ => none }
def fnRowsExchangedRow : OpenClaim := { program := "ytlbblfbiiceofaa", sum := "364f9d1ba45eeb2f59edf62a1b427ffd4f2194ff8bf23190f6f33f2eef7b0977", func := "loop.example/dutyrosters/laws.FnRowsExchanged", spec := "fnRowsExchanged", inPlace := ["internal/bytealg.IndexByteString"], unfollowed := true, recurses := true, apart := false }
def FnRowsExchangedSaid : Prop := fnRowsExchangedRow.holds Try.pinned (OpenSpec.ofChange fnRowsExchangedSpec)

/-- ITS FALSE NEIGHBOUR: 'it returns false'. Refute it at one input. -/
def fnRowsExchangedWrong : ChangeSpec := { name := "fnRowsExchanged", fn := fun _ => fun
  | [d] => { results := [.lit (.bool false)], args := [d] }
  | _ => none }
def FnRowsExchangedWrongFalsely : Prop := fnRowsExchangedRow.holds Try.pinned (OpenSpec.ofChange fnRowsExchangedWrong)

/-- 'laws.FnExactRosterOk': WHATEVER THE INPUT: true; the input reads as it did. -/
def fnExactRosterOkSpec : ChangeSpec := { name := "fnExactRosterOk", fn := fun _ => fun
  | [d] => { results := [.lit (.bool true)], args := [d] }
  | _ => none }
def fnExactRosterOkRow : OpenClaim := { program := "ytlbblfbiiceofaa", sum := "364f9d1ba45eeb2f59edf62a1b427ffd4f2194ff8bf23190f6f33f2eef7b0977", func := "loop.example/dutyrosters/laws.FnExactRosterOk", spec := "fnExactRosterOk", inPlace := ["internal/bytealg.IndexByteString"], unfollowed := true, recurses := true, apart := false }
def FnExactRosterOkSaid : Prop := fnExactRosterOkRow.holds Try.pinned (OpenSpec.ofChange fnExactRosterOkSpec)

/-- ITS FALSE NEIGHBOUR: 'it returns false'. Refute it at one input. -/
def fnExactRosterOkWrong : ChangeSpec := { name := "fnExactRosterOk", fn := fun _ => fun
  | [d] => { results := [.lit (.bool false)], args := [d] }
  | _ => none }
def FnExactRosterOkWrongFalsely : Prop := fnExactRosterOkRow.holds Try.pinned (OpenSpec.ofChange fnExactRosterOkWrong)

/-- 'laws.FnExactNeedsOk': WHATEVER THE INPUT: true; the input reads as it did. -/
def fnExactNeedsOkSpec : ChangeSpec := { name := "fnExactNeedsOk", fn := fun _ => fun
  | [d] => { results := [.lit (.bool true)], args := [d] }
  | _ => none }
def fnExactNeedsOkRow : OpenClaim := { program := "ytlbblfbiiceofaa", sum := "364f9d1ba45eeb2f59edf62a1b427ffd4f2194ff8bf23190f6f33f2eef7b0977", func := "loop.example/dutyrosters/laws.FnExactNeedsOk", spec := "fnExactNeedsOk", apart := false }
def FnExactNeedsOkSaid : Prop := fnExactNeedsOkRow.holds Try.pinned (OpenSpec.ofChange fnExactNeedsOkSpec)

/-- ITS FALSE NEIGHBOUR: 'it returns false'. Refute it at one input. -/
def fnExactNeedsOkWrong : ChangeSpec := { name := "fnExactNeedsOk", fn := fun _ => fun
  | [d] => { results := [.lit (.bool false)], args := [d] }
  | _ => none }
def FnExactNeedsOkWrongFalsely : Prop := fnExactNeedsOkRow.holds Try.pinned (OpenSpec.ofChange fnExactNeedsOkWrong)

/-- 'laws.FnExactDayOf': WHATEVER THE INPUT: true; the input reads as it did. -/
def fnExactDayOfSpec : ChangeSpec := { name := "fnExactDayOf", fn := fun _ => fun
  | [d1, d2] => { results := [.lit (.bool true)], args := [d1, d2] }
  | _ => none }
def fnExactDayOfRow : OpenClaim := { program := "ytlbblfbiiceofaa", sum := "364f9d1ba45eeb2f59edf62a1b427ffd4f2194ff8bf23190f6f33f2eef7b0977", func := "loop.example/dutyrosters/laws.FnExactDayOf", spec := "fnExactDayOf", inPlace := ["internal/bytealg.IndexByteString"], unfollowed := true, recurses := true, apart := false }
def FnExactDayOfSaid : Prop := fnExactDayOfRow.holds Try.pinned (OpenSpec.ofChange fnExactDayOfSpec)

/-- ITS FALSE NEIGHBOUR: 'it returns false'. Refute it at one input. -/
def fnExactDayOfWrong : ChangeSpec := { name := "fnExactDayOf", fn := fun _ => fun
  | [d1, d2] => { results := [.lit (.bool false)], args := [d1, d2] }
  | _ => none }
def FnExactDayOfWrongFalsely : Prop := fnExactDayOfRow.holds Try.pinned (OpenSpec.ofChange fnExactDayOfWrong)

/-- 'laws.FnExactCoverOk': WHATEVER THE INPUT: true; the input reads as it did. -/
def fnExactCoverOkSpec : ChangeSpec := { name := "fnExactCoverOk", fn := fun _ => fun
  | [d1, d2] => { results := [.lit (.bool true)], args := [d1, d2] }
  | _ => none }
def fnExactCoverOkRow : OpenClaim := { program := "ytlbblfbiiceofaa", sum := "364f9d1ba45eeb2f59edf62a1b427ffd4f2194ff8bf23190f6f33f2eef7b0977", func := "loop.example/dutyrosters/laws.FnExactCoverOk", spec := "fnExactCoverOk", inPlace := ["internal/bytealg.IndexByteString"], unfollowed := true, recurses := true, apart := false }
def FnExactCoverOkSaid : Prop := fnExactCoverOkRow.holds Try.pinned (OpenSpec.ofChange fnExactCoverOkSpec)

/-- ITS FALSE NEIGHBOUR: 'it returns false'. Refute it at one input. -/
def fnExactCoverOkWrong : ChangeSpec := { name := "fnExactCoverOk", fn := fun _ => fun
  | [d1, d2] => { results := [.lit (.bool false)], args := [d1, d2] }
  | _ => none }
def FnExactCoverOkWrongFalsely : Prop := fnExactCoverOkRow.holds Try.pinned (OpenSpec.ofChange fnExactCoverOkWrong)

/-- 'laws.FnExactKeepsAll': WHATEVER THE INPUT: true; the input reads as it did. -/
def fnExactKeepsAllSpec : ChangeSpec := { name := "fnExactKeepsAll", fn := fun _ => fun
  | [d1, d2] => { results := [.lit (.bool true)], args := [d1, d2] }
  | _ => none }
def fnExactKeepsAllRow : OpenClaim := { program := "ytlbblfbiiceofaa", sum := "364f9d1ba45eeb2f59edf62a1b427ffd4f2194ff8bf23190f6f33f2eef7b0977", func := "loop.example/dutyrosters/laws.FnExactKeepsAll", spec := "fnExactKeepsAll", inPlace := ["internal/bytealg.IndexByteString", "internal/bytealg.IndexString"], unfollowed := true, recurses := true, named := ["internal/bytealg.MaxLen"], apart := false }
def FnExactKeepsAllSaid : Prop := fnExactKeepsAllRow.holds Try.pinned (OpenSpec.ofChange fnExactKeepsAllSpec)

/-- ITS FALSE NEIGHBOUR: 'it returns false'. Refute it at one input. -/
def fnExactKeepsAllWrong : ChangeSpec := { name := "fnExactKeepsAll", fn := fun _ => fun
  | [d1, d2] => { results := [.lit (.bool false)], args := [d1, d2] }
  | _ => none }
def FnExactKeepsAllWrongFalsely : Prop := fnExactKeepsAllRow.holds Try.pinned (OpenSpec.ofChange fnExactKeepsAllWrong)

/-- 'laws.FnExactRightOk': WHATEVER THE INPUT: true; the input reads as it did. -/
def fnExactRightOkSpec : ChangeSpec := { name := "fnExactRightOk", fn := fun _ => fun
  | [d1, d2, d3] => { results := [.lit (.bool true)], args := [d1, d2, d3] }
  | _ => none }
def fnExactRightOkRow : OpenClaim := { program := "ytlbblfbiiceofaa", sum := "364f9d1ba45eeb2f59edf62a1b427ffd4f2194ff8bf23190f6f33f2eef7b0977", func := "loop.example/dutyrosters/laws.FnExactRightOk", spec := "fnExactRightOk", inPlace := ["internal/bytealg.IndexByteString", "internal/bytealg.IndexString"], unfollowed := true, recurses := true, named := ["internal/bytealg.MaxLen"], apart := false }
def FnExactRightOkSaid : Prop := fnExactRightOkRow.holds Try.pinned (OpenSpec.ofChange fnExactRightOkSpec)

/-- ITS FALSE NEIGHBOUR: 'it returns false'. Refute it at one input. -/
def fnExactRightOkWrong : ChangeSpec := { name := "fnExactRightOk", fn := fun _ => fun
  | [d1, d2, d3] => { results := [.lit (.bool false)], args := [d1, d2, d3] }
  | _ => none }
def FnExactRightOkWrongFalsely : Prop := fnExactRightOkRow.holds Try.pinned (OpenSpec.ofChange fnExactRightOkWrong)

/-- 'laws.FnExactRowsExchanged': WHATEVER THE INPUT: true; the input reads as it did. -/
def fnExactRowsExchangedSpec : ChangeSpec := { name := "fnExactRowsExchanged", fn := fun _ => fun
  | [d1, d2, d3] => { results := [.lit (.bool true)], args := [d1, d2, d3] }
  | _ => none }
def fnExactRowsExchangedRow : OpenClaim := { program := "ytlbblfbiiceofaa", sum := "364f9d1ba45eeb2f59edf62a1b427ffd4f2194ff8bf23190f6f33f2eef7b0977", func := "loop.example/dutyrosters/laws.FnExactRowsExchanged", spec := "fnExactRowsExchanged", inPlace := ["internal/bytealg.IndexByteString"], unfollowed := true, recurses := true, apart := false }
def FnExactRowsExchangedSaid : Prop := fnExactRowsExchangedRow.holds Try.pinned (OpenSpec.ofChange fnExactRowsExchangedSpec)

/-- ITS FALSE NEIGHBOUR: 'it returns false'. Refute it at one input. -/
def fnExactRowsExchangedWrong : ChangeSpec := { name := "fnExactRowsExchanged", fn := fun _ => fun
  | [d1, d2, d3] => { results := [.lit (.bool false)], args := [d1, d2, d3] }
  | _ => none }
def FnExactRowsExchangedWrongFalsely : Prop := fnExactRowsExchangedRow.holds Try.pinned (OpenSpec.ofChange fnExactRowsExchangedWrong)

/- THE SECOND FORM. 'bulk': how many values and letters a reading holds, each counted each time it is reached (what is shared counts as often as it is met; a slice's spare places count too). A statement '..UptoSaid' is the law's where the arguments, and the package variables that the reading takes, are together of bulk at most 1048576: NARROWER than '..Said'. Prove '..Said' where nothing that the law and all that it calls make is longer than what came in: it says more and counts as full. Else prove '..UptoSaid'. A law counts once. -/
mutual
def uptoBulk {H : Type} : DataW H → Nat
  | .lit (.string bytes) => bytes.length + 1
  | .lit _ => 1
  | .nil => 1
  | .ptr d => uptoBulk d + 1
  | .slice elems spare => uptoBulkAll elems + uptoBulkAll spare + 1
  | .agg parts => uptoBulkAll parts + 1
  | .iface _ d => uptoBulk d + 1
  | .map entries => uptoBulkEntries entries + 1
  | .held _ => 1
def uptoBulkAll {H : Type} : List (DataW H) → Nat
  | [] => 0
  | d :: r => uptoBulk d + uptoBulkAll r
def uptoBulkEntries {H : Type} : List (Lit × DataW H) → Nat
  | [] => 0
  | x :: r => uptoBulkEntry x + uptoBulkEntries r
def uptoBulkEntry {H : Type} : Lit × DataW H → Nat
  | (.string bytes, d) => bytes.length + uptoBulk d + 1
  | (_, d) => uptoBulk d + 1
 end
def uptoSmall : (H : Type) → List (DataW H) → Bool := fun _ ds => decide (uptoBulkAll ds ≤ 1048576)
def OpenSpec.upto (s : _root_.Go.ChangeSpec) : _root_.Go.OpenSpec := { _root_.Go.OpenSpec.ofChange s with cond := some uptoSmall }

/-- 'laws.FnRosterOk', WHERE WHAT IT READS IS OF BULK AT MOST 1048576: true; the input reads as it did. -/
def fnRosterOkUptoRow : OpenClaim := { program := "ytlbblfbiiceofaa", sum := "364f9d1ba45eeb2f59edf62a1b427ffd4f2194ff8bf23190f6f33f2eef7b0977", func := "loop.example/dutyrosters/laws.FnRosterOk", spec := "fnRosterOk", inPlace := ["internal/bytealg.IndexByteString"], unfollowed := true, recurses := true, apart := false, narrowed := true }
def FnRosterOkUptoSaid : Prop := fnRosterOkUptoRow.holds Try.pinned (OpenSpec.upto fnRosterOkSpec)

/-- 'laws.FnNeedsOk', WHERE WHAT IT READS IS OF BULK AT MOST 1048576: true; the input reads as it did. -/
def fnNeedsOkUptoRow : OpenClaim := { program := "ytlbblfbiiceofaa", sum := "364f9d1ba45eeb2f59edf62a1b427ffd4f2194ff8bf23190f6f33f2eef7b0977", func := "loop.example/dutyrosters/laws.FnNeedsOk", spec := "fnNeedsOk", inPlace := ["internal/bytealg.IndexByteString"], apart := false, narrowed := true }
def FnNeedsOkUptoSaid : Prop := fnNeedsOkUptoRow.holds Try.pinned (OpenSpec.upto fnNeedsOkSpec)

/-- 'laws.FnDayOf', WHERE WHAT IT READS IS OF BULK AT MOST 1048576: true; the input reads as it did. -/
def fnDayOfUptoRow : OpenClaim := { program := "ytlbblfbiiceofaa", sum := "364f9d1ba45eeb2f59edf62a1b427ffd4f2194ff8bf23190f6f33f2eef7b0977", func := "loop.example/dutyrosters/laws.FnDayOf", spec := "fnDayOf", inPlace := ["internal/bytealg.IndexByteString"], unfollowed := true, recurses := true, apart := false, narrowed := true }
def FnDayOfUptoSaid : Prop := fnDayOfUptoRow.holds Try.pinned (OpenSpec.upto fnDayOfSpec)

/-- 'laws.FnCoverOk', WHERE WHAT IT READS IS OF BULK AT MOST 1048576: true; the input reads as it did. -/
def fnCoverOkUptoRow : OpenClaim := { program := "ytlbblfbiiceofaa", sum := "364f9d1ba45eeb2f59edf62a1b427ffd4f2194ff8bf23190f6f33f2eef7b0977", func := "loop.example/dutyrosters/laws.FnCoverOk", spec := "fnCoverOk", inPlace := ["internal/bytealg.IndexByteString"], unfollowed := true, recurses := true, apart := false, narrowed := true }
def FnCoverOkUptoSaid : Prop := fnCoverOkUptoRow.holds Try.pinned (OpenSpec.upto fnCoverOkSpec)

/-- 'laws.FnKeepsAll', WHERE WHAT IT READS IS OF BULK AT MOST 1048576: true; the input reads as it did. -/
def fnKeepsAllUptoRow : OpenClaim := { program := "ytlbblfbiiceofaa", sum := "364f9d1ba45eeb2f59edf62a1b427ffd4f2194ff8bf23190f6f33f2eef7b0977", func := "loop.example/dutyrosters/laws.FnKeepsAll", spec := "fnKeepsAll", inPlace := ["internal/bytealg.IndexByteString", "internal/bytealg.IndexString"], unfollowed := true, recurses := true, named := ["internal/bytealg.MaxLen"], apart := false, narrowed := true }
def FnKeepsAllUptoSaid : Prop := fnKeepsAllUptoRow.holds Try.pinned (OpenSpec.upto fnKeepsAllSpec)

/-- 'laws.FnRightOk', WHERE WHAT IT READS IS OF BULK AT MOST 1048576: true; the input reads as it did. -/
def fnRightOkUptoRow : OpenClaim := { program := "ytlbblfbiiceofaa", sum := "364f9d1ba45eeb2f59edf62a1b427ffd4f2194ff8bf23190f6f33f2eef7b0977", func := "loop.example/dutyrosters/laws.FnRightOk", spec := "fnRightOk", inPlace := ["internal/bytealg.IndexByteString", "internal/bytealg.IndexString"], unfollowed := true, recurses := true, named := ["internal/bytealg.MaxLen"], apart := false, narrowed := true }
def FnRightOkUptoSaid : Prop := fnRightOkUptoRow.holds Try.pinned (OpenSpec.upto fnRightOkSpec)

/-- 'laws.FnRowsExchanged', WHERE WHAT IT READS IS OF BULK AT MOST 1048576: true; the input reads as it did. -/
def fnRowsExchangedUptoRow : OpenClaim := { program := "ytlbblfbiiceofaa", sum := "364f9d1ba45eeb2f59edf62a1b427ffd4f2194ff8bf23190f6f33f2eef7b0977", func := "loop.example/dutyrosters/laws.FnRowsExchanged", spec := "fnRowsExchanged", inPlace := ["internal/bytealg.IndexByteString"], unfollowed := true, recurses := true, apart := false, narrowed := true }
def FnRowsExchangedUptoSaid : Prop := fnRowsExchangedUptoRow.holds Try.pinned (OpenSpec.upto fnRowsExchangedSpec)

/-- 'laws.FnExactRosterOk', WHERE WHAT IT READS IS OF BULK AT MOST 1048576: true; the input reads as it did. -/
def fnExactRosterOkUptoRow : OpenClaim := { program := "ytlbblfbiiceofaa", sum := "364f9d1ba45eeb2f59edf62a1b427ffd4f2194ff8bf23190f6f33f2eef7b0977", func := "loop.example/dutyrosters/laws.FnExactRosterOk", spec := "fnExactRosterOk", inPlace := ["internal/bytealg.IndexByteString"], unfollowed := true, recurses := true, apart := false, narrowed := true }
def FnExactRosterOkUptoSaid : Prop := fnExactRosterOkUptoRow.holds Try.pinned (OpenSpec.upto fnExactRosterOkSpec)

/-- 'laws.FnExactNeedsOk', WHERE WHAT IT READS IS OF BULK AT MOST 1048576: true; the input reads as it did. -/
def fnExactNeedsOkUptoRow : OpenClaim := { program := "ytlbblfbiiceofaa", sum := "364f9d1ba45eeb2f59edf62a1b427ffd4f2194ff8bf23190f6f33f2eef7b0977", func := "loop.example/dutyrosters/laws.FnExactNeedsOk", spec := "fnExactNeedsOk", apart := false, narrowed := true }
def FnExactNeedsOkUptoSaid : Prop := fnExactNeedsOkUptoRow.holds Try.pinned (OpenSpec.upto fnExactNeedsOkSpec)

/-- 'laws.FnExactDayOf', WHERE WHAT IT READS IS OF BULK AT MOST 1048576: true; the input reads as it did. -/
def fnExactDayOfUptoRow : OpenClaim := { program := "ytlbblfbiiceofaa", sum := "364f9d1ba45eeb2f59edf62a1b427ffd4f2194ff8bf23190f6f33f2eef7b0977", func := "loop.example/dutyrosters/laws.FnExactDayOf", spec := "fnExactDayOf", inPlace := ["internal/bytealg.IndexByteString"], unfollowed := true, recurses := true, apart := false, narrowed := true }
def FnExactDayOfUptoSaid : Prop := fnExactDayOfUptoRow.holds Try.pinned (OpenSpec.upto fnExactDayOfSpec)

/-- 'laws.FnExactCoverOk', WHERE WHAT IT READS IS OF BULK AT MOST 1048576: true; the input reads as it did. -/
def fnExactCoverOkUptoRow : OpenClaim := { program := "ytlbblfbiiceofaa", sum := "364f9d1ba45eeb2f59edf62a1b427ffd4f2194ff8bf23190f6f33f2eef7b0977", func := "loop.example/dutyrosters/laws.FnExactCoverOk", spec := "fnExactCoverOk", inPlace := ["internal/bytealg.IndexByteString"], unfollowed := true, recurses := true, apart := false, narrowed := true }
def FnExactCoverOkUptoSaid : Prop := fnExactCoverOkUptoRow.holds Try.pinned (OpenSpec.upto fnExactCoverOkSpec)

/-- 'laws.FnExactKeepsAll', WHERE WHAT IT READS IS OF BULK AT MOST 1048576: true; the input reads as it did. -/
def fnExactKeepsAllUptoRow : OpenClaim := { program := "ytlbblfbiiceofaa", sum := "364f9d1ba45eeb2f59edf62a1b427ffd4f2194ff8bf23190f6f33f2eef7b0977", func := "loop.example/dutyrosters/laws.FnExactKeepsAll", spec := "fnExactKeepsAll", inPlace := ["internal/bytealg.IndexByteString", "internal/bytealg.IndexString"], unfollowed := true, recurses := true, named := ["internal/bytealg.MaxLen"], apart := false, narrowed := true }
def FnExactKeepsAllUptoSaid : Prop := fnExactKeepsAllUptoRow.holds Try.pinned (OpenSpec.upto fnExactKeepsAllSpec)

/-- 'laws.FnExactRightOk', WHERE WHAT IT READS IS OF BULK AT MOST 1048576: true; the input reads as it did. -/
def fnExactRightOkUptoRow : OpenClaim := { program := "ytlbblfbiiceofaa", sum := "364f9d1ba45eeb2f59edf62a1b427ffd4f2194ff8bf23190f6f33f2eef7b0977", func := "loop.example/dutyrosters/laws.FnExactRightOk", spec := "fnExactRightOk", inPlace := ["internal/bytealg.IndexByteString", "internal/bytealg.IndexString"], unfollowed := true, recurses := true, named := ["internal/bytealg.MaxLen"], apart := false, narrowed := true }
def FnExactRightOkUptoSaid : Prop := fnExactRightOkUptoRow.holds Try.pinned (OpenSpec.upto fnExactRightOkSpec)

/-- 'laws.FnExactRowsExchanged', WHERE WHAT IT READS IS OF BULK AT MOST 1048576: true; the input reads as it did. -/
def fnExactRowsExchangedUptoRow : OpenClaim := { program := "ytlbblfbiiceofaa", sum := "364f9d1ba45eeb2f59edf62a1b427ffd4f2194ff8bf23190f6f33f2eef7b0977", func := "loop.example/dutyrosters/laws.FnExactRowsExchanged", spec := "fnExactRowsExchanged", inPlace := ["internal/bytealg.IndexByteString"], unfollowed := true, recurses := true, apart := false, narrowed := true }
def FnExactRowsExchangedUptoSaid : Prop := fnExactRowsExchangedUptoRow.holds Try.pinned (OpenSpec.upto fnExactRowsExchangedSpec)

end Rows
end Go.Proofs.Ytlbblfbiiceofaa

/-
  No cell of these rows narrows 'for every input' (looked for: loops, veiled, ifaces, maps, wideKeys, modest, calm, conditions, laid).
  DERIVED. THE GIVEN ROWS OF THIS SEAT. 8 by the template 'for every input the law returns true; each argument reads behind the call as it read before'; 0 by the template 'total and deterministic' (their statements: YtdlabljipjfgjaaTotals.lean).
  GIVEN WITH THE SEED: the statements are not yours to turn. If you find one false, say at which input.
  Laid BY PROGRAM, IN A SANDBOX (cutbox-rows.mjs): the forced cells as the released guide's own fill.sh prints them over the translation 630a78a4fa656276… (all of the seat's roots in one cut). By AI agents, Wed Nov 11 2026. No macro, syntax, notation, axiom, sorry.
-/
import Derived.Test.YtdlabljipjfgjaaChecked
import GoSem.Claim
import GoSem.ClaimJoined
import GoSem.ClaimMapViews
import Derived.JoinedTies
import Derived.KernelRfl
namespace Go.Proofs.Ytdlabljipjfgjaa
/- THE CELL 'sum', in the pinned program and in every row, IS THE sha256 OF THE DUMP (.gsa) THAT YtdlabljipjfgjaaProg.lean LOADS. Nothing in Lean hashes anything: it is a label: what it is worth is what the hold of that sum in a sandbox is worth. -/
noncomputable def Try.pinned : Pinned := { name := "ytdlabljipjfgjaa", sum := "630a78a4fa65627668507dd2e1c3070b2b2780456c1ca756383db62e957ad34c", checked := Try.checked }
namespace Rows
def none {H : Type} : Left H := { results := [], args := [] }

/-- 'laws.FnWordOk': WHATEVER THE INPUT: true; the input reads as it did. -/
def fnWordOkSpec : ChangeSpec := { name := "fnWordOk", fn := fun _ => fun
  | [d] => { results := [.lit (.bool true)], args := [d] }
  | _ => none }
def fnWordOkRow : OpenClaim := { program := "ytdlabljipjfgjaa", sum := "630a78a4fa65627668507dd2e1c3070b2b2780456c1ca756383db62e957ad34c", func := "loop.example/dutyrosters/laws.FnWordOk", spec := "fnWordOk", inPlace := ["internal/bytealg.IndexByteString"], apart := false }
def FnWordOkSaid : Prop := fnWordOkRow.holds Try.pinned (OpenSpec.ofChange fnWordOkSpec)

/-- ITS FALSE NEIGHBOUR: 'it returns false'. Refute it at one input. -/
def fnWordOkWrong : ChangeSpec := { name := "fnWordOk", fn := fun _ => fun
  | [d] => { results := [.lit (.bool false)], args := [d] }
  | _ => none }
def FnWordOkWrongFalsely : Prop := fnWordOkRow.holds Try.pinned (OpenSpec.ofChange fnWordOkWrong)

/-- 'laws.FnLetterOk': WHATEVER THE INPUT: true; the input reads as it did. -/
def fnLetterOkSpec : ChangeSpec := { name := "fnLetterOk", fn := fun _ => fun
  | [d] => { results := [.lit (.bool true)], args := [d] }
  | _ => none }
def fnLetterOkRow : OpenClaim := { program := "ytdlabljipjfgjaa", sum := "630a78a4fa65627668507dd2e1c3070b2b2780456c1ca756383db62e957ad34c", func := "loop.example/dutyrosters/laws.FnLetterOk", spec := "fnLetterOk", inPlace := ["internal/bytealg.IndexByteString"], apart := false }
def FnLetterOkSaid : Prop := fnLetterOkRow.holds Try.pinned (OpenSpec.ofChange fnLetterOkSpec)

/-- ITS FALSE NEIGHBOUR: 'it returns false'. Refute it at one input. -/
def fnLetterOkWrong : ChangeSpec := { name := "fnLetterOk", fn := fun _ => fun
  | [d] => { results := [.lit (.bool false)], args := [d] }
  | _ => none }
def FnLetterOkWrongFalsely : Prop := fnLetterOkRow.holds Try.pinned (OpenSpec.ofChange fnLetterOkWrong)

/-- 'laws.FnCountOf': WHATEVER THE INPUT: true; the input reads as it did. -/
def fnCountOfSpec : ChangeSpec := { name := "fnCountOf", fn := fun _ => fun
  | [d] => { results := [.lit (.bool true)], args := [d] }
  | _ => none }
def fnCountOfRow : OpenClaim := { program := "ytdlabljipjfgjaa", sum := "630a78a4fa65627668507dd2e1c3070b2b2780456c1ca756383db62e957ad34c", func := "loop.example/dutyrosters/laws.FnCountOf", spec := "fnCountOf", inPlace := ["internal/bytealg.IndexByteString"], unfollowed := true, recurses := true, apart := false }
def FnCountOfSaid : Prop := fnCountOfRow.holds Try.pinned (OpenSpec.ofChange fnCountOfSpec)

/-- ITS FALSE NEIGHBOUR: 'it returns false'. Refute it at one input. -/
def fnCountOfWrong : ChangeSpec := { name := "fnCountOf", fn := fun _ => fun
  | [d] => { results := [.lit (.bool false)], args := [d] }
  | _ => none }
def FnCountOfWrongFalsely : Prop := fnCountOfRow.holds Try.pinned (OpenSpec.ofChange fnCountOfWrong)

/-- 'laws.FnRunsOf': WHATEVER THE INPUT: true; the input reads as it did. -/
def fnRunsOfSpec : ChangeSpec := { name := "fnRunsOf", fn := fun _ => fun
  | [d] => { results := [.lit (.bool true)], args := [d] }
  | _ => none }
def fnRunsOfRow : OpenClaim := { program := "ytdlabljipjfgjaa", sum := "630a78a4fa65627668507dd2e1c3070b2b2780456c1ca756383db62e957ad34c", func := "loop.example/dutyrosters/laws.FnRunsOf", spec := "fnRunsOf", inPlace := ["internal/bytealg.IndexByteString"], unfollowed := true, recurses := true, apart := false }
def FnRunsOfSaid : Prop := fnRunsOfRow.holds Try.pinned (OpenSpec.ofChange fnRunsOfSpec)

/-- ITS FALSE NEIGHBOUR: 'it returns false'. Refute it at one input. -/
def fnRunsOfWrong : ChangeSpec := { name := "fnRunsOf", fn := fun _ => fun
  | [d] => { results := [.lit (.bool false)], args := [d] }
  | _ => none }
def FnRunsOfWrongFalsely : Prop := fnRunsOfRow.holds Try.pinned (OpenSpec.ofChange fnRunsOfWrong)

/-- 'laws.FnLongestOf': WHATEVER THE INPUT: true; the input reads as it did. -/
def fnLongestOfSpec : ChangeSpec := { name := "fnLongestOf", fn := fun _ => fun
  | [d] => { results := [.lit (.bool true)], args := [d] }
  | _ => none }
def fnLongestOfRow : OpenClaim := { program := "ytdlabljipjfgjaa", sum := "630a78a4fa65627668507dd2e1c3070b2b2780456c1ca756383db62e957ad34c", func := "loop.example/dutyrosters/laws.FnLongestOf", spec := "fnLongestOf", inPlace := ["internal/bytealg.IndexByteString"], unfollowed := true, recurses := true, apart := false }
def FnLongestOfSaid : Prop := fnLongestOfRow.holds Try.pinned (OpenSpec.ofChange fnLongestOfSpec)

/-- ITS FALSE NEIGHBOUR: 'it returns false'. Refute it at one input. -/
def fnLongestOfWrong : ChangeSpec := { name := "fnLongestOf", fn := fun _ => fun
  | [d] => { results := [.lit (.bool false)], args := [d] }
  | _ => none }
def FnLongestOfWrongFalsely : Prop := fnLongestOfRow.holds Try.pinned (OpenSpec.ofChange fnLongestOfWrong)

/-- 'laws.FnBackWord': WHATEVER THE INPUT: true; the input reads as it did. -/
def fnBackWordSpec : ChangeSpec := { name := "fnBackWord", fn := fun _ => fun
  | [d] => { results := [.lit (.bool true)], args := [d] }
  | _ => none }
def fnBackWordRow : OpenClaim := { program := "ytdlabljipjfgjaa", sum := "630a78a4fa65627668507dd2e1c3070b2b2780456c1ca756383db62e957ad34c", func := "loop.example/dutyrosters/laws.FnBackWord", spec := "fnBackWord", inPlace := ["internal/bytealg.IndexByteString"], apart := false }
def FnBackWordSaid : Prop := fnBackWordRow.holds Try.pinned (OpenSpec.ofChange fnBackWordSpec)

/-- ITS FALSE NEIGHBOUR: 'it returns false'. Refute it at one input. -/
def fnBackWordWrong : ChangeSpec := { name := "fnBackWord", fn := fun _ => fun
  | [d] => { results := [.lit (.bool false)], args := [d] }
  | _ => none }
def FnBackWordWrongFalsely : Prop := fnBackWordRow.holds Try.pinned (OpenSpec.ofChange fnBackWordWrong)

/-- 'laws.FnRolledBy': WHATEVER THE INPUT: true; the input reads as it did. -/
def fnRolledBySpec : ChangeSpec := { name := "fnRolledBy", fn := fun _ => fun
  | [d] => { results := [.lit (.bool true)], args := [d] }
  | _ => none }
def fnRolledByRow : OpenClaim := { program := "ytdlabljipjfgjaa", sum := "630a78a4fa65627668507dd2e1c3070b2b2780456c1ca756383db62e957ad34c", func := "loop.example/dutyrosters/laws.FnRolledBy", spec := "fnRolledBy", inPlace := ["internal/bytealg.IndexByteString"], apart := false }
def FnRolledBySaid : Prop := fnRolledByRow.holds Try.pinned (OpenSpec.ofChange fnRolledBySpec)

/-- ITS FALSE NEIGHBOUR: 'it returns false'. Refute it at one input. -/
def fnRolledByWrong : ChangeSpec := { name := "fnRolledBy", fn := fun _ => fun
  | [d] => { results := [.lit (.bool false)], args := [d] }
  | _ => none }
def FnRolledByWrongFalsely : Prop := fnRolledByRow.holds Try.pinned (OpenSpec.ofChange fnRolledByWrong)

/-- 'laws.FnDifferOf': WHATEVER THE INPUT: true; the input reads as it did. -/
def fnDifferOfSpec : ChangeSpec := { name := "fnDifferOf", fn := fun _ => fun
  | [d1, d2] => { results := [.lit (.bool true)], args := [d1, d2] }
  | _ => none }
def fnDifferOfRow : OpenClaim := { program := "ytdlabljipjfgjaa", sum := "630a78a4fa65627668507dd2e1c3070b2b2780456c1ca756383db62e957ad34c", func := "loop.example/dutyrosters/laws.FnDifferOf", spec := "fnDifferOf", inPlace := ["internal/bytealg.IndexByteString"], unfollowed := true, recurses := true, apart := false }
def FnDifferOfSaid : Prop := fnDifferOfRow.holds Try.pinned (OpenSpec.ofChange fnDifferOfSpec)

/-- ITS FALSE NEIGHBOUR: 'it returns false'. Refute it at one input. -/
def fnDifferOfWrong : ChangeSpec := { name := "fnDifferOf", fn := fun _ => fun
  | [d1, d2] => { results := [.lit (.bool false)], args := [d1, d2] }
  | _ => none }
def FnDifferOfWrongFalsely : Prop := fnDifferOfRow.holds Try.pinned (OpenSpec.ofChange fnDifferOfWrong)

/- THE SECOND FORM. 'bulk': how many values and letters a reading holds, each counted each time it is reached (what is shared counts as often as it is met; a slice's spare places count too). A statement '..UptoSaid' is the law's where the arguments, and the package variables that the reading takes, are together of bulk at most 1048576: NARROWER than '..Said'. Prove '..Said' where nothing that the law and all that it calls make is longer than what came in: it says more and counts as full. Else prove '..UptoSaid'. A law counts once. -/
mutual
def uptoBulk {H : Type} : DataW H → Nat
  | .lit (.string bytes) => bytes.length + 1
  | .lit _ => 1
  | .nil => 1
  | .ptr d => uptoBulk d + 1
  | .slice elems spare => uptoBulkAll elems + uptoBulkAll spare + 1
  | .agg parts => uptoBulkAll parts + 1
  | .iface _ d => uptoBulk d + 1
  | .map entries => uptoBulkEntries entries + 1
  | .held _ => 1
def uptoBulkAll {H : Type} : List (DataW H) → Nat
  | [] => 0
  | d :: r => uptoBulk d + uptoBulkAll r
def uptoBulkEntries {H : Type} : List (Lit × DataW H) → Nat
  | [] => 0
  | x :: r => uptoBulkEntry x + uptoBulkEntries r
def uptoBulkEntry {H : Type} : Lit × DataW H → Nat
  | (.string bytes, d) => bytes.length + uptoBulk d + 1
  | (_, d) => uptoBulk d + 1
 end
def uptoSmall : (H : Type) → List (DataW H) → Bool := fun _ ds => decide (uptoBulkAll ds ≤ 1048576)
def OpenSpec.upto (s : _root_.Go.ChangeSpec) : _root_.Go.OpenSpec := { _root_.Go.OpenSpec.ofChange s with cond := some uptoSmall }

/-- 'laws.FnWordOk', WHERE WHAT IT READS IS OF BULK AT MOST 1048576: true; the input reads as it did. -/
def fnWordOkUptoRow : OpenClaim := { program := "ytdlabljipjfgjaa", sum := "630a78a4fa65627668507dd2e1c3070b2b2780456c1ca756383db62e957ad34c", func := "loop.example/dutyrosters/laws.FnWordOk", spec := "fnWordOk", inPlace := ["internal/bytealg.IndexByteString"], apart := false, narrowed := true }
def FnWordOkUptoSaid : Prop := fnWordOkUptoRow.holds Try.pinned (OpenSpec.upto fnWordOkSpec)

/-- 'laws.FnLetterOk', WHERE WHAT IT READS IS OF BULK AT MOST 1048576: true; the input reads as it did. -/
def fnLetterOkUptoRow : OpenClaim := { program := "ytdlabljipjfgjaa", sum := "630a78a4fa65627668507dd2e1c3070b2b2780456c1ca756383db62e957ad34c", func := "loop.example/dutyrosters/laws.FnLetterOk", spec := "fnLetterOk", inPlace := ["internal/bytealg.IndexByteString"], apart := false, narrowed := true }
def FnLetterOkUptoSaid : Prop := fnLetterOkUptoRow.holds Try.pinned (OpenSpec.upto fnLetterOkSpec)

/-- 'laws.FnCountOf', WHERE WHAT IT READS IS OF BULK AT MOST 1048576: true; the input reads as it did. -/
def fnCountOfUptoRow : OpenClaim := { program := "ytdlabljipjfgjaa", sum := "630a78a4fa65627668507dd2e1c3070b2b2780456c1ca756383db62e957ad34c", func := "loop.example/dutyrosters/laws.FnCountOf", spec := "fnCountOf", inPlace := ["internal/bytealg.IndexByteString"], unfollowed := true, recurses := true, apart := false, narrowed := true }
def FnCountOfUptoSaid : Prop := fnCountOfUptoRow.holds Try.pinned (OpenSpec.upto fnCountOfSpec)

/-- 'laws.FnRunsOf', WHERE WHAT IT READS IS OF BULK AT MOST 1048576: true; the input reads as it did. -/
def fnRunsOfUptoRow : OpenClaim := { program := "ytdlabljipjfgjaa", sum := "630a78a4fa65627668507dd2e1c3070b2b2780456c1ca756383db62e957ad34c", func := "loop.example/dutyrosters/laws.FnRunsOf", spec := "fnRunsOf", inPlace := ["internal/bytealg.IndexByteString"], unfollowed := true, recurses := true, apart := false, narrowed := true }
def FnRunsOfUptoSaid : Prop := fnRunsOfUptoRow.holds Try.pinned (OpenSpec.upto fnRunsOfSpec)

/-- 'laws.FnLongestOf', WHERE WHAT IT READS IS OF BULK AT MOST 1048576: true; the input reads as it did. -/
def fnLongestOfUptoRow : OpenClaim := { program := "ytdlabljipjfgjaa", sum := "630a78a4fa65627668507dd2e1c3070b2b2780456c1ca756383db62e957ad34c", func := "loop.example/dutyrosters/laws.FnLongestOf", spec := "fnLongestOf", inPlace := ["internal/bytealg.IndexByteString"], unfollowed := true, recurses := true, apart := false, narrowed := true }
def FnLongestOfUptoSaid : Prop := fnLongestOfUptoRow.holds Try.pinned (OpenSpec.upto fnLongestOfSpec)

/-- 'laws.FnBackWord', WHERE WHAT IT READS IS OF BULK AT MOST 1048576: true; the input reads as it did. -/
def fnBackWordUptoRow : OpenClaim := { program := "ytdlabljipjfgjaa", sum := "630a78a4fa65627668507dd2e1c3070b2b2780456c1ca756383db62e957ad34c", func := "loop.example/dutyrosters/laws.FnBackWord", spec := "fnBackWord", inPlace := ["internal/bytealg.IndexByteString"], apart := false, narrowed := true }
def FnBackWordUptoSaid : Prop := fnBackWordUptoRow.holds Try.pinned (OpenSpec.upto fnBackWordSpec)

/-- 'laws.FnRolledBy', WHERE WHAT IT READS IS OF BULK AT MOST 1048576: true; the input reads as it did. -/
def fnRolledByUptoRow : OpenClaim := { program := "ytdlabljipjfgjaa", sum := "630a78a4fa65627668507dd2e1c3070b2b2780456c1ca756383db62e957ad34c", func := "loop.example/dutyrosters/laws.FnRolledBy", spec := "fnRolledBy", inPlace := ["internal/bytealg.IndexByteString"], apart := false, narrowed := true }
def FnRolledByUptoSaid : Prop := fnRolledByUptoRow.holds Try.pinned (OpenSpec.upto fnRolledBySpec)

/-- 'laws.FnDifferOf', WHERE WHAT IT READS IS OF BULK AT MOST 1048576: true; the input reads as it did. -/
def fnDifferOfUptoRow : OpenClaim := { program := "ytdlabljipjfgjaa", sum := "630a78a4fa65627668507dd2e1c3070b2b2780456c1ca756383db62e957ad34c", func := "loop.example/dutyrosters/laws.FnDifferOf", spec := "fnDifferOf", inPlace := ["internal/bytealg.IndexByteString"], unfollowed := true, recurses := true, apart := false, narrowed := true }
def FnDifferOfUptoSaid : Prop := fnDifferOfUptoRow.holds Try.pinned (OpenSpec.upto fnDifferOfSpec)

end Rows
end Go.Proofs.Ytdlabljipjfgjaa

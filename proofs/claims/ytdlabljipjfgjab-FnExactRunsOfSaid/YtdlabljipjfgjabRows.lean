/-
  No cell of these rows narrows 'for every input' (looked for: loops, veiled, ifaces, maps, wideKeys, modest, calm, conditions, laid).
  DERIVED. THE GIVEN ROWS OF THIS SEAT. 8 by the template 'for every input the law returns true; each argument reads behind the call as it read before'; 0 by the template 'total and deterministic' (their statements: YtdlabljipjfgjabTotals.lean).
  GIVEN WITH THE SEED: the statements are not yours to turn. If you find one false, say at which input.
  Laid BY PROGRAM, IN A SANDBOX (cutbox-rows.mjs): the forced cells as the released guide's own fill.sh prints them over the translation 49300e93e0dcb892… (all of the seat's roots in one cut). By AI agents, Wed Nov 11 2026. No macro, syntax, notation, axiom, sorry.
-/
import Derived.Test.YtdlabljipjfgjabChecked
import GoSem.Claim
import GoSem.ClaimJoined
import GoSem.ClaimMapViews
import Derived.JoinedTies
import Derived.KernelRfl
namespace Go.Proofs.Ytdlabljipjfgjab
/- THE CELL 'sum', in the pinned program and in every row, IS THE sha256 OF THE DUMP (.gsa) THAT YtdlabljipjfgjabProg.lean LOADS. Nothing in Lean hashes anything: it is a label: what it is worth is what the hold of that sum in a sandbox is worth. -/
noncomputable def Try.pinned : Pinned := { name := "ytdlabljipjfgjab", sum := "49300e93e0dcb892d6a9c086c57482bd95973f29d20f5c9bb4076d546194e665", checked := Try.checked }
namespace Rows
def none {H : Type} : Left H := { results := [], args := [] }

/-- 'laws.FnExactWordOk': WHATEVER THE INPUT: true; the input reads as it did. -/
def fnExactWordOkSpec : ChangeSpec := { name := "fnExactWordOk", fn := fun _ => fun
  | [d] => { results := [.lit (.bool true)], args := [d] }
  | _ => none }
def fnExactWordOkRow : OpenClaim := { program := "ytdlabljipjfgjab", sum := "49300e93e0dcb892d6a9c086c57482bd95973f29d20f5c9bb4076d546194e665", func := "loop.example/dutyrosters/laws.FnExactWordOk", spec := "fnExactWordOk", inPlace := ["internal/bytealg.IndexByteString"], apart := false }
def FnExactWordOkSaid : Prop := fnExactWordOkRow.holds Try.pinned (OpenSpec.ofChange fnExactWordOkSpec)

/-- ITS FALSE NEIGHBOUR: 'it returns false'. Refute it at one input. -/
def fnExactWordOkWrong : ChangeSpec := { name := "fnExactWordOk", fn := fun _ => fun
  | [d] => { results := [.lit (.bool false)], args := [d] }
  | _ => none }
def FnExactWordOkWrongFalsely : Prop := fnExactWordOkRow.holds Try.pinned (OpenSpec.ofChange fnExactWordOkWrong)

/-- 'laws.FnExactLetterOk': WHATEVER THE INPUT: true; the input reads as it did. -/
def fnExactLetterOkSpec : ChangeSpec := { name := "fnExactLetterOk", fn := fun _ => fun
  | [d] => { results := [.lit (.bool true)], args := [d] }
  | _ => none }
def fnExactLetterOkRow : OpenClaim := { program := "ytdlabljipjfgjab", sum := "49300e93e0dcb892d6a9c086c57482bd95973f29d20f5c9bb4076d546194e665", func := "loop.example/dutyrosters/laws.FnExactLetterOk", spec := "fnExactLetterOk", inPlace := ["internal/bytealg.IndexByteString"], apart := false }
def FnExactLetterOkSaid : Prop := fnExactLetterOkRow.holds Try.pinned (OpenSpec.ofChange fnExactLetterOkSpec)

/-- ITS FALSE NEIGHBOUR: 'it returns false'. Refute it at one input. -/
def fnExactLetterOkWrong : ChangeSpec := { name := "fnExactLetterOk", fn := fun _ => fun
  | [d] => { results := [.lit (.bool false)], args := [d] }
  | _ => none }
def FnExactLetterOkWrongFalsely : Prop := fnExactLetterOkRow.holds Try.pinned (OpenSpec.ofChange fnExactLetterOkWrong)

/-- 'laws.FnExactCountOf': WHATEVER THE INPUT: true; the input reads as it did. -/
def fnExactCountOfSpec : ChangeSpec := { name := "fnExactCountOf", fn := fun _ => fun
  | [d1, d2] => { results := [.lit (.bool true)], args := [d1, d2] }
  | _ => none }
def fnExactCountOfRow : OpenClaim := { program := "ytdlabljipjfgjab", sum := "49300e93e0dcb892d6a9c086c57482bd95973f29d20f5c9bb4076d546194e665", func := "loop.example/dutyrosters/laws.FnExactCountOf", spec := "fnExactCountOf", inPlace := ["internal/bytealg.IndexByteString"], unfollowed := true, recurses := true, apart := false }
def FnExactCountOfSaid : Prop := fnExactCountOfRow.holds Try.pinned (OpenSpec.ofChange fnExactCountOfSpec)

/-- ITS FALSE NEIGHBOUR: 'it returns false'. Refute it at one input. -/
def fnExactCountOfWrong : ChangeSpec := { name := "fnExactCountOf", fn := fun _ => fun
  | [d1, d2] => { results := [.lit (.bool false)], args := [d1, d2] }
  | _ => none }
def FnExactCountOfWrongFalsely : Prop := fnExactCountOfRow.holds Try.pinned (OpenSpec.ofChange fnExactCountOfWrong)

/-- 'laws.FnExactRunsOf': WHATEVER THE INPUT: true; the input reads as it did. -/
def fnExactRunsOfSpec : ChangeSpec := { name := "fnExactRunsOf", fn := fun _ => fun
  | [d] => { results := [.lit (.bool true)], args := [d] }
  | _ => none }
def fnExactRunsOfRow : OpenClaim := { program := "ytdlabljipjfgjab", sum := "49300e93e0dcb892d6a9c086c57482bd95973f29d20f5c9bb4076d546194e665", func := "loop.example/dutyrosters/laws.FnExactRunsOf", spec := "fnExactRunsOf", inPlace := ["internal/bytealg.IndexByteString"], unfollowed := true, recurses := true, apart := false }
def FnExactRunsOfSaid : Prop := fnExactRunsOfRow.holds Try.pinned (OpenSpec.ofChange fnExactRunsOfSpec)

/-- ITS FALSE NEIGHBOUR: 'it returns false'. Refute it at one input. -/
def fnExactRunsOfWrong : ChangeSpec := { name := "fnExactRunsOf", fn := fun _ => fun
  | [d] => { results := [.lit (.bool false)], args := [d] }
  | _ => none }
def FnExactRunsOfWrongFalsely : Prop := fnExactRunsOfRow.holds Try.pinned (OpenSpec.ofChange fnExactRunsOfWrong)

/-- 'laws.FnExactLongestOf': WHATEVER THE INPUT: true; the input reads as it did. -/
def fnExactLongestOfSpec : ChangeSpec := { name := "fnExactLongestOf", fn := fun _ => fun
  | [d1, d2] => { results := [.lit (.bool true)], args := [d1, d2] }
  | _ => none }
def fnExactLongestOfRow : OpenClaim := { program := "ytdlabljipjfgjab", sum := "49300e93e0dcb892d6a9c086c57482bd95973f29d20f5c9bb4076d546194e665", func := "loop.example/dutyrosters/laws.FnExactLongestOf", spec := "fnExactLongestOf", inPlace := ["internal/bytealg.IndexByteString"], unfollowed := true, recurses := true, apart := false }
def FnExactLongestOfSaid : Prop := fnExactLongestOfRow.holds Try.pinned (OpenSpec.ofChange fnExactLongestOfSpec)

/-- ITS FALSE NEIGHBOUR: 'it returns false'. Refute it at one input. -/
def fnExactLongestOfWrong : ChangeSpec := { name := "fnExactLongestOf", fn := fun _ => fun
  | [d1, d2] => { results := [.lit (.bool false)], args := [d1, d2] }
  | _ => none }
def FnExactLongestOfWrongFalsely : Prop := fnExactLongestOfRow.holds Try.pinned (OpenSpec.ofChange fnExactLongestOfWrong)

/-- 'laws.FnExactBackWord': WHATEVER THE INPUT: true; the input reads as it did. -/
def fnExactBackWordSpec : ChangeSpec := { name := "fnExactBackWord", fn := fun _ => fun
  | [d] => { results := [.lit (.bool true)], args := [d] }
  | _ => none }
def fnExactBackWordRow : OpenClaim := { program := "ytdlabljipjfgjab", sum := "49300e93e0dcb892d6a9c086c57482bd95973f29d20f5c9bb4076d546194e665", func := "loop.example/dutyrosters/laws.FnExactBackWord", spec := "fnExactBackWord", inPlace := ["internal/bytealg.IndexByteString"], apart := false }
def FnExactBackWordSaid : Prop := fnExactBackWordRow.holds Try.pinned (OpenSpec.ofChange fnExactBackWordSpec)

/-- ITS FALSE NEIGHBOUR: 'it returns false'. Refute it at one input. -/
def fnExactBackWordWrong : ChangeSpec := { name := "fnExactBackWord", fn := fun _ => fun
  | [d] => { results := [.lit (.bool false)], args := [d] }
  | _ => none }
def FnExactBackWordWrongFalsely : Prop := fnExactBackWordRow.holds Try.pinned (OpenSpec.ofChange fnExactBackWordWrong)

/-- 'laws.FnExactRolledBy': WHATEVER THE INPUT: true; the input reads as it did. -/
def fnExactRolledBySpec : ChangeSpec := { name := "fnExactRolledBy", fn := fun _ => fun
  | [d1, d2] => { results := [.lit (.bool true)], args := [d1, d2] }
  | _ => none }
def fnExactRolledByRow : OpenClaim := { program := "ytdlabljipjfgjab", sum := "49300e93e0dcb892d6a9c086c57482bd95973f29d20f5c9bb4076d546194e665", func := "loop.example/dutyrosters/laws.FnExactRolledBy", spec := "fnExactRolledBy", inPlace := ["internal/bytealg.IndexByteString"], apart := false }
def FnExactRolledBySaid : Prop := fnExactRolledByRow.holds Try.pinned (OpenSpec.ofChange fnExactRolledBySpec)

/-- ITS FALSE NEIGHBOUR: 'it returns false'. Refute it at one input. -/
def fnExactRolledByWrong : ChangeSpec := { name := "fnExactRolledBy", fn := fun _ => fun
  | [d1, d2] => { results := [.lit (.bool false)], args := [d1, d2] }
  | _ => none }
def FnExactRolledByWrongFalsely : Prop := fnExactRolledByRow.holds Try.pinned (OpenSpec.ofChange fnExactRolledByWrong)

/-- 'laws.FnExactDifferOf': WHATEVER THE INPUT: true; the input reads as it did. -/
def fnExactDifferOfSpec : ChangeSpec := { name := "fnExactDifferOf", fn := fun _ => fun
  | [d1, d2] => { results := [.lit (.bool true)], args := [d1, d2] }
  | _ => none }
def fnExactDifferOfRow : OpenClaim := { program := "ytdlabljipjfgjab", sum := "49300e93e0dcb892d6a9c086c57482bd95973f29d20f5c9bb4076d546194e665", func := "loop.example/dutyrosters/laws.FnExactDifferOf", spec := "fnExactDifferOf", inPlace := ["internal/bytealg.IndexByteString"], unfollowed := true, recurses := true, apart := false }
def FnExactDifferOfSaid : Prop := fnExactDifferOfRow.holds Try.pinned (OpenSpec.ofChange fnExactDifferOfSpec)

/-- ITS FALSE NEIGHBOUR: 'it returns false'. Refute it at one input. -/
def fnExactDifferOfWrong : ChangeSpec := { name := "fnExactDifferOf", fn := fun _ => fun
  | [d1, d2] => { results := [.lit (.bool false)], args := [d1, d2] }
  | _ => none }
def FnExactDifferOfWrongFalsely : Prop := fnExactDifferOfRow.holds Try.pinned (OpenSpec.ofChange fnExactDifferOfWrong)

/- THE SECOND FORM. 'bulk': how many values and letters a reading holds, each counted each time it is reached (what is shared counts as often as it is met; a slice's spare places count too). A statement '..UptoSaid' is the law's where the arguments, and the package variables that the reading takes, are together of bulk at most 1048576: NARROWER than '..Said'. Prove '..Said' where nothing that the law and all that it calls make is longer than what came in: it says more and counts as full. Else prove '..UptoSaid'. A law counts once. -/
mutual
def uptoBulk {H : Type} : DataW H → Nat
  | .lit (.string bytes) => bytes.length + 1
  | .lit _ => 1
  | .nil => 1
  | .ptr d => uptoBulk d + 1
  | .slice elems spare => uptoBulkAll elems + uptoBulkAll spare + 1
  | .agg parts => uptoBulkAll parts + 1
  | .iface _ d => uptoBulk d + 1
  | .map entries => uptoBulkEntries entries + 1
  | .held _ => 1
def uptoBulkAll {H : Type} : List (DataW H) → Nat
  | [] => 0
  | d :: r => uptoBulk d + uptoBulkAll r
def uptoBulkEntries {H : Type} : List (Lit × DataW H) → Nat
  | [] => 0
  | x :: r => uptoBulkEntry x + uptoBulkEntries r
def uptoBulkEntry {H : Type} : Lit × DataW H → Nat
  | (.string bytes, d) => bytes.length + uptoBulk d + 1
  | (_, d) => uptoBulk d + 1
 end
def uptoSmall : (H : Type) → List (DataW H) → Bool := fun _ ds => decide (uptoBulkAll ds ≤ 1048576)
def OpenSpec.upto (s : _root_.Go.ChangeSpec) : _root_.Go.OpenSpec := { _root_.Go.OpenSpec.ofChange s with cond := some uptoSmall }

/-- 'laws.FnExactWordOk', WHERE WHAT IT READS IS OF BULK AT MOST 1048576: true; the input reads as it did. -/
def fnExactWordOkUptoRow : OpenClaim := { program := "ytdlabljipjfgjab", sum := "49300e93e0dcb892d6a9c086c57482bd95973f29d20f5c9bb4076d546194e665", func := "loop.example/dutyrosters/laws.FnExactWordOk", spec := "fnExactWordOk", inPlace := ["internal/bytealg.IndexByteString"], apart := false, narrowed := true }
def FnExactWordOkUptoSaid : Prop := fnExactWordOkUptoRow.holds Try.pinned (OpenSpec.upto fnExactWordOkSpec)

/-- 'laws.FnExactLetterOk', WHERE WHAT IT READS IS OF BULK AT MOST 1048576: true; the input reads as it did. -/
def fnExactLetterOkUptoRow : OpenClaim := { program := "ytdlabljipjfgjab", sum := "49300e93e0dcb892d6a9c086c57482bd95973f29d20f5c9bb4076d546194e665", func := "loop.example/dutyrosters/laws.FnExactLetterOk", spec := "fnExactLetterOk", inPlace := ["internal/bytealg.IndexByteString"], apart := false, narrowed := true }
def FnExactLetterOkUptoSaid : Prop := fnExactLetterOkUptoRow.holds Try.pinned (OpenSpec.upto fnExactLetterOkSpec)

/-- 'laws.FnExactCountOf', WHERE WHAT IT READS IS OF BULK AT MOST 1048576: true; the input reads as it did. -/
def fnExactCountOfUptoRow : OpenClaim := { program := "ytdlabljipjfgjab", sum := "49300e93e0dcb892d6a9c086c57482bd95973f29d20f5c9bb4076d546194e665", func := "loop.example/dutyrosters/laws.FnExactCountOf", spec := "fnExactCountOf", inPlace := ["internal/bytealg.IndexByteString"], unfollowed := true, recurses := true, apart := false, narrowed := true }
def FnExactCountOfUptoSaid : Prop := fnExactCountOfUptoRow.holds Try.pinned (OpenSpec.upto fnExactCountOfSpec)

/-- 'laws.FnExactRunsOf', WHERE WHAT IT READS IS OF BULK AT MOST 1048576: true; the input reads as it did. -/
def fnExactRunsOfUptoRow : OpenClaim := { program := "ytdlabljipjfgjab", sum := "49300e93e0dcb892d6a9c086c57482bd95973f29d20f5c9bb4076d546194e665", func := "loop.example/dutyrosters/laws.FnExactRunsOf", spec := "fnExactRunsOf", inPlace := ["internal/bytealg.IndexByteString"], unfollowed := true, recurses := true, apart := false, narrowed := true }
def FnExactRunsOfUptoSaid : Prop := fnExactRunsOfUptoRow.holds Try.pinned (OpenSpec.upto fnExactRunsOfSpec)

/-- 'laws.FnExactLongestOf', WHERE WHAT IT READS IS OF BULK AT MOST 1048576: true; the input reads as it did. -/
def fnExactLongestOfUptoRow : OpenClaim := { program := "ytdlabljipjfgjab", sum := "49300e93e0dcb892d6a9c086c57482bd95973f29d20f5c9bb4076d546194e665", func := "loop.example/dutyrosters/laws.FnExactLongestOf", spec := "fnExactLongestOf", inPlace := ["internal/bytealg.IndexByteString"], unfollowed := true, recurses := true, apart := false, narrowed := true }
def FnExactLongestOfUptoSaid : Prop := fnExactLongestOfUptoRow.holds Try.pinned (OpenSpec.upto fnExactLongestOfSpec)

/-- 'laws.FnExactBackWord', WHERE WHAT IT READS IS OF BULK AT MOST 1048576: true; the input reads as it did. -/
def fnExactBackWordUptoRow : OpenClaim := { program := "ytdlabljipjfgjab", sum := "49300e93e0dcb892d6a9c086c57482bd95973f29d20f5c9bb4076d546194e665", func := "loop.example/dutyrosters/laws.FnExactBackWord", spec := "fnExactBackWord", inPlace := ["internal/bytealg.IndexByteString"], apart := false, narrowed := true }
def FnExactBackWordUptoSaid : Prop := fnExactBackWordUptoRow.holds Try.pinned (OpenSpec.upto fnExactBackWordSpec)

/-- 'laws.FnExactRolledBy', WHERE WHAT IT READS IS OF BULK AT MOST 1048576: true; the input reads as it did. -/
def fnExactRolledByUptoRow : OpenClaim := { program := "ytdlabljipjfgjab", sum := "49300e93e0dcb892d6a9c086c57482bd95973f29d20f5c9bb4076d546194e665", func := "loop.example/dutyrosters/laws.FnExactRolledBy", spec := "fnExactRolledBy", inPlace := ["internal/bytealg.IndexByteString"], apart := false, narrowed := true }
def FnExactRolledByUptoSaid : Prop := fnExactRolledByUptoRow.holds Try.pinned (OpenSpec.upto fnExactRolledBySpec)

/-- 'laws.FnExactDifferOf', WHERE WHAT IT READS IS OF BULK AT MOST 1048576: true; the input reads as it did. -/
def fnExactDifferOfUptoRow : OpenClaim := { program := "ytdlabljipjfgjab", sum := "49300e93e0dcb892d6a9c086c57482bd95973f29d20f5c9bb4076d546194e665", func := "loop.example/dutyrosters/laws.FnExactDifferOf", spec := "fnExactDifferOf", inPlace := ["internal/bytealg.IndexByteString"], unfollowed := true, recurses := true, apart := false, narrowed := true }
def FnExactDifferOfUptoSaid : Prop := fnExactDifferOfUptoRow.holds Try.pinned (OpenSpec.upto fnExactDifferOfSpec)

end Rows
end Go.Proofs.Ytdlabljipjfgjab

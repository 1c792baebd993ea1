/-
  No cell of these rows narrows 'for every input' (looked for: loops, veiled, ifaces, maps, wideKeys, modest, calm, conditions, laid).
  DERIVED. THE GIVEN ROWS OF THIS SEAT. 10 by the template 'for every input the law returns true; each argument reads behind the call as it read before'; 0 by the template 'total and deterministic' (their statements: YtggohgkjdnnndaaTotals.lean).
  GIVEN WITH THE SEED: the statements are not yours to turn. If you find one false, say at which input.
  Laid BY PROGRAM, IN A SANDBOX (cutbox-rows.mjs): the forced cells as the released guide's own fill.sh prints them over the translation c193a643692c0d68… (all of the seat's roots in one cut). By AI agents, Wed Nov 11 2026. No macro, syntax, notation, axiom, sorry.
-/
import Derived.Test.YtggohgkjdnnndaaChecked
import GoSem.Claim
import GoSem.ClaimJoined
import GoSem.ClaimMapViews
import Derived.JoinedTies
import Derived.KernelRfl
namespace Go.Proofs.Ytggohgkjdnnndaa
/- THE CELL 'sum', in the pinned program and in every row, IS THE sha256 OF THE DUMP (.gsa) THAT YtggohgkjdnnndaaProg.lean LOADS. Nothing in Lean hashes anything: it is a label: what it is worth is what the hold of that sum in a sandbox is worth. -/
noncomputable def Try.pinned : Pinned := { name := "ytggohgkjdnnndaa", sum := "c193a643692c0d68c3e3f65c0b36c9604e1a48d155e3659340fef3933214b9ab", checked := Try.checked }
namespace Rows
def none {H : Type} : Left H := { results := [], args := [] }

/-- 'laws.FnSwapAt': WHATEVER THE INPUT: true; the input reads as it did. -/
def fnSwapAtSpec : ChangeSpec := { name := "fnSwapAt", fn := fun _ => fun
  | [d] => { results := [.lit (.bool true)], args := [d] }
  | _ => none }
def fnSwapAtRow : OpenClaim := { program := "ytggohgkjdnnndaa", sum := "c193a643692c0d68c3e3f65c0b36c9604e1a48d155e3659340fef3933214b9ab", func := "loop.example/dutyrosters/laws.FnSwapAt", spec := "fnSwapAt", inPlace := ["internal/bytealg.IndexByteString"], unfollowed := true, recurses := true, apart := false }
def FnSwapAtSaid : Prop := fnSwapAtRow.holds Try.pinned (OpenSpec.ofChange fnSwapAtSpec)

/-- ITS FALSE NEIGHBOUR: 'it returns false'. Refute it at one input. -/
def fnSwapAtWrong : ChangeSpec := { name := "fnSwapAt", fn := fun _ => fun
  | [d] => { results := [.lit (.bool false)], args := [d] }
  | _ => none }
def FnSwapAtWrongFalsely : Prop := fnSwapAtRow.holds Try.pinned (OpenSpec.ofChange fnSwapAtWrong)

/-- 'laws.FnSwapsBetween': WHATEVER THE INPUT: true; the input reads as it did. -/
def fnSwapsBetweenSpec : ChangeSpec := { name := "fnSwapsBetween", fn := fun _ => fun
  | [d] => { results := [.lit (.bool true)], args := [d] }
  | _ => none }
def fnSwapsBetweenRow : OpenClaim := { program := "ytggohgkjdnnndaa", sum := "c193a643692c0d68c3e3f65c0b36c9604e1a48d155e3659340fef3933214b9ab", func := "loop.example/dutyrosters/laws.FnSwapsBetween", spec := "fnSwapsBetween", inPlace := ["internal/bytealg.IndexByteString"], unfollowed := true, recurses := true, apart := false }
def FnSwapsBetweenSaid : Prop := fnSwapsBetweenRow.holds Try.pinned (OpenSpec.ofChange fnSwapsBetweenSpec)

/-- ITS FALSE NEIGHBOUR: 'it returns false'. Refute it at one input. -/
def fnSwapsBetweenWrong : ChangeSpec := { name := "fnSwapsBetween", fn := fun _ => fun
  | [d] => { results := [.lit (.bool false)], args := [d] }
  | _ => none }
def FnSwapsBetweenWrongFalsely : Prop := fnSwapsBetweenRow.holds Try.pinned (OpenSpec.ofChange fnSwapsBetweenWrong)

/-- 'laws.FnChangesOf': WHATEVER THE INPUT: true; the input reads as it did. -/
def fnChangesOfSpec : ChangeSpec := { name := "fnChangesOf", fn := fun _ => fun
  | [d1, d2] => { results := [.lit (.bool true)], args := [d1, d2] }
  | _ => none }
def fnChangesOfRow : OpenClaim := { program := "ytggohgkjdnnndaa", sum := "c193a643692c0d68c3e3f65c0b36c9604e1a48d155e3659340fef3933214b9ab", func := "loop.example/dutyrosters/laws.FnChangesOf", spec := "fnChangesOf", inPlace := ["internal/bytealg.IndexByteString"], unfollowed := true, recurses := true, apart := false }
def FnChangesOfSaid : Prop := fnChangesOfRow.holds Try.pinned (OpenSpec.ofChange fnChangesOfSpec)

/-- ITS FALSE NEIGHBOUR: 'it returns false'. Refute it at one input. -/
def fnChangesOfWrong : ChangeSpec := { name := "fnChangesOf", fn := fun _ => fun
  | [d1, d2] => { results := [.lit (.bool false)], args := [d1, d2] }
  | _ => none }
def FnChangesOfWrongFalsely : Prop := fnChangesOfRow.holds Try.pinned (OpenSpec.ofChange fnChangesOfWrong)

/-- 'laws.FnLoadsOf': WHATEVER THE INPUT: true; the input reads as it did. -/
def fnLoadsOfSpec : ChangeSpec := { name := "fnLoadsOf", fn := fun _ => fun
  | [d] => { results := [.lit (.bool true)], args := [d] }
  | _ => none }
def fnLoadsOfRow : OpenClaim := { program := "ytggohgkjdnnndaa", sum := "c193a643692c0d68c3e3f65c0b36c9604e1a48d155e3659340fef3933214b9ab", func := "loop.example/dutyrosters/laws.FnLoadsOf", spec := "fnLoadsOf", inPlace := ["internal/bytealg.IndexByteString"], unfollowed := true, recurses := true, apart := false }
def FnLoadsOfSaid : Prop := fnLoadsOfRow.holds Try.pinned (OpenSpec.ofChange fnLoadsOfSpec)

/-- ITS FALSE NEIGHBOUR: 'it returns false'. Refute it at one input. -/
def fnLoadsOfWrong : ChangeSpec := { name := "fnLoadsOf", fn := fun _ => fun
  | [d] => { results := [.lit (.bool false)], args := [d] }
  | _ => none }
def FnLoadsOfWrongFalsely : Prop := fnLoadsOfRow.holds Try.pinned (OpenSpec.ofChange fnLoadsOfWrong)

/-- 'laws.FnFairerSwap': WHATEVER THE INPUT: true; the input reads as it did. -/
def fnFairerSwapSpec : ChangeSpec := { name := "fnFairerSwap", fn := fun _ => fun
  | [d] => { results := [.lit (.bool true)], args := [d] }
  | _ => none }
def fnFairerSwapRow : OpenClaim := { program := "ytggohgkjdnnndaa", sum := "c193a643692c0d68c3e3f65c0b36c9604e1a48d155e3659340fef3933214b9ab", func := "loop.example/dutyrosters/laws.FnFairerSwap", spec := "fnFairerSwap", inPlace := ["internal/bytealg.IndexByteString", "slices.overlaps[int]"], unfollowed := true, recurses := true, apart := false }
def FnFairerSwapSaid : Prop := fnFairerSwapRow.holds Try.pinned (OpenSpec.ofChange fnFairerSwapSpec)

/-- ITS FALSE NEIGHBOUR: 'it returns false'. Refute it at one input. -/
def fnFairerSwapWrong : ChangeSpec := { name := "fnFairerSwap", fn := fun _ => fun
  | [d] => { results := [.lit (.bool false)], args := [d] }
  | _ => none }
def FnFairerSwapWrongFalsely : Prop := fnFairerSwapRow.holds Try.pinned (OpenSpec.ofChange fnFairerSwapWrong)

/-- 'laws.FnExactSwapAt': WHATEVER THE INPUT: true; the input reads as it did. -/
def fnExactSwapAtSpec : ChangeSpec := { name := "fnExactSwapAt", fn := fun _ => fun
  | [d1, d2, d3, d4] => { results := [.lit (.bool true)], args := [d1, d2, d3, d4] }
  | _ => none }
def fnExactSwapAtRow : OpenClaim := { program := "ytggohgkjdnnndaa", sum := "c193a643692c0d68c3e3f65c0b36c9604e1a48d155e3659340fef3933214b9ab", func := "loop.example/dutyrosters/laws.FnExactSwapAt", spec := "fnExactSwapAt", inPlace := ["internal/bytealg.IndexByteString"], unfollowed := true, recurses := true, apart := false }
def FnExactSwapAtSaid : Prop := fnExactSwapAtRow.holds Try.pinned (OpenSpec.ofChange fnExactSwapAtSpec)

/-- ITS FALSE NEIGHBOUR: 'it returns false'. Refute it at one input. -/
def fnExactSwapAtWrong : ChangeSpec := { name := "fnExactSwapAt", fn := fun _ => fun
  | [d1, d2, d3, d4] => { results := [.lit (.bool false)], args := [d1, d2, d3, d4] }
  | _ => none }
def FnExactSwapAtWrongFalsely : Prop := fnExactSwapAtRow.holds Try.pinned (OpenSpec.ofChange fnExactSwapAtWrong)

/-- 'laws.FnExactSwapsBetween': WHATEVER THE INPUT: true; the input reads as it did. -/
def fnExactSwapsBetweenSpec : ChangeSpec := { name := "fnExactSwapsBetween", fn := fun _ => fun
  | [d1, d2] => { results := [.lit (.bool true)], args := [d1, d2] }
  | _ => none }
def fnExactSwapsBetweenRow : OpenClaim := { program := "ytggohgkjdnnndaa", sum := "c193a643692c0d68c3e3f65c0b36c9604e1a48d155e3659340fef3933214b9ab", func := "loop.example/dutyrosters/laws.FnExactSwapsBetween", spec := "fnExactSwapsBetween", inPlace := ["internal/bytealg.IndexByteString"], unfollowed := true, recurses := true, apart := false }
def FnExactSwapsBetweenSaid : Prop := fnExactSwapsBetweenRow.holds Try.pinned (OpenSpec.ofChange fnExactSwapsBetweenSpec)

/-- ITS FALSE NEIGHBOUR: 'it returns false'. Refute it at one input. -/
def fnExactSwapsBetweenWrong : ChangeSpec := { name := "fnExactSwapsBetween", fn := fun _ => fun
  | [d1, d2] => { results := [.lit (.bool false)], args := [d1, d2] }
  | _ => none }
def FnExactSwapsBetweenWrongFalsely : Prop := fnExactSwapsBetweenRow.holds Try.pinned (OpenSpec.ofChange fnExactSwapsBetweenWrong)

/-- 'laws.FnExactChangesOf': WHATEVER THE INPUT: true; the input reads as it did. -/
def fnExactChangesOfSpec : ChangeSpec := { name := "fnExactChangesOf", fn := fun _ => fun
  | [d1, d2] => { results := [.lit (.bool true)], args := [d1, d2] }
  | _ => none }
def fnExactChangesOfRow : OpenClaim := { program := "ytggohgkjdnnndaa", sum := "c193a643692c0d68c3e3f65c0b36c9604e1a48d155e3659340fef3933214b9ab", func := "loop.example/dutyrosters/laws.FnExactChangesOf", spec := "fnExactChangesOf", inPlace := ["internal/bytealg.IndexByteString"], unfollowed := true, recurses := true, apart := false }
def FnExactChangesOfSaid : Prop := fnExactChangesOfRow.holds Try.pinned (OpenSpec.ofChange fnExactChangesOfSpec)

/-- ITS FALSE NEIGHBOUR: 'it returns false'. Refute it at one input. -/
def fnExactChangesOfWrong : ChangeSpec := { name := "fnExactChangesOf", fn := fun _ => fun
  | [d1, d2] => { results := [.lit (.bool false)], args := [d1, d2] }
  | _ => none }
def FnExactChangesOfWrongFalsely : Prop := fnExactChangesOfRow.holds Try.pinned (OpenSpec.ofChange fnExactChangesOfWrong)

/-- 'laws.FnExactLoadsOf': WHATEVER THE INPUT: true; the input reads as it did. -/
def fnExactLoadsOfSpec : ChangeSpec := { name := "fnExactLoadsOf", fn := fun _ => fun
  | [d1, d2] => { results := [.lit (.bool true)], args := [d1, d2] }
  | _ => none }
def fnExactLoadsOfRow : OpenClaim := { program := "ytggohgkjdnnndaa", sum := "c193a643692c0d68c3e3f65c0b36c9604e1a48d155e3659340fef3933214b9ab", func := "loop.example/dutyrosters/laws.FnExactLoadsOf", spec := "fnExactLoadsOf", inPlace := ["internal/bytealg.IndexByteString"], unfollowed := true, recurses := true, apart := false }
def FnExactLoadsOfSaid : Prop := fnExactLoadsOfRow.holds Try.pinned (OpenSpec.ofChange fnExactLoadsOfSpec)

/-- ITS FALSE NEIGHBOUR: 'it returns false'. Refute it at one input. -/
def fnExactLoadsOfWrong : ChangeSpec := { name := "fnExactLoadsOf", fn := fun _ => fun
  | [d1, d2] => { results := [.lit (.bool false)], args := [d1, d2] }
  | _ => none }
def FnExactLoadsOfWrongFalsely : Prop := fnExactLoadsOfRow.holds Try.pinned (OpenSpec.ofChange fnExactLoadsOfWrong)

/-- 'laws.FnExactFairerSwap': WHATEVER THE INPUT: true; the input reads as it did. -/
def fnExactFairerSwapSpec : ChangeSpec := { name := "fnExactFairerSwap", fn := fun _ => fun
  | [d1, d2] => { results := [.lit (.bool true)], args := [d1, d2] }
  | _ => none }
def fnExactFairerSwapRow : OpenClaim := { program := "ytggohgkjdnnndaa", sum := "c193a643692c0d68c3e3f65c0b36c9604e1a48d155e3659340fef3933214b9ab", func := "loop.example/dutyrosters/laws.FnExactFairerSwap", spec := "fnExactFairerSwap", inPlace := ["internal/bytealg.IndexByteString"], unfollowed := true, recurses := true, apart := false }
def FnExactFairerSwapSaid : Prop := fnExactFairerSwapRow.holds Try.pinned (OpenSpec.ofChange fnExactFairerSwapSpec)

/-- ITS FALSE NEIGHBOUR: 'it returns false'. Refute it at one input. -/
def fnExactFairerSwapWrong : ChangeSpec := { name := "fnExactFairerSwap", fn := fun _ => fun
  | [d1, d2] => { results := [.lit (.bool false)], args := [d1, d2] }
  | _ => none }
def FnExactFairerSwapWrongFalsely : Prop := fnExactFairerSwapRow.holds Try.pinned (OpenSpec.ofChange fnExactFairerSwapWrong)

/- THE SECOND FORM. 'bulk': how many values and letters a reading holds, each counted each time it is reached (what is shared counts as often as it is met; a slice's spare places count too). A statement '..UptoSaid' is the law's where the arguments, and the package variables that the reading takes, are together of bulk at most 1048576: NARROWER than '..Said'. Prove '..Said' where nothing that the law and all that it calls make is longer than what came in: it says more and counts as full. Else prove '..UptoSaid'. A law counts once. -/
mutual
def uptoBulk {H : Type} : DataW H → Nat
  | .lit (.string bytes) => bytes.length + 1
  | .lit _ => 1
  | .nil => 1
  | .ptr d => uptoBulk d + 1
  | .slice elems spare => uptoBulkAll elems + uptoBulkAll spare + 1
  | .agg parts => uptoBulkAll parts + 1
  | .iface _ d => uptoBulk d + 1
  | .map entries => uptoBulkEntries entries + 1
  | .held _ => 1
def uptoBulkAll {H : Type} : List (DataW H) → Nat
  | [] => 0
  | d :: r => uptoBulk d + uptoBulkAll r
def uptoBulkEntries {H : Type} : List (Lit × DataW H) → Nat
  | [] => 0
  | x :: r => uptoBulkEntry x + uptoBulkEntries r
def uptoBulkEntry {H : Type} : Lit × DataW H → Nat
  | (.string bytes, d) => bytes.length + uptoBulk d + 1
  | (_, d) => uptoBulk d + 1
 end
def uptoSmall : (H : Type) → List (DataW H) → Bool := fun _ ds => decide (uptoBulkAll ds ≤ 1048576)
def OpenSpec.upto (s : _root_.Go.ChangeSpec) : _root_.Go.OpenSpec := { _root_.Go.OpenSpec.ofChange s with cond := some uptoSmall }

/-- 'laws.FnSwapAt', WHERE WHAT IT READS IS OF BULK AT MOST 1048576: true; the input reads as it did. -/
def fnSwapAtUptoRow : OpenClaim := { program := "ytggohgkjdnnndaa", sum := "c193a643692c0d68c3e3f65c0b36c9604e1a48d155e3659340fef3933214b9ab", func := "loop.example/dutyrosters/laws.FnSwapAt", spec := "fnSwapAt", inPlace := ["internal/bytealg.IndexByteString"], unfollowed := true, recurses := true, apart := false, narrowed := true }
def FnSwapAtUptoSaid : Prop := fnSwapAtUptoRow.holds Try.pinned (OpenSpec.upto fnSwapAtSpec)

/-- 'laws.FnSwapsBetween', WHERE WHAT IT READS IS OF BULK AT MOST 1048576: true; the input reads as it did. -/
def fnSwapsBetweenUptoRow : OpenClaim := { program := "ytggohgkjdnnndaa", sum := "c193a643692c0d68c3e3f65c0b36c9604e1a48d155e3659340fef3933214b9ab", func := "loop.example/dutyrosters/laws.FnSwapsBetween", spec := "fnSwapsBetween", inPlace := ["internal/bytealg.IndexByteString"], unfollowed := true, recurses := true, apart := false, narrowed := true }
def FnSwapsBetweenUptoSaid : Prop := fnSwapsBetweenUptoRow.holds Try.pinned (OpenSpec.upto fnSwapsBetweenSpec)

/-- 'laws.FnChangesOf', WHERE WHAT IT READS IS OF BULK AT MOST 1048576: true; the input reads as it did. -/
def fnChangesOfUptoRow : OpenClaim := { program := "ytggohgkjdnnndaa", sum := "c193a643692c0d68c3e3f65c0b36c9604e1a48d155e3659340fef3933214b9ab", func := "loop.example/dutyrosters/laws.FnChangesOf", spec := "fnChangesOf", inPlace := ["internal/bytealg.IndexByteString"], unfollowed := true, recurses := true, apart := false, narrowed := true }
def FnChangesOfUptoSaid : Prop := fnChangesOfUptoRow.holds Try.pinned (OpenSpec.upto fnChangesOfSpec)

/-- 'laws.FnLoadsOf', WHERE WHAT IT READS IS OF BULK AT MOST 1048576: true; the input reads as it did. -/
def fnLoadsOfUptoRow : OpenClaim := { program := "ytggohgkjdnnndaa", sum := "c193a643692c0d68c3e3f65c0b36c9604e1a48d155e3659340fef3933214b9ab", func := "loop.example/dutyrosters/laws.FnLoadsOf", spec := "fnLoadsOf", inPlace := ["internal/bytealg.IndexByteString"], unfollowed := true, recurses := true, apart := false, narrowed := true }
def FnLoadsOfUptoSaid : Prop := fnLoadsOfUptoRow.holds Try.pinned (OpenSpec.upto fnLoadsOfSpec)

/-- 'laws.FnFairerSwap', WHERE WHAT IT READS IS OF BULK AT MOST 1048576: true; the input reads as it did. -/
def fnFairerSwapUptoRow : OpenClaim := { program := "ytggohgkjdnnndaa", sum := "c193a643692c0d68c3e3f65c0b36c9604e1a48d155e3659340fef3933214b9ab", func := "loop.example/dutyrosters/laws.FnFairerSwap", spec := "fnFairerSwap", inPlace := ["internal/bytealg.IndexByteString", "slices.overlaps[int]"], unfollowed := true, recurses := true, apart := false, narrowed := true }
def FnFairerSwapUptoSaid : Prop := fnFairerSwapUptoRow.holds Try.pinned (OpenSpec.upto fnFairerSwapSpec)

/-- 'laws.FnExactSwapAt', WHERE WHAT IT READS IS OF BULK AT MOST 1048576: true; the input reads as it did. -/
def fnExactSwapAtUptoRow : OpenClaim := { program := "ytggohgkjdnnndaa", sum := "c193a643692c0d68c3e3f65c0b36c9604e1a48d155e3659340fef3933214b9ab", func := "loop.example/dutyrosters/laws.FnExactSwapAt", spec := "fnExactSwapAt", inPlace := ["internal/bytealg.IndexByteString"], unfollowed := true, recurses := true, apart := false, narrowed := true }
def FnExactSwapAtUptoSaid : Prop := fnExactSwapAtUptoRow.holds Try.pinned (OpenSpec.upto fnExactSwapAtSpec)

/-- 'laws.FnExactSwapsBetween', WHERE WHAT IT READS IS OF BULK AT MOST 1048576: true; the input reads as it did. -/
def fnExactSwapsBetweenUptoRow : OpenClaim := { program := "ytggohgkjdnnndaa", sum := "c193a643692c0d68c3e3f65c0b36c9604e1a48d155e3659340fef3933214b9ab", func := "loop.example/dutyrosters/laws.FnExactSwapsBetween", spec := "fnExactSwapsBetween", inPlace := ["internal/bytealg.IndexByteString"], unfollowed := true, recurses := true, apart := false, narrowed := true }
def FnExactSwapsBetweenUptoSaid : Prop := fnExactSwapsBetweenUptoRow.holds Try.pinned (OpenSpec.upto fnExactSwapsBetweenSpec)

/-- 'laws.FnExactChangesOf', WHERE WHAT IT READS IS OF BULK AT MOST 1048576: true; the input reads as it did. -/
def fnExactChangesOfUptoRow : OpenClaim := { program := "ytggohgkjdnnndaa", sum := "c193a643692c0d68c3e3f65c0b36c9604e1a48d155e3659340fef3933214b9ab", func := "loop.example/dutyrosters/laws.FnExactChangesOf", spec := "fnExactChangesOf", inPlace := ["internal/bytealg.IndexByteString"], unfollowed := true, recurses := true, apart := false, narrowed := true }
def FnExactChangesOfUptoSaid : Prop := fnExactChangesOfUptoRow.holds Try.pinned (OpenSpec.upto fnExactChangesOfSpec)

/-- 'laws.FnExactLoadsOf', WHERE WHAT IT READS IS OF BULK AT MOST 1048576: true; the input reads as it did. -/
def fnExactLoadsOfUptoRow : OpenClaim := { program := "ytggohgkjdnnndaa", sum := "c193a643692c0d68c3e3f65c0b36c9604e1a48d155e3659340fef3933214b9ab", func := "loop.example/dutyrosters/laws.FnExactLoadsOf", spec := "fnExactLoadsOf", inPlace := ["internal/bytealg.IndexByteString"], unfollowed := true, recurses := true, apart := false, narrowed := true }
def FnExactLoadsOfUptoSaid : Prop := fnExactLoadsOfUptoRow.holds Try.pinned (OpenSpec.upto fnExactLoadsOfSpec)

/-- 'laws.FnExactFairerSwap', WHERE WHAT IT READS IS OF BULK AT MOST 1048576: true; the input reads as it did. -/
def fnExactFairerSwapUptoRow : OpenClaim := { program := "ytggohgkjdnnndaa", sum := "c193a643692c0d68c3e3f65c0b36c9604e1a48d155e3659340fef3933214b9ab", func := "loop.example/dutyrosters/laws.FnExactFairerSwap", spec := "fnExactFairerSwap", inPlace := ["internal/bytealg.IndexByteString"], unfollowed := true, recurses := true, apart := false, narrowed := true }
def FnExactFairerSwapUptoSaid : Prop := fnExactFairerSwapUptoRow.holds Try.pinned (OpenSpec.upto fnExactFairerSwapSpec)

end Rows
end Go.Proofs.Ytggohgkjdnnndaa

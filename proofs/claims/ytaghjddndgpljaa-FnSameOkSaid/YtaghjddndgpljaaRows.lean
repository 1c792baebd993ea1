/-
  No cell of these rows narrows 'for every input' (looked for: loops, veiled, ifaces, maps, wideKeys, modest, calm, conditions, laid).
  DERIVED. THE GIVEN ROWS OF THIS SEAT. 13 by the template 'for every input the law returns true; each argument reads behind the call as it read before'; 0 by the template 'total and deterministic' (their statements: YtaghjddndgpljaaTotals.lean).
  GIVEN WITH THE SEED: the statements are not yours to turn. If you find one false, say at which input.
  Laid BY PROGRAM, IN A SANDBOX (cutbox-rows.mjs): the forced cells as the released guide's own fill.sh prints them over the translation 99a69a5332b4f476… (all of the seat's roots in one cut). By AI agents, Wed Nov 11 2026. No macro, syntax, notation, axiom, sorry.
-/
import Derived.Test.YtaghjddndgpljaaChecked
import GoSem.Claim
import GoSem.ClaimJoined
import GoSem.ClaimMapViews
import Derived.JoinedTies
import Derived.KernelRfl
namespace Go.Proofs.Ytaghjddndgpljaa
/- THE CELL 'sum', in the pinned program and in every row, IS THE sha256 OF THE DUMP (.gsa) THAT YtaghjddndgpljaaProg.lean LOADS. Nothing in Lean hashes anything: it is a label: what it is worth is what the hold of that sum in a sandbox is worth. -/
noncomputable def Try.pinned : Pinned := { name := "ytaghjddndgpljaa", sum := "99a69a5332b4f47613aa88c1b170c956150bbe1d0f7c734ea4d4b6f508722008", checked := Try.checked }
namespace Rows
def none {H : Type} : Left H := { results := [], args := [] }

/-- 'laws.FnSameOk': WHATEVER THE INPUT: true; the input reads as it did. -/
def fnSameOkSpec : ChangeSpec := { name := "fnSameOk", fn := fun _ => fun
  | [d1, d2] => { results := [.lit (.bool true)], args := [d1, d2] }
  | _ => none }
def fnSameOkRow : OpenClaim := { program := "ytaghjddndgpljaa", sum := "99a69a5332b4f47613aa88c1b170c956150bbe1d0f7c734ea4d4b6f508722008", func := "loop.example/dutyrosters/laws.FnSameOk", spec := "fnSameOk", inPlace := ["internal/bytealg.IndexByteString"], unfollowed := true, recurses := true, plainKeys := false, apart := false }
def FnSameOkSaid : Prop := fnSameOkRow.holds Try.pinned (OpenSpec.ofChange fnSameOkSpec)

/-- ITS FALSE NEIGHBOUR: 'it returns false'. Refute it at one input. -/
def fnSameOkWrong : ChangeSpec := { name := "fnSameOk", fn := fun _ => fun
  | [d1, d2] => { results := [.lit (.bool false)], args := [d1, d2] }
  | _ => none }
def FnSameOkWrongFalsely : Prop := fnSameOkRow.holds Try.pinned (OpenSpec.ofChange fnSameOkWrong)

/-- 'laws.FnLeastMachine': WHATEVER THE INPUT: true; the input reads as it did. -/
def fnLeastMachineSpec : ChangeSpec := { name := "fnLeastMachine", fn := fun _ => fun
  | [d1, d2] => { results := [.lit (.bool true)], args := [d1, d2] }
  | _ => none }
def fnLeastMachineRow : OpenClaim := { program := "ytaghjddndgpljaa", sum := "99a69a5332b4f47613aa88c1b170c956150bbe1d0f7c734ea4d4b6f508722008", func := "loop.example/dutyrosters/laws.FnLeastMachine", spec := "fnLeastMachine", inPlace := ["internal/bytealg.IndexByteString"], unfollowed := true, recurses := true, plainKeys := false, apart := false }
def FnLeastMachineSaid : Prop := fnLeastMachineRow.holds Try.pinned (OpenSpec.ofChange fnLeastMachineSpec)

/-- ITS FALSE NEIGHBOUR: 'it returns false'. Refute it at one input. -/
def fnLeastMachineWrong : ChangeSpec := { name := "fnLeastMachine", fn := fun _ => fun
  | [d1, d2] => { results := [.lit (.bool false)], args := [d1, d2] }
  | _ => none }
def FnLeastMachineWrongFalsely : Prop := fnLeastMachineRow.holds Try.pinned (OpenSpec.ofChange fnLeastMachineWrong)

/-- 'laws.FnExactSameOk': WHATEVER THE INPUT: true; the input reads as it did. -/
def fnExactSameOkSpec : ChangeSpec := { name := "fnExactSameOk", fn := fun _ => fun
  | [d1, d2] => { results := [.lit (.bool true)], args := [d1, d2] }
  | _ => none }
def fnExactSameOkRow : OpenClaim := { program := "ytaghjddndgpljaa", sum := "99a69a5332b4f47613aa88c1b170c956150bbe1d0f7c734ea4d4b6f508722008", func := "loop.example/dutyrosters/laws.FnExactSameOk", spec := "fnExactSameOk", unfollowed := true, recurses := true, plainKeys := false, apart := false }
def FnExactSameOkSaid : Prop := fnExactSameOkRow.holds Try.pinned (OpenSpec.ofChange fnExactSameOkSpec)

/-- ITS FALSE NEIGHBOUR: 'it returns false'. Refute it at one input. -/
def fnExactSameOkWrong : ChangeSpec := { name := "fnExactSameOk", fn := fun _ => fun
  | [d1, d2] => { results := [.lit (.bool false)], args := [d1, d2] }
  | _ => none }
def FnExactSameOkWrongFalsely : Prop := fnExactSameOkRow.holds Try.pinned (OpenSpec.ofChange fnExactSameOkWrong)

/-- 'laws.FnExactCountWords': WHATEVER THE INPUT: true; the input reads as it did. -/
def fnExactCountWordsSpec : ChangeSpec := { name := "fnExactCountWords", fn := fun _ => fun
  | [d1, d2] => { results := [.lit (.bool true)], args := [d1, d2] }
  | _ => none }
def fnExactCountWordsRow : OpenClaim := { program := "ytaghjddndgpljaa", sum := "99a69a5332b4f47613aa88c1b170c956150bbe1d0f7c734ea4d4b6f508722008", func := "loop.example/dutyrosters/laws.FnExactCountWords", spec := "fnExactCountWords", plainKeys := false, apart := false }
def FnExactCountWordsSaid : Prop := fnExactCountWordsRow.holds Try.pinned (OpenSpec.ofChange fnExactCountWordsSpec)

/-- ITS FALSE NEIGHBOUR: 'it returns false'. Refute it at one input. -/
def fnExactCountWordsWrong : ChangeSpec := { name := "fnExactCountWords", fn := fun _ => fun
  | [d1, d2] => { results := [.lit (.bool false)], args := [d1, d2] }
  | _ => none }
def FnExactCountWordsWrongFalsely : Prop := fnExactCountWordsRow.holds Try.pinned (OpenSpec.ofChange fnExactCountWordsWrong)

/-- 'laws.FnExactWordAt': WHATEVER THE INPUT: true; the input reads as it did. -/
def fnExactWordAtSpec : ChangeSpec := { name := "fnExactWordAt", fn := fun _ => fun
  | [d1, d2, d3] => { results := [.lit (.bool true)], args := [d1, d2, d3] }
  | _ => none }
def fnExactWordAtRow : OpenClaim := { program := "ytaghjddndgpljaa", sum := "99a69a5332b4f47613aa88c1b170c956150bbe1d0f7c734ea4d4b6f508722008", func := "loop.example/dutyrosters/laws.FnExactWordAt", spec := "fnExactWordAt", plainKeys := false, apart := false }
def FnExactWordAtSaid : Prop := fnExactWordAtRow.holds Try.pinned (OpenSpec.ofChange fnExactWordAtSpec)

/-- ITS FALSE NEIGHBOUR: 'it returns false'. Refute it at one input. -/
def fnExactWordAtWrong : ChangeSpec := { name := "fnExactWordAt", fn := fun _ => fun
  | [d1, d2, d3] => { results := [.lit (.bool false)], args := [d1, d2, d3] }
  | _ => none }
def FnExactWordAtWrongFalsely : Prop := fnExactWordAtRow.holds Try.pinned (OpenSpec.ofChange fnExactWordAtWrong)

/-- 'laws.FnExactPlaceOf': WHATEVER THE INPUT: true; the input reads as it did. -/
def fnExactPlaceOfSpec : ChangeSpec := { name := "fnExactPlaceOf", fn := fun _ => fun
  | [d1, d2] => { results := [.lit (.bool true)], args := [d1, d2] }
  | _ => none }
def fnExactPlaceOfRow : OpenClaim := { program := "ytaghjddndgpljaa", sum := "99a69a5332b4f47613aa88c1b170c956150bbe1d0f7c734ea4d4b6f508722008", func := "loop.example/dutyrosters/laws.FnExactPlaceOf", spec := "fnExactPlaceOf", inPlace := ["internal/bytealg.IndexByteString"], plainKeys := false, apart := false }
def FnExactPlaceOfSaid : Prop := fnExactPlaceOfRow.holds Try.pinned (OpenSpec.ofChange fnExactPlaceOfSpec)

/-- ITS FALSE NEIGHBOUR: 'it returns false'. Refute it at one input. -/
def fnExactPlaceOfWrong : ChangeSpec := { name := "fnExactPlaceOf", fn := fun _ => fun
  | [d1, d2] => { results := [.lit (.bool false)], args := [d1, d2] }
  | _ => none }
def FnExactPlaceOfWrongFalsely : Prop := fnExactPlaceOfRow.holds Try.pinned (OpenSpec.ofChange fnExactPlaceOfWrong)

/-- 'laws.FnExactLettersAfter': WHATEVER THE INPUT: true; the input reads as it did. -/
def fnExactLettersAfterSpec : ChangeSpec := { name := "fnExactLettersAfter", fn := fun _ => fun
  | [d1, d2, d3] => { results := [.lit (.bool true)], args := [d1, d2, d3] }
  | _ => none }
def fnExactLettersAfterRow : OpenClaim := { program := "ytaghjddndgpljaa", sum := "99a69a5332b4f47613aa88c1b170c956150bbe1d0f7c734ea4d4b6f508722008", func := "loop.example/dutyrosters/laws.FnExactLettersAfter", spec := "fnExactLettersAfter", inPlace := ["internal/bytealg.IndexByteString"], plainKeys := false, apart := false }
def FnExactLettersAfterSaid : Prop := fnExactLettersAfterRow.holds Try.pinned (OpenSpec.ofChange fnExactLettersAfterSpec)

/-- ITS FALSE NEIGHBOUR: 'it returns false'. Refute it at one input. -/
def fnExactLettersAfterWrong : ChangeSpec := { name := "fnExactLettersAfter", fn := fun _ => fun
  | [d1, d2, d3] => { results := [.lit (.bool false)], args := [d1, d2, d3] }
  | _ => none }
def FnExactLettersAfterWrongFalsely : Prop := fnExactLettersAfterRow.holds Try.pinned (OpenSpec.ofChange fnExactLettersAfterWrong)

/-- 'laws.FnExactNextWord': WHATEVER THE INPUT: true; the input reads as it did. -/
def fnExactNextWordSpec : ChangeSpec := { name := "fnExactNextWord", fn := fun _ => fun
  | [d1, d2] => { results := [.lit (.bool true)], args := [d1, d2] }
  | _ => none }
def fnExactNextWordRow : OpenClaim := { program := "ytaghjddndgpljaa", sum := "99a69a5332b4f47613aa88c1b170c956150bbe1d0f7c734ea4d4b6f508722008", func := "loop.example/dutyrosters/laws.FnExactNextWord", spec := "fnExactNextWord", inPlace := ["internal/bytealg.IndexByteString"], plainKeys := false, apart := false }
def FnExactNextWordSaid : Prop := fnExactNextWordRow.holds Try.pinned (OpenSpec.ofChange fnExactNextWordSpec)

/-- ITS FALSE NEIGHBOUR: 'it returns false'. Refute it at one input. -/
def fnExactNextWordWrong : ChangeSpec := { name := "fnExactNextWord", fn := fun _ => fun
  | [d1, d2] => { results := [.lit (.bool false)], args := [d1, d2] }
  | _ => none }
def FnExactNextWordWrongFalsely : Prop := fnExactNextWordRow.holds Try.pinned (OpenSpec.ofChange fnExactNextWordWrong)

/-- 'laws.FnExactKeepsTerm': WHATEVER THE INPUT: true; the input reads as it did. -/
def fnExactKeepsTermSpec : ChangeSpec := { name := "fnExactKeepsTerm", fn := fun _ => fun
  | [d1, d2] => { results := [.lit (.bool true)], args := [d1, d2] }
  | _ => none }
def fnExactKeepsTermRow : OpenClaim := { program := "ytaghjddndgpljaa", sum := "99a69a5332b4f47613aa88c1b170c956150bbe1d0f7c734ea4d4b6f508722008", func := "loop.example/dutyrosters/laws.FnExactKeepsTerm", spec := "fnExactKeepsTerm", inPlace := ["internal/bytealg.IndexByteString", "internal/bytealg.IndexString"], unfollowed := true, recurses := true, named := ["internal/bytealg.MaxLen"], plainKeys := false, apart := false }
def FnExactKeepsTermSaid : Prop := fnExactKeepsTermRow.holds Try.pinned (OpenSpec.ofChange fnExactKeepsTermSpec)

/-- ITS FALSE NEIGHBOUR: 'it returns false'. Refute it at one input. -/
def fnExactKeepsTermWrong : ChangeSpec := { name := "fnExactKeepsTerm", fn := fun _ => fun
  | [d1, d2] => { results := [.lit (.bool false)], args := [d1, d2] }
  | _ => none }
def FnExactKeepsTermWrongFalsely : Prop := fnExactKeepsTermRow.holds Try.pinned (OpenSpec.ofChange fnExactKeepsTermWrong)

/-- 'laws.FnExactMachineOf': WHATEVER THE INPUT: true; the input reads as it did. -/
def fnExactMachineOfSpec : ChangeSpec := { name := "fnExactMachineOf", fn := fun _ => fun
  | [d] => { results := [.lit (.bool true)], args := [d] }
  | _ => none }
def fnExactMachineOfRow : OpenClaim := { program := "ytaghjddndgpljaa", sum := "99a69a5332b4f47613aa88c1b170c956150bbe1d0f7c734ea4d4b6f508722008", func := "loop.example/dutyrosters/laws.FnExactMachineOf", spec := "fnExactMachineOf", inPlace := ["internal/bytealg.IndexByteString"], unfollowed := true, recurses := true, plainKeys := false, apart := false }
def FnExactMachineOfSaid : Prop := fnExactMachineOfRow.holds Try.pinned (OpenSpec.ofChange fnExactMachineOfSpec)

/-- ITS FALSE NEIGHBOUR: 'it returns false'. Refute it at one input. -/
def fnExactMachineOfWrong : ChangeSpec := { name := "fnExactMachineOf", fn := fun _ => fun
  | [d] => { results := [.lit (.bool false)], args := [d] }
  | _ => none }
def FnExactMachineOfWrongFalsely : Prop := fnExactMachineOfRow.holds Try.pinned (OpenSpec.ofChange fnExactMachineOfWrong)

/-- 'laws.FnExactSameTerms': WHATEVER THE INPUT: true; the input reads as it did. -/
def fnExactSameTermsSpec : ChangeSpec := { name := "fnExactSameTerms", fn := fun _ => fun
  | [d1, d2] => { results := [.lit (.bool true)], args := [d1, d2] }
  | _ => none }
def fnExactSameTermsRow : OpenClaim := { program := "ytaghjddndgpljaa", sum := "99a69a5332b4f47613aa88c1b170c956150bbe1d0f7c734ea4d4b6f508722008", func := "loop.example/dutyrosters/laws.FnExactSameTerms", spec := "fnExactSameTerms", inPlace := ["internal/bytealg.IndexByteString"], unfollowed := true, recurses := true, plainKeys := false, apart := false }
def FnExactSameTermsSaid : Prop := fnExactSameTermsRow.holds Try.pinned (OpenSpec.ofChange fnExactSameTermsSpec)

/-- ITS FALSE NEIGHBOUR: 'it returns false'. Refute it at one input. -/
def fnExactSameTermsWrong : ChangeSpec := { name := "fnExactSameTerms", fn := fun _ => fun
  | [d1, d2] => { results := [.lit (.bool false)], args := [d1, d2] }
  | _ => none }
def FnExactSameTermsWrongFalsely : Prop := fnExactSameTermsRow.holds Try.pinned (OpenSpec.ofChange fnExactSameTermsWrong)

/-- 'laws.FnExactImpliesTerm': WHATEVER THE INPUT: true; the input reads as it did. -/
def fnExactImpliesTermSpec : ChangeSpec := { name := "fnExactImpliesTerm", fn := fun _ => fun
  | [d1, d2] => { results := [.lit (.bool true)], args := [d1, d2] }
  | _ => none }
def fnExactImpliesTermRow : OpenClaim := { program := "ytaghjddndgpljaa", sum := "99a69a5332b4f47613aa88c1b170c956150bbe1d0f7c734ea4d4b6f508722008", func := "loop.example/dutyrosters/laws.FnExactImpliesTerm", spec := "fnExactImpliesTerm", inPlace := ["internal/bytealg.IndexByteString"], unfollowed := true, recurses := true, plainKeys := false, apart := false }
def FnExactImpliesTermSaid : Prop := fnExactImpliesTermRow.holds Try.pinned (OpenSpec.ofChange fnExactImpliesTermSpec)

/-- ITS FALSE NEIGHBOUR: 'it returns false'. Refute it at one input. -/
def fnExactImpliesTermWrong : ChangeSpec := { name := "fnExactImpliesTerm", fn := fun _ => fun
  | [d1, d2] => { results := [.lit (.bool false)], args := [d1, d2] }
  | _ => none }
def FnExactImpliesTermWrongFalsely : Prop := fnExactImpliesTermRow.holds Try.pinned (OpenSpec.ofChange fnExactImpliesTermWrong)

/-- 'laws.FnExactWitnessOf': WHATEVER THE INPUT: true; the input reads as it did. -/
def fnExactWitnessOfSpec : ChangeSpec := { name := "fnExactWitnessOf", fn := fun _ => fun
  | [d1, d2] => { results := [.lit (.bool true)], args := [d1, d2] }
  | _ => none }
def fnExactWitnessOfRow : OpenClaim := { program := "ytaghjddndgpljaa", sum := "99a69a5332b4f47613aa88c1b170c956150bbe1d0f7c734ea4d4b6f508722008", func := "loop.example/dutyrosters/laws.FnExactWitnessOf", spec := "fnExactWitnessOf", inPlace := ["internal/bytealg.IndexByteString"], unfollowed := true, recurses := true, plainKeys := false, apart := false }
def FnExactWitnessOfSaid : Prop := fnExactWitnessOfRow.holds Try.pinned (OpenSpec.ofChange fnExactWitnessOfSpec)

/-- ITS FALSE NEIGHBOUR: 'it returns false'. Refute it at one input. -/
def fnExactWitnessOfWrong : ChangeSpec := { name := "fnExactWitnessOf", fn := fun _ => fun
  | [d1, d2] => { results := [.lit (.bool false)], args := [d1, d2] }
  | _ => none }
def FnExactWitnessOfWrongFalsely : Prop := fnExactWitnessOfRow.holds Try.pinned (OpenSpec.ofChange fnExactWitnessOfWrong)

/- THE SECOND FORM. 'bulk': how many values and letters a reading holds, each counted each time it is reached (what is shared counts as often as it is met; a slice's spare places count too). A statement '..UptoSaid' is the law's where the arguments, and the package variables that the reading takes, are together of bulk at most 1048576: NARROWER than '..Said'. Prove '..Said' where nothing that the law and all that it calls make is longer than what came in: it says more and counts as full. Else prove '..UptoSaid'. A law counts once. -/
mutual
def uptoBulk {H : Type} : DataW H → Nat
  | .lit (.string bytes) => bytes.length + 1
  | .lit _ => 1
  | .nil => 1
  | .ptr d => uptoBulk d + 1
  | .slice elems spare => uptoBulkAll elems + uptoBulkAll spare + 1
  | .agg parts => uptoBulkAll parts + 1
  | .iface _ d => uptoBulk d + 1
  | .map entries => uptoBulkEntries entries + 1
  | .held _ => 1
def uptoBulkAll {H : Type} : List (DataW H) → Nat
  | [] => 0
  | d :: r => uptoBulk d + uptoBulkAll r
def uptoBulkEntries {H : Type} : List (Lit × DataW H) → Nat
  | [] => 0
  | x :: r => uptoBulkEntry x + uptoBulkEntries r
def uptoBulkEntry {H : Type} : Lit × DataW H → Nat
  | (.string bytes, d) => bytes.length + uptoBulk d + 1
  | (_, d) => uptoBulk d + 1
 end
def uptoSmall : (H : Type) → List (DataW H) → Bool := fun _ ds => decide (uptoBulkAll ds ≤ 1048576)
def OpenSpec.upto (s : _root_.Go.ChangeSpec) : _root_.Go.OpenSpec := { _root_.Go.OpenSpec.ofChange s with cond := some uptoSmall }

/-- 'laws.FnSameOk', WHERE WHAT IT READS IS OF BULK AT MOST 1048576: true; the input reads as it did. -/
def fnSameOkUptoRow : OpenClaim := { program := "ytaghjddndgpljaa", sum := "99a69a5332b4f47613aa88c1b170c956150bbe1d0f7c734ea4d4b6f508722008", func := "loop.example/dutyrosters/laws.FnSameOk", spec := "fnSameOk", inPlace := ["internal/bytealg.IndexByteString"], unfollowed := true, recurses := true, plainKeys := false, apart := false, narrowed := true }
def FnSameOkUptoSaid : Prop := fnSameOkUptoRow.holds Try.pinned (OpenSpec.upto fnSameOkSpec)

/-- 'laws.FnLeastMachine', WHERE WHAT IT READS IS OF BULK AT MOST 1048576: true; the input reads as it did. -/
def fnLeastMachineUptoRow : OpenClaim := { program := "ytaghjddndgpljaa", sum := "99a69a5332b4f47613aa88c1b170c956150bbe1d0f7c734ea4d4b6f508722008", func := "loop.example/dutyrosters/laws.FnLeastMachine", spec := "fnLeastMachine", inPlace := ["internal/bytealg.IndexByteString"], unfollowed := true, recurses := true, plainKeys := false, apart := false, narrowed := true }
def FnLeastMachineUptoSaid : Prop := fnLeastMachineUptoRow.holds Try.pinned (OpenSpec.upto fnLeastMachineSpec)

/-- 'laws.FnExactSameOk', WHERE WHAT IT READS IS OF BULK AT MOST 1048576: true; the input reads as it did. -/
def fnExactSameOkUptoRow : OpenClaim := { program := "ytaghjddndgpljaa", sum := "99a69a5332b4f47613aa88c1b170c956150bbe1d0f7c734ea4d4b6f508722008", func := "loop.example/dutyrosters/laws.FnExactSameOk", spec := "fnExactSameOk", unfollowed := true, recurses := true, plainKeys := false, apart := false, narrowed := true }
def FnExactSameOkUptoSaid : Prop := fnExactSameOkUptoRow.holds Try.pinned (OpenSpec.upto fnExactSameOkSpec)

/-- 'laws.FnExactCountWords', WHERE WHAT IT READS IS OF BULK AT MOST 1048576: true; the input reads as it did. -/
def fnExactCountWordsUptoRow : OpenClaim := { program := "ytaghjddndgpljaa", sum := "99a69a5332b4f47613aa88c1b170c956150bbe1d0f7c734ea4d4b6f508722008", func := "loop.example/dutyrosters/laws.FnExactCountWords", spec := "fnExactCountWords", plainKeys := false, apart := false, narrowed := true }
def FnExactCountWordsUptoSaid : Prop := fnExactCountWordsUptoRow.holds Try.pinned (OpenSpec.upto fnExactCountWordsSpec)

/-- 'laws.FnExactWordAt', WHERE WHAT IT READS IS OF BULK AT MOST 1048576: true; the input reads as it did. -/
def fnExactWordAtUptoRow : OpenClaim := { program := "ytaghjddndgpljaa", sum := "99a69a5332b4f47613aa88c1b170c956150bbe1d0f7c734ea4d4b6f508722008", func := "loop.example/dutyrosters/laws.FnExactWordAt", spec := "fnExactWordAt", plainKeys := false, apart := false, narrowed := true }
def FnExactWordAtUptoSaid : Prop := fnExactWordAtUptoRow.holds Try.pinned (OpenSpec.upto fnExactWordAtSpec)

/-- 'laws.FnExactPlaceOf', WHERE WHAT IT READS IS OF BULK AT MOST 1048576: true; the input reads as it did. -/
def fnExactPlaceOfUptoRow : OpenClaim := { program := "ytaghjddndgpljaa", sum := "99a69a5332b4f47613aa88c1b170c956150bbe1d0f7c734ea4d4b6f508722008", func := "loop.example/dutyrosters/laws.FnExactPlaceOf", spec := "fnExactPlaceOf", inPlace := ["internal/bytealg.IndexByteString"], plainKeys := false, apart := false, narrowed := true }
def FnExactPlaceOfUptoSaid : Prop := fnExactPlaceOfUptoRow.holds Try.pinned (OpenSpec.upto fnExactPlaceOfSpec)

/-- 'laws.FnExactLettersAfter', WHERE WHAT IT READS IS OF BULK AT MOST 1048576: true; the input reads as it did. -/
def fnExactLettersAfterUptoRow : OpenClaim := { program := "ytaghjddndgpljaa", sum := "99a69a5332b4f47613aa88c1b170c956150bbe1d0f7c734ea4d4b6f508722008", func := "loop.example/dutyrosters/laws.FnExactLettersAfter", spec := "fnExactLettersAfter", inPlace := ["internal/bytealg.IndexByteString"], plainKeys := false, apart := false, narrowed := true }
def FnExactLettersAfterUptoSaid : Prop := fnExactLettersAfterUptoRow.holds Try.pinned (OpenSpec.upto fnExactLettersAfterSpec)

/-- 'laws.FnExactNextWord', WHERE WHAT IT READS IS OF BULK AT MOST 1048576: true; the input reads as it did. -/
def fnExactNextWordUptoRow : OpenClaim := { program := "ytaghjddndgpljaa", sum := "99a69a5332b4f47613aa88c1b170c956150bbe1d0f7c734ea4d4b6f508722008", func := "loop.example/dutyrosters/laws.FnExactNextWord", spec := "fnExactNextWord", inPlace := ["internal/bytealg.IndexByteString"], plainKeys := false, apart := false, narrowed := true }
def FnExactNextWordUptoSaid : Prop := fnExactNextWordUptoRow.holds Try.pinned (OpenSpec.upto fnExactNextWordSpec)

/-- 'laws.FnExactKeepsTerm', WHERE WHAT IT READS IS OF BULK AT MOST 1048576: true; the input reads as it did. -/
def fnExactKeepsTermUptoRow : OpenClaim := { program := "ytaghjddndgpljaa", sum := "99a69a5332b4f47613aa88c1b170c956150bbe1d0f7c734ea4d4b6f508722008", func := "loop.example/dutyrosters/laws.FnExactKeepsTerm", spec := "fnExactKeepsTerm", inPlace := ["internal/bytealg.IndexByteString", "internal/bytealg.IndexString"], unfollowed := true, recurses := true, named := ["internal/bytealg.MaxLen"], plainKeys := false, apart := false, narrowed := true }
def FnExactKeepsTermUptoSaid : Prop := fnExactKeepsTermUptoRow.holds Try.pinned (OpenSpec.upto fnExactKeepsTermSpec)

/-- 'laws.FnExactMachineOf', WHERE WHAT IT READS IS OF BULK AT MOST 1048576: true; the input reads as it did. -/
def fnExactMachineOfUptoRow : OpenClaim := { program := "ytaghjddndgpljaa", sum := "99a69a5332b4f47613aa88c1b170c956150bbe1d0f7c734ea4d4b6f508722008", func := "loop.example/dutyrosters/laws.FnExactMachineOf", spec := "fnExactMachineOf", inPlace := ["internal/bytealg.IndexByteString"], unfollowed := true, recurses := true, plainKeys := false, apart := false, narrowed := true }
def FnExactMachineOfUptoSaid : Prop := fnExactMachineOfUptoRow.holds Try.pinned (OpenSpec.upto fnExactMachineOfSpec)

/-- 'laws.FnExactSameTerms', WHERE WHAT IT READS IS OF BULK AT MOST 1048576: true; the input reads as it did. -/
def fnExactSameTermsUptoRow : OpenClaim := { program := "ytaghjddndgpljaa", sum := "99a69a5332b4f47613aa88c1b170c956150bbe1d0f7c734ea4d4b6f508722008", func := "loop.example/dutyrosters/laws.FnExactSameTerms", spec := "fnExactSameTerms", inPlace := ["internal/bytealg.IndexByteString"], unfollowed := true, recurses := true, plainKeys := false, apart := false, narrowed := true }
def FnExactSameTermsUptoSaid : Prop := fnExactSameTermsUptoRow.holds Try.pinned (OpenSpec.upto fnExactSameTermsSpec)

/-- 'laws.FnExactImpliesTerm', WHERE WHAT IT READS IS OF BULK AT MOST 1048576: true; the input reads as it did. -/
def fnExactImpliesTermUptoRow : OpenClaim := { program := "ytaghjddndgpljaa", sum := "99a69a5332b4f47613aa88c1b170c956150bbe1d0f7c734ea4d4b6f508722008", func := "loop.example/dutyrosters/laws.FnExactImpliesTerm", spec := "fnExactImpliesTerm", inPlace := ["internal/bytealg.IndexByteString"], unfollowed := true, recurses := true, plainKeys := false, apart := false, narrowed := true }
def FnExactImpliesTermUptoSaid : Prop := fnExactImpliesTermUptoRow.holds Try.pinned (OpenSpec.upto fnExactImpliesTermSpec)

/-- 'laws.FnExactWitnessOf', WHERE WHAT IT READS IS OF BULK AT MOST 1048576: true; the input reads as it did. -/
def fnExactWitnessOfUptoRow : OpenClaim := { program := "ytaghjddndgpljaa", sum := "99a69a5332b4f47613aa88c1b170c956150bbe1d0f7c734ea4d4b6f508722008", func := "loop.example/dutyrosters/laws.FnExactWitnessOf", spec := "fnExactWitnessOf", inPlace := ["internal/bytealg.IndexByteString"], unfollowed := true, recurses := true, plainKeys := false, apart := false, narrowed := true }
def FnExactWitnessOfUptoSaid : Prop := fnExactWitnessOfUptoRow.holds Try.pinned (OpenSpec.upto fnExactWitnessOfSpec)

end Rows
end Go.Proofs.Ytaghjddndgpljaa

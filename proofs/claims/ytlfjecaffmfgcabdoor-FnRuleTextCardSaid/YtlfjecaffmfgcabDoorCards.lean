/-
  DERIVED. GIVEN WITH THE SEED: THE CARDS: each row of YtlfjecaffmfgcabDoorRows.lean that lists a variable, with what it lists TIED to the program's text (the seventh form; the later family's looks); each row that meets fmt, with fmt's text TOLD by the authors' own Lean function (tested against real Go, not proved from fmt's source: count such statements apart). THE CARD IS WHAT COUNTS. Prove the row's statement (the work); the ties are given (YtlfjecaffmfgcabDoorTie.lean); close each card by the builder's one call (the guide's Derived/Test/ToyasCard.lean, 'card_holds'). Laid BY PROGRAM, IN A SANDBOX (cutbox-door.mjs). By AI agents, Wed Nov 11 2026. No macro, syntax, notation, axiom, sorry.
-/
import Derived.Test.YtlfjecaffmfgcabDoorRows
import GoSem.ClaimSeven
namespace Go.Proofs.YtlfjecaffmfgcabDoor
namespace Rows

/-- THE TIED CARD OF 'laws.FnRuleText'. -/
def fnRuleTextCard : Claim7 := { stood := { row := fnRuleTextRow, standIns := [], harness := (true, "f342de1b9319f8dd9c22c57f62619405dda657fec993d27f155fa620af539c29"), looks := false }, kinds := [], alts := [], laidByText := true, laidKinds := [.data, .data, .data], laidTests := true, laidLooks := .later }
def FnRuleTextCardSaid : Prop := Claim7.holds Tryd.pinned (.plain (OpenSpec.ofChange fnRuleTextSpec)) fnRuleTextCard

/-- THE TIED CARD OF 'laws.FnReadRule'. -/
def fnReadRuleCard : Claim7 := { stood := { row := fnReadRuleRow, standIns := [], harness := (true, "f342de1b9319f8dd9c22c57f62619405dda657fec993d27f155fa620af539c29"), looks := false }, kinds := [], alts := [], laidByText := true, laidKinds := [.data, .data, .data], laidTests := true, laidLooks := .later }
def FnReadRuleCardSaid : Prop := Claim7.holds Tryd.pinned (.plain (OpenSpec.ofChange fnReadRuleSpec)) fnReadRuleCard

/-- THE TIED CARD OF 'laws.FnTermText'. -/
def fnTermTextCard : Claim7 := { stood := { row := fnTermTextRow, standIns := [], harness := (true, "f342de1b9319f8dd9c22c57f62619405dda657fec993d27f155fa620af539c29"), looks := false }, kinds := [], alts := [], laidByText := true, laidKinds := [.data, .data, .data], laidTests := true, laidLooks := .later }
def FnTermTextCardSaid : Prop := Claim7.holds Tryd.pinned (.plain (OpenSpec.ofChange fnTermTextSpec)) fnTermTextCard

/-- THE TIED CARD OF 'laws.FnReadTerm'. -/
def fnReadTermCard : Claim7 := { stood := { row := fnReadTermRow, standIns := [], harness := (true, "f342de1b9319f8dd9c22c57f62619405dda657fec993d27f155fa620af539c29"), looks := false }, kinds := [], alts := [], laidByText := true, laidKinds := [.data, .data, .data], laidTests := true, laidLooks := .later }
def FnReadTermCardSaid : Prop := Claim7.holds Tryd.pinned (.plain (OpenSpec.ofChange fnReadTermSpec)) fnReadTermCard

/-- THE SECOND FORM's CARD OF 'laws.FnRuleText'. -/
def fnRuleTextUptoCard : Claim7 := { stood := { row := fnRuleTextUptoRow, standIns := [], harness := (true, "f342de1b9319f8dd9c22c57f62619405dda657fec993d27f155fa620af539c29"), looks := false }, kinds := [], alts := [], laidByText := true, laidKinds := [.data, .data, .data], laidTests := true, laidLooks := .later }
def FnRuleTextUptoCardSaid : Prop := Claim7.holds Tryd.pinned (.plain (OpenSpec.upto fnRuleTextSpec)) fnRuleTextUptoCard

/-- THE SECOND FORM's CARD OF 'laws.FnReadRule'. -/
def fnReadRuleUptoCard : Claim7 := { stood := { row := fnReadRuleUptoRow, standIns := [], harness := (true, "f342de1b9319f8dd9c22c57f62619405dda657fec993d27f155fa620af539c29"), looks := false }, kinds := [], alts := [], laidByText := true, laidKinds := [.data, .data, .data], laidTests := true, laidLooks := .later }
def FnReadRuleUptoCardSaid : Prop := Claim7.holds Tryd.pinned (.plain (OpenSpec.upto fnReadRuleSpec)) fnReadRuleUptoCard

/-- THE SECOND FORM's CARD OF 'laws.FnTermText'. -/
def fnTermTextUptoCard : Claim7 := { stood := { row := fnTermTextUptoRow, standIns := [], harness := (true, "f342de1b9319f8dd9c22c57f62619405dda657fec993d27f155fa620af539c29"), looks := false }, kinds := [], alts := [], laidByText := true, laidKinds := [.data, .data, .data], laidTests := true, laidLooks := .later }
def FnTermTextUptoCardSaid : Prop := Claim7.holds Tryd.pinned (.plain (OpenSpec.upto fnTermTextSpec)) fnTermTextUptoCard

/-- THE SECOND FORM's CARD OF 'laws.FnReadTerm'. -/
def fnReadTermUptoCard : Claim7 := { stood := { row := fnReadTermUptoRow, standIns := [], harness := (true, "f342de1b9319f8dd9c22c57f62619405dda657fec993d27f155fa620af539c29"), looks := false }, kinds := [], alts := [], laidByText := true, laidKinds := [.data, .data, .data], laidTests := true, laidLooks := .later }
def FnReadTermUptoCardSaid : Prop := Claim7.holds Tryd.pinned (.plain (OpenSpec.upto fnReadTermSpec)) fnReadTermUptoCard
end Rows
end Go.Proofs.YtlfjecaffmfgcabDoor

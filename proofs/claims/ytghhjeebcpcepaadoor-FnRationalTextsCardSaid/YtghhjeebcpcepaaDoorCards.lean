/-
  DERIVED. GIVEN WITH THE SEED: THE CARDS: each row of YtghhjeebcpcepaaDoorRows.lean that lists a variable, with what it lists TIED to the program's text (the seventh form; the later family's looks); each row that meets fmt, with fmt's text TOLD by the authors' own Lean function (tested against real Go, not proved from fmt's source: count such statements apart). THE CARD IS WHAT COUNTS. Prove the row's statement (the work); the ties are given (YtghhjeebcpcepaaDoorTie.lean); close each card by the builder's one call (the guide's Derived/Test/ToyasCard.lean, 'card_holds'). Laid BY PROGRAM, IN A SANDBOX (cutbox-door.mjs). By AI agents, Wed Nov 11 2026. No macro, syntax, notation, axiom, sorry.
-/
import Derived.Test.YtghhjeebcpcepaaDoorRows
import GoSem.ClaimSeven
namespace Go.Proofs.YtghhjeebcpcepaaDoor
namespace Rows

/-- THE TIED CARD OF 'laws.FnPowerTexts'. -/
def fnPowerTextsCard : Claim7 := { stood := { row := fnPowerTextsRow, standIns := [], harness := (true, "27e5791a26bda87e40f6bdd703a43ba9d0f508be1fa3e6e54f009fce32d0ea2b"), looks := true }, kinds := [], alts := [], laidByText := true, laidKinds := [.data, .data, .data, .data, .sentinel, .sentinel, .pinned], laidTests := true, laidLooks := .later }
def FnPowerTextsCardSaid : Prop := Claim7.holds Tryd.pinned (.plain (OpenSpec.ofChange fnPowerTextsSpec)) fnPowerTextsCard

/-- THE TIED CARD OF 'laws.FnRationalTexts'. -/
def fnRationalTextsCard : Claim7 := { stood := { row := fnRationalTextsRow, standIns := [], harness := (true, "27e5791a26bda87e40f6bdd703a43ba9d0f508be1fa3e6e54f009fce32d0ea2b"), looks := true }, kinds := [], alts := [], laidByText := true, laidKinds := [.data, .data, .data, .sentinel, .sentinel], laidTests := true, laidLooks := .later }
def FnRationalTextsCardSaid : Prop := Claim7.holds Tryd.pinned (.plain (OpenSpec.ofChange fnRationalTextsSpec)) fnRationalTextsCard

/-- THE TIED CARD OF 'laws.FnExactPowersText'. -/
def fnExactPowersTextCard : Claim7 := { stood := { row := fnExactPowersTextRow, standIns := [], harness := (true, "27e5791a26bda87e40f6bdd703a43ba9d0f508be1fa3e6e54f009fce32d0ea2b"), looks := true }, kinds := [], alts := [], laidByText := true, laidKinds := [.data, .data, .data], laidTests := true, laidLooks := .later }
def FnExactPowersTextCardSaid : Prop := Claim7.holds Tryd.pinned (.plain (OpenSpec.ofChange fnExactPowersTextSpec)) fnExactPowersTextCard

/-- THE TIED CARD OF 'laws.FnExactReadPowers'. -/
def fnExactReadPowersCard : Claim7 := { stood := { row := fnExactReadPowersRow, standIns := [], harness := (true, "27e5791a26bda87e40f6bdd703a43ba9d0f508be1fa3e6e54f009fce32d0ea2b"), looks := true }, kinds := [], alts := [], laidByText := true, laidKinds := [.data, .data, .data, .data, .sentinel, .sentinel, .pinned], laidTests := true, laidLooks := .later }
def FnExactReadPowersCardSaid : Prop := Claim7.holds Tryd.pinned (.plain (OpenSpec.ofChange fnExactReadPowersSpec)) fnExactReadPowersCard

/-- THE TIED CARD OF 'laws.FnExactRationalText'. -/
def fnExactRationalTextCard : Claim7 := { stood := { row := fnExactRationalTextRow, standIns := [], harness := (true, "27e5791a26bda87e40f6bdd703a43ba9d0f508be1fa3e6e54f009fce32d0ea2b"), looks := true }, kinds := [], alts := [], laidByText := true, laidKinds := [.data, .data, .data], laidTests := true, laidLooks := .later }
def FnExactRationalTextCardSaid : Prop := Claim7.holds Tryd.pinned (.plain (OpenSpec.ofChange fnExactRationalTextSpec)) fnExactRationalTextCard

/-- THE TIED CARD OF 'laws.FnExactReadRational'. -/
def fnExactReadRationalCard : Claim7 := { stood := { row := fnExactReadRationalRow, standIns := [], harness := (true, "27e5791a26bda87e40f6bdd703a43ba9d0f508be1fa3e6e54f009fce32d0ea2b"), looks := true }, kinds := [], alts := [], laidByText := true, laidKinds := [.data, .data, .data, .sentinel, .sentinel], laidTests := true, laidLooks := .later }
def FnExactReadRationalCardSaid : Prop := Claim7.holds Tryd.pinned (.plain (OpenSpec.ofChange fnExactReadRationalSpec)) fnExactReadRationalCard

/-- THE SECOND FORM's CARD OF 'laws.FnPowerTexts'. -/
def fnPowerTextsUptoCard : Claim7 := { stood := { row := fnPowerTextsUptoRow, standIns := [], harness := (true, "27e5791a26bda87e40f6bdd703a43ba9d0f508be1fa3e6e54f009fce32d0ea2b"), looks := true }, kinds := [], alts := [], laidByText := true, laidKinds := [.data, .data, .data, .data, .sentinel, .sentinel, .pinned], laidTests := true, laidLooks := .later }
def FnPowerTextsUptoCardSaid : Prop := Claim7.holds Tryd.pinned (.plain (OpenSpec.upto fnPowerTextsSpec)) fnPowerTextsUptoCard

/-- THE SECOND FORM's CARD OF 'laws.FnRationalTexts'. -/
def fnRationalTextsUptoCard : Claim7 := { stood := { row := fnRationalTextsUptoRow, standIns := [], harness := (true, "27e5791a26bda87e40f6bdd703a43ba9d0f508be1fa3e6e54f009fce32d0ea2b"), looks := true }, kinds := [], alts := [], laidByText := true, laidKinds := [.data, .data, .data, .sentinel, .sentinel], laidTests := true, laidLooks := .later }
def FnRationalTextsUptoCardSaid : Prop := Claim7.holds Tryd.pinned (.plain (OpenSpec.upto fnRationalTextsSpec)) fnRationalTextsUptoCard

/-- THE SECOND FORM's CARD OF 'laws.FnExactPowersText'. -/
def fnExactPowersTextUptoCard : Claim7 := { stood := { row := fnExactPowersTextUptoRow, standIns := [], harness := (true, "27e5791a26bda87e40f6bdd703a43ba9d0f508be1fa3e6e54f009fce32d0ea2b"), looks := true }, kinds := [], alts := [], laidByText := true, laidKinds := [.data, .data, .data], laidTests := true, laidLooks := .later }
def FnExactPowersTextUptoCardSaid : Prop := Claim7.holds Tryd.pinned (.plain (OpenSpec.upto fnExactPowersTextSpec)) fnExactPowersTextUptoCard

/-- THE SECOND FORM's CARD OF 'laws.FnExactReadPowers'. -/
def fnExactReadPowersUptoCard : Claim7 := { stood := { row := fnExactReadPowersUptoRow, standIns := [], harness := (true, "27e5791a26bda87e40f6bdd703a43ba9d0f508be1fa3e6e54f009fce32d0ea2b"), looks := true }, kinds := [], alts := [], laidByText := true, laidKinds := [.data, .data, .data, .data, .sentinel, .sentinel, .pinned], laidTests := true, laidLooks := .later }
def FnExactReadPowersUptoCardSaid : Prop := Claim7.holds Tryd.pinned (.plain (OpenSpec.upto fnExactReadPowersSpec)) fnExactReadPowersUptoCard

/-- THE SECOND FORM's CARD OF 'laws.FnExactRationalText'. -/
def fnExactRationalTextUptoCard : Claim7 := { stood := { row := fnExactRationalTextUptoRow, standIns := [], harness := (true, "27e5791a26bda87e40f6bdd703a43ba9d0f508be1fa3e6e54f009fce32d0ea2b"), looks := true }, kinds := [], alts := [], laidByText := true, laidKinds := [.data, .data, .data], laidTests := true, laidLooks := .later }
def FnExactRationalTextUptoCardSaid : Prop := Claim7.holds Tryd.pinned (.plain (OpenSpec.upto fnExactRationalTextSpec)) fnExactRationalTextUptoCard

/-- THE SECOND FORM's CARD OF 'laws.FnExactReadRational'. -/
def fnExactReadRationalUptoCard : Claim7 := { stood := { row := fnExactReadRationalUptoRow, standIns := [], harness := (true, "27e5791a26bda87e40f6bdd703a43ba9d0f508be1fa3e6e54f009fce32d0ea2b"), looks := true }, kinds := [], alts := [], laidByText := true, laidKinds := [.data, .data, .data, .sentinel, .sentinel], laidTests := true, laidLooks := .later }
def FnExactReadRationalUptoCardSaid : Prop := Claim7.holds Tryd.pinned (.plain (OpenSpec.upto fnExactReadRationalSpec)) fnExactReadRationalUptoCard
end Rows
end Go.Proofs.YtghhjeebcpcepaaDoor

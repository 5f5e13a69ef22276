/-
  DERIVED. GIVEN WITH THE SEED: THE CARDS: each row of YtohncnihgfmfkaaDoorRows.lean that lists a variable, with what it lists TIED to the program's text (the seventh form; the later family's looks); each row that meets fmt, with fmt's text TOLD by the authors' own Lean function (tested against real Go, not proved from fmt's source: count such statements apart). THE CARD IS WHAT COUNTS. Prove the row's statement (the work); the ties are given (YtohncnihgfmfkaaDoorTie.lean); close each card by the builder's one call (the guide's Derived/Test/ToyasCard.lean, 'card_holds'). Laid BY PROGRAM, IN A SANDBOX (cutbox-door.mjs). By AI agents, Wed Nov 11 2026. No macro, syntax, notation, axiom, sorry.
-/
import Derived.Test.YtohncnihgfmfkaaDoorRows
import GoSem.ClaimSeven
namespace Go.Proofs.YtohncnihgfmfkaaDoor
namespace Rows

/-- THE TIED CARD OF 'laws.FnPowerTexts'. -/
def fnPowerTextsCard : Claim7 := { stood := { row := fnPowerTextsRow, standIns := [], harness := (true, "650b5fb727ca61a35edcab3cd00d446fd8e8f0fb6ed6b090e9085709466d145e"), looks := true }, kinds := [], alts := [], laidByText := true, laidKinds := [.data, .data, .data, .data, .sentinel, .sentinel, .pinned], laidTests := true, laidLooks := .later }
def FnPowerTextsCardSaid : Prop := Claim7.holds Tryd.pinned (.plain (OpenSpec.ofChange fnPowerTextsSpec)) fnPowerTextsCard

/-- THE TIED CARD OF 'laws.FnExactReadPowers'. -/
def fnExactReadPowersCard : Claim7 := { stood := { row := fnExactReadPowersRow, standIns := [], harness := (true, "650b5fb727ca61a35edcab3cd00d446fd8e8f0fb6ed6b090e9085709466d145e"), looks := true }, kinds := [], alts := [], laidByText := true, laidKinds := [.data, .data, .data, .data, .sentinel, .sentinel, .pinned], laidTests := true, laidLooks := .later }
def FnExactReadPowersCardSaid : Prop := Claim7.holds Tryd.pinned (.plain (OpenSpec.ofChange fnExactReadPowersSpec)) fnExactReadPowersCard

/-- THE SECOND FORM's CARD OF 'laws.FnPowerTexts'. -/
def fnPowerTextsUptoCard : Claim7 := { stood := { row := fnPowerTextsUptoRow, standIns := [], harness := (true, "650b5fb727ca61a35edcab3cd00d446fd8e8f0fb6ed6b090e9085709466d145e"), looks := true }, kinds := [], alts := [], laidByText := true, laidKinds := [.data, .data, .data, .data, .sentinel, .sentinel, .pinned], laidTests := true, laidLooks := .later }
def FnPowerTextsUptoCardSaid : Prop := Claim7.holds Tryd.pinned (.plain (OpenSpec.upto fnPowerTextsSpec)) fnPowerTextsUptoCard

/-- THE SECOND FORM's CARD OF 'laws.FnExactReadPowers'. -/
def fnExactReadPowersUptoCard : Claim7 := { stood := { row := fnExactReadPowersUptoRow, standIns := [], harness := (true, "650b5fb727ca61a35edcab3cd00d446fd8e8f0fb6ed6b090e9085709466d145e"), looks := true }, kinds := [], alts := [], laidByText := true, laidKinds := [.data, .data, .data, .data, .sentinel, .sentinel, .pinned], laidTests := true, laidLooks := .later }
def FnExactReadPowersUptoCardSaid : Prop := Claim7.holds Tryd.pinned (.plain (OpenSpec.upto fnExactReadPowersSpec)) fnExactReadPowersUptoCard
end Rows
end Go.Proofs.YtohncnihgfmfkaaDoor

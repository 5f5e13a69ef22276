/-
  DERIVED. GIVEN WITH THE SEED: THE CARDS: each row of YtcennddgbpkclaaDoorRows.lean that lists a variable, with what it lists TIED to the program's text (the seventh form; the later family's looks); each row that meets fmt, with fmt's text TOLD by the authors' own Lean function (tested against real Go, not proved from fmt's source: count such statements apart). THE CARD IS WHAT COUNTS. Prove the row's statement (the work); the ties are given (YtcennddgbpkclaaDoorTie.lean); close each card by the builder's one call (the guide's Derived/Test/ToyasCard.lean, 'card_holds'). Laid BY PROGRAM, IN A SANDBOX (cutbox-door.mjs). By AI agents, Wed Nov 11 2026. No macro, syntax, notation, axiom, sorry.
-/
import Derived.Test.YtcennddgbpkclaaDoorRows
import GoSem.ClaimSeven
namespace Go.Proofs.YtcennddgbpkclaaDoor
namespace Rows

/-- THE TIED CARD OF 'laws.FnPolynomialTexts'. -/
def fnPolynomialTextsCard : Claim7 := { stood := { row := fnPolynomialTextsRow, standIns := [], harness := (true, "1e4d7929110cf321fdd69ae37a62d5d3d7793eaab70f2210e02f09edd6dfe215"), looks := true }, kinds := [], alts := [], laidByText := true, laidKinds := [.data, .data, .data, .sentinel, .sentinel], laidTests := true, laidLooks := .later }
def FnPolynomialTextsCardSaid : Prop := Claim7.holds Tryd.pinned (.plain (OpenSpec.ofChange fnPolynomialTextsSpec)) fnPolynomialTextsCard

/-- THE TIED CARD OF 'laws.FnExactPolynomialText'. -/
def fnExactPolynomialTextCard : Claim7 := { stood := { row := fnExactPolynomialTextRow, standIns := [], harness := (true, "1e4d7929110cf321fdd69ae37a62d5d3d7793eaab70f2210e02f09edd6dfe215"), looks := true }, kinds := [], alts := [], laidByText := true, laidKinds := [.data, .data, .data], laidTests := true, laidLooks := .later }
def FnExactPolynomialTextCardSaid : Prop := Claim7.holds Tryd.pinned (.plain (OpenSpec.ofChange fnExactPolynomialTextSpec)) fnExactPolynomialTextCard

/-- THE TIED CARD OF 'laws.FnExactReadPolynomial'. -/
def fnExactReadPolynomialCard : Claim7 := { stood := { row := fnExactReadPolynomialRow, standIns := [], harness := (true, "1e4d7929110cf321fdd69ae37a62d5d3d7793eaab70f2210e02f09edd6dfe215"), looks := true }, kinds := [], alts := [], laidByText := true, laidKinds := [.data, .data, .data, .sentinel, .sentinel], laidTests := true, laidLooks := .later }
def FnExactReadPolynomialCardSaid : Prop := Claim7.holds Tryd.pinned (.plain (OpenSpec.ofChange fnExactReadPolynomialSpec)) fnExactReadPolynomialCard

/-- THE SECOND FORM's CARD OF 'laws.FnPolynomialTexts'. -/
def fnPolynomialTextsUptoCard : Claim7 := { stood := { row := fnPolynomialTextsUptoRow, standIns := [], harness := (true, "1e4d7929110cf321fdd69ae37a62d5d3d7793eaab70f2210e02f09edd6dfe215"), looks := true }, kinds := [], alts := [], laidByText := true, laidKinds := [.data, .data, .data, .sentinel, .sentinel], laidTests := true, laidLooks := .later }
def FnPolynomialTextsUptoCardSaid : Prop := Claim7.holds Tryd.pinned (.plain (OpenSpec.upto fnPolynomialTextsSpec)) fnPolynomialTextsUptoCard

/-- THE SECOND FORM's CARD OF 'laws.FnExactPolynomialText'. -/
def fnExactPolynomialTextUptoCard : Claim7 := { stood := { row := fnExactPolynomialTextUptoRow, standIns := [], harness := (true, "1e4d7929110cf321fdd69ae37a62d5d3d7793eaab70f2210e02f09edd6dfe215"), looks := true }, kinds := [], alts := [], laidByText := true, laidKinds := [.data, .data, .data], laidTests := true, laidLooks := .later }
def FnExactPolynomialTextUptoCardSaid : Prop := Claim7.holds Tryd.pinned (.plain (OpenSpec.upto fnExactPolynomialTextSpec)) fnExactPolynomialTextUptoCard

/-- THE SECOND FORM's CARD OF 'laws.FnExactReadPolynomial'. -/
def fnExactReadPolynomialUptoCard : Claim7 := { stood := { row := fnExactReadPolynomialUptoRow, standIns := [], harness := (true, "1e4d7929110cf321fdd69ae37a62d5d3d7793eaab70f2210e02f09edd6dfe215"), looks := true }, kinds := [], alts := [], laidByText := true, laidKinds := [.data, .data, .data, .sentinel, .sentinel], laidTests := true, laidLooks := .later }
def FnExactReadPolynomialUptoCardSaid : Prop := Claim7.holds Tryd.pinned (.plain (OpenSpec.upto fnExactReadPolynomialSpec)) fnExactReadPolynomialUptoCard
end Rows
end Go.Proofs.YtcennddgbpkclaaDoor

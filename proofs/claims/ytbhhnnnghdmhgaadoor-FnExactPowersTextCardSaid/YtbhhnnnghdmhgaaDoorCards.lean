/-
  DERIVED. GIVEN WITH THE SEED: THE CARDS: each row of YtbhhnnnghdmhgaaDoorRows.lean that lists a variable, with what it lists TIED to the program's text (the seventh form; the later family's looks); each row that meets fmt, with fmt's text TOLD by the authors' own Lean function (tested against real Go, not proved from fmt's source: count such statements apart). THE CARD IS WHAT COUNTS. Prove the row's statement (the work); the ties are given (YtbhhnnnghdmhgaaDoorTie.lean); close each card by the builder's one call (the guide's Derived/Test/ToyasCard.lean, 'card_holds'). Laid BY PROGRAM, IN A SANDBOX (cutbox-door.mjs). By AI agents, Wed Nov 11 2026. No macro, syntax, notation, axiom, sorry.
-/
import Derived.Test.YtbhhnnnghdmhgaaDoorRows
import GoSem.ClaimSeven
namespace Go.Proofs.YtbhhnnnghdmhgaaDoor
namespace Rows

/-- THE TIED CARD OF 'laws.FnPowerTexts'. -/
def fnPowerTextsCard : Claim7 := { stood := { row := fnPowerTextsRow, standIns := [], harness := (true, "60c31f4c3118f5abf5efbe58c70108a8008a5d03c13af9d360bdb0bf28525ad3"), looks := true }, kinds := [], alts := [], laidByText := true, laidKinds := [.data, .data, .data, .data, .sentinel, .sentinel, .pinned], laidTests := true, laidLooks := .later }
def FnPowerTextsCardSaid : Prop := Claim7.holds Tryd.pinned (.plain (OpenSpec.ofChange fnPowerTextsSpec)) fnPowerTextsCard

/-- THE TIED CARD OF 'laws.FnExactPowersText'. -/
def fnExactPowersTextCard : Claim7 := { stood := { row := fnExactPowersTextRow, standIns := [], harness := (true, "60c31f4c3118f5abf5efbe58c70108a8008a5d03c13af9d360bdb0bf28525ad3"), looks := true }, kinds := [], alts := [], laidByText := true, laidKinds := [.data, .data, .data], laidTests := true, laidLooks := .later }
def FnExactPowersTextCardSaid : Prop := Claim7.holds Tryd.pinned (.plain (OpenSpec.ofChange fnExactPowersTextSpec)) fnExactPowersTextCard

/-- THE TIED CARD OF 'laws.FnExactReadPowers'. -/
def fnExactReadPowersCard : Claim7 := { stood := { row := fnExactReadPowersRow, standIns := [], harness := (true, "60c31f4c3118f5abf5efbe58c70108a8008a5d03c13af9d360bdb0bf28525ad3"), looks := true }, kinds := [], alts := [], laidByText := true, laidKinds := [.data, .data, .data, .data, .sentinel, .sentinel, .pinned], laidTests := true, laidLooks := .later }
def FnExactReadPowersCardSaid : Prop := Claim7.holds Tryd.pinned (.plain (OpenSpec.ofChange fnExactReadPowersSpec)) fnExactReadPowersCard

/-- THE SECOND FORM's CARD OF 'laws.FnPowerTexts'. -/
def fnPowerTextsUptoCard : Claim7 := { stood := { row := fnPowerTextsUptoRow, standIns := [], harness := (true, "60c31f4c3118f5abf5efbe58c70108a8008a5d03c13af9d360bdb0bf28525ad3"), looks := true }, kinds := [], alts := [], laidByText := true, laidKinds := [.data, .data, .data, .data, .sentinel, .sentinel, .pinned], laidTests := true, laidLooks := .later }
def FnPowerTextsUptoCardSaid : Prop := Claim7.holds Tryd.pinned (.plain (OpenSpec.upto fnPowerTextsSpec)) fnPowerTextsUptoCard

/-- THE SECOND FORM's CARD OF 'laws.FnExactPowersText'. -/
def fnExactPowersTextUptoCard : Claim7 := { stood := { row := fnExactPowersTextUptoRow, standIns := [], harness := (true, "60c31f4c3118f5abf5efbe58c70108a8008a5d03c13af9d360bdb0bf28525ad3"), looks := true }, kinds := [], alts := [], laidByText := true, laidKinds := [.data, .data, .data], laidTests := true, laidLooks := .later }
def FnExactPowersTextUptoCardSaid : Prop := Claim7.holds Tryd.pinned (.plain (OpenSpec.upto fnExactPowersTextSpec)) fnExactPowersTextUptoCard

/-- THE SECOND FORM's CARD OF 'laws.FnExactReadPowers'. -/
def fnExactReadPowersUptoCard : Claim7 := { stood := { row := fnExactReadPowersUptoRow, standIns := [], harness := (true, "60c31f4c3118f5abf5efbe58c70108a8008a5d03c13af9d360bdb0bf28525ad3"), looks := true }, kinds := [], alts := [], laidByText := true, laidKinds := [.data, .data, .data, .data, .sentinel, .sentinel, .pinned], laidTests := true, laidLooks := .later }
def FnExactReadPowersUptoCardSaid : Prop := Claim7.holds Tryd.pinned (.plain (OpenSpec.upto fnExactReadPowersSpec)) fnExactReadPowersUptoCard
end Rows
end Go.Proofs.YtbhhnnnghdmhgaaDoor

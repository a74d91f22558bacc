/-
  DERIVED. GIVEN WITH THE SEED: THE CARDS: each row of YtndjefednfcmmaaGreatDoorRows.lean that lists a variable, with what it lists TIED to the program's text (the seventh form; the later family's looks); each row that meets fmt, with fmt's text TOLD by the authors' own Lean function (tested against real Go, not proved from fmt's source: count such statements apart). THE CARD IS WHAT COUNTS. Prove the row's statement (the work); the ties are given (YtndjefednfcmmaaGreatDoorTie.lean); close each card by the builder's one call (the guide's Derived/Test/ToyasCard.lean, 'card_holds'). Laid BY PROGRAM, IN A SANDBOX (cutbox-door.mjs). By AI agents, Wed Nov 11 2026. No macro, syntax, notation, axiom, sorry.
-/
import Derived.Test.YtndjefednfcmmaaGreatDoorRows
import GoSem.ClaimSeven
namespace Go.Proofs.YtndjefednfcmmaaGreatDoor
namespace Rows

/-- THE TIED CARD OF 'laws.FnDescriptionTexts'. -/
def fnDescriptionTextsCard : Claim7 := { stood := { row := fnDescriptionTextsRow, standIns := [], harness := (true, "fedcb3059337704cc5d7d3308eb35cb1446dde47c65f7bec05a2ef5e4874e891"), looks := true }, kinds := [], alts := [], laidByText := true, laidKinds := [.data, .data, .data, .sentinel, .sentinel], laidTests := true, laidLooks := .later }
def FnDescriptionTextsCardSaid : Prop := Claim7.holds Tryz.pinned (.plain (OpenSpec.ofChange fnDescriptionTextsSpec)) fnDescriptionTextsCard

/-- THE TIED CARD OF 'laws.FnExactParseDescription'. -/
def fnExactParseDescriptionCard : Claim7 := { stood := { row := fnExactParseDescriptionRow, standIns := [], harness := (true, "fedcb3059337704cc5d7d3308eb35cb1446dde47c65f7bec05a2ef5e4874e891"), looks := true }, kinds := [], alts := [], laidByText := true, laidKinds := [.data, .data, .data, .sentinel, .sentinel], laidTests := true, laidLooks := .later }
def FnExactParseDescriptionCardSaid : Prop := Claim7.holds Tryz.pinned (.plain (OpenSpec.ofChange fnExactParseDescriptionSpec)) fnExactParseDescriptionCard

/-- THE TIED CARD OF 'laws.FnExactNormalizeText'. -/
def fnExactNormalizeTextCard : Claim7 := { stood := { row := fnExactNormalizeTextRow, standIns := [], harness := (true, "fedcb3059337704cc5d7d3308eb35cb1446dde47c65f7bec05a2ef5e4874e891"), looks := true }, kinds := [], alts := [], laidByText := true, laidKinds := [.data, .data, .data, .sentinel, .sentinel], laidTests := true, laidLooks := .later }
def FnExactNormalizeTextCardSaid : Prop := Claim7.holds Tryz.pinned (.plain (OpenSpec.ofChange fnExactNormalizeTextSpec)) fnExactNormalizeTextCard

/-- THE SECOND FORM's CARD OF 'laws.FnDescriptionTexts'. -/
def fnDescriptionTextsUptoCard : Claim7 := { stood := { row := fnDescriptionTextsUptoRow, standIns := [], harness := (true, "fedcb3059337704cc5d7d3308eb35cb1446dde47c65f7bec05a2ef5e4874e891"), looks := true }, kinds := [], alts := [], laidByText := true, laidKinds := [.data, .data, .data, .sentinel, .sentinel], laidTests := true, laidLooks := .later }
def FnDescriptionTextsUptoCardSaid : Prop := Claim7.holds Tryz.pinned (.plain (OpenSpec.upto fnDescriptionTextsSpec)) fnDescriptionTextsUptoCard

/-- THE SECOND FORM's CARD OF 'laws.FnExactParseDescription'. -/
def fnExactParseDescriptionUptoCard : Claim7 := { stood := { row := fnExactParseDescriptionUptoRow, standIns := [], harness := (true, "fedcb3059337704cc5d7d3308eb35cb1446dde47c65f7bec05a2ef5e4874e891"), looks := true }, kinds := [], alts := [], laidByText := true, laidKinds := [.data, .data, .data, .sentinel, .sentinel], laidTests := true, laidLooks := .later }
def FnExactParseDescriptionUptoCardSaid : Prop := Claim7.holds Tryz.pinned (.plain (OpenSpec.upto fnExactParseDescriptionSpec)) fnExactParseDescriptionUptoCard

/-- THE SECOND FORM's CARD OF 'laws.FnExactNormalizeText'. -/
def fnExactNormalizeTextUptoCard : Claim7 := { stood := { row := fnExactNormalizeTextUptoRow, standIns := [], harness := (true, "fedcb3059337704cc5d7d3308eb35cb1446dde47c65f7bec05a2ef5e4874e891"), looks := true }, kinds := [], alts := [], laidByText := true, laidKinds := [.data, .data, .data, .sentinel, .sentinel], laidTests := true, laidLooks := .later }
def FnExactNormalizeTextUptoCardSaid : Prop := Claim7.holds Tryz.pinned (.plain (OpenSpec.upto fnExactNormalizeTextSpec)) fnExactNormalizeTextUptoCard
end Rows
end Go.Proofs.YtndjefednfcmmaaGreatDoor

/-
  DERIVED. GIVEN WITH THE SEED: THE CARDS: each row of YtdccjobgfjoflaaGreatDoorRows.lean that lists a variable, with what it lists TIED to the program's text (the seventh form; the later family's looks); each row that meets fmt, with fmt's text TOLD by the authors' own Lean function (tested against real Go, not proved from fmt's source: count such statements apart). THE CARD IS WHAT COUNTS. Prove the row's statement (the work); the ties are given (YtdccjobgfjoflaaGreatDoorTie.lean); close each card by the builder's one call (the guide's Derived/Test/ToyasCard.lean, 'card_holds'). Laid BY PROGRAM, IN A SANDBOX (cutbox-door.mjs). By AI agents, Wed Nov 11 2026. No macro, syntax, notation, axiom, sorry.
-/
import Derived.Test.YtdccjobgfjoflaaGreatDoorRows
import GoSem.ClaimSeven
namespace Go.Proofs.YtdccjobgfjoflaaGreatDoor
namespace Rows

/-- THE TIED CARD OF 'laws.FnValueTexts'. -/
def fnValueTextsCard : Claim7 := { stood := { row := fnValueTextsRow, standIns := [], harness := (true, "fe2c9886d6bc5fa8f274a1cbf7a6a481927cf4ed9fc149acf3f43ce52d7727dc"), looks := true }, kinds := [], alts := [], laidByText := true, laidKinds := [.data, .data, .data], laidTests := true, laidLooks := .later }
def FnValueTextsCardSaid : Prop := Claim7.holds Tryz.pinned (.plain (OpenSpec.ofChange fnValueTextsSpec)) fnValueTextsCard

/-- THE TIED CARD OF 'laws.FnParsing'. -/
def fnParsingCard : Claim7 := { stood := { row := fnParsingRow, standIns := [], harness := (true, "fe2c9886d6bc5fa8f274a1cbf7a6a481927cf4ed9fc149acf3f43ce52d7727dc"), looks := true }, kinds := [], alts := [], laidByText := true, laidKinds := [.handle], laidTests := true, laidLooks := .later }
def FnParsingCardSaid : Prop := Claim7.holds Tryz.pinned (.plain (OpenSpec.ofChange fnParsingSpec)) fnParsingCard

/-- THE TIED CARD OF 'laws.FnErrors'. -/
def fnErrorsCard : Claim7 := { stood := { row := fnErrorsRow, standIns := [], harness := (true, "fe2c9886d6bc5fa8f274a1cbf7a6a481927cf4ed9fc149acf3f43ce52d7727dc"), looks := true }, kinds := [], alts := [], laidByText := true, laidKinds := [.data, .data, .data, .handle], laidTests := true, laidLooks := .later }
def FnErrorsCardSaid : Prop := Claim7.holds Tryz.pinned (.plain (OpenSpec.ofChange fnErrorsSpec)) fnErrorsCard

/-- THE TIED CARD OF 'laws.FnExactParseValue'. -/
def fnExactParseValueCard : Claim7 := { stood := { row := fnExactParseValueRow, standIns := [], harness := (true, "fe2c9886d6bc5fa8f274a1cbf7a6a481927cf4ed9fc149acf3f43ce52d7727dc"), looks := true }, kinds := [], alts := [], laidByText := true, laidKinds := [.data, .data, .data], laidTests := true, laidLooks := .later }
def FnExactParseValueCardSaid : Prop := Claim7.holds Tryz.pinned (.plain (OpenSpec.ofChange fnExactParseValueSpec)) fnExactParseValueCard

/-- THE TIED CARD OF 'laws.FnExactReadValue'. -/
def fnExactReadValueCard : Claim7 := { stood := { row := fnExactReadValueRow, standIns := [], harness := (true, "fe2c9886d6bc5fa8f274a1cbf7a6a481927cf4ed9fc149acf3f43ce52d7727dc"), looks := true }, kinds := [], alts := [], laidByText := true, laidKinds := [.handle], laidTests := true, laidLooks := .later }
def FnExactReadValueCardSaid : Prop := Claim7.holds Tryz.pinned (.plain (OpenSpec.ofChange fnExactReadValueSpec)) fnExactReadValueCard

/-- THE TIED CARD OF 'laws.FnExactReadFile'. -/
def fnExactReadFileCard : Claim7 := { stood := { row := fnExactReadFileRow, standIns := [], harness := (true, "fe2c9886d6bc5fa8f274a1cbf7a6a481927cf4ed9fc149acf3f43ce52d7727dc"), looks := true }, kinds := [], alts := [], laidByText := true, laidKinds := [.handle], laidTests := true, laidLooks := .later }
def FnExactReadFileCardSaid : Prop := Claim7.holds Tryz.pinned (.plain (OpenSpec.ofChange fnExactReadFileSpec)) fnExactReadFileCard

/-- THE TIED CARD OF 'laws.FnExactIsFileOf'. -/
def fnExactIsFileOfCard : Claim7 := { stood := { row := fnExactIsFileOfRow, standIns := [], harness := (true, "fe2c9886d6bc5fa8f274a1cbf7a6a481927cf4ed9fc149acf3f43ce52d7727dc"), looks := true }, kinds := [], alts := [], laidByText := true, laidKinds := [.handle], laidTests := true, laidLooks := .later }
def FnExactIsFileOfCardSaid : Prop := Claim7.holds Tryz.pinned (.plain (OpenSpec.ofChange fnExactIsFileOfSpec)) fnExactIsFileOfCard

/-- THE SECOND FORM's CARD OF 'laws.FnValueTexts'. -/
def fnValueTextsUptoCard : Claim7 := { stood := { row := fnValueTextsUptoRow, standIns := [], harness := (true, "fe2c9886d6bc5fa8f274a1cbf7a6a481927cf4ed9fc149acf3f43ce52d7727dc"), looks := true }, kinds := [], alts := [], laidByText := true, laidKinds := [.data, .data, .data], laidTests := true, laidLooks := .later }
def FnValueTextsUptoCardSaid : Prop := Claim7.holds Tryz.pinned (.plain (OpenSpec.upto fnValueTextsSpec)) fnValueTextsUptoCard

/-- THE SECOND FORM's CARD OF 'laws.FnParsing'. -/
def fnParsingUptoCard : Claim7 := { stood := { row := fnParsingUptoRow, standIns := [], harness := (true, "fe2c9886d6bc5fa8f274a1cbf7a6a481927cf4ed9fc149acf3f43ce52d7727dc"), looks := true }, kinds := [], alts := [], laidByText := true, laidKinds := [.handle], laidTests := true, laidLooks := .later }
def FnParsingUptoCardSaid : Prop := Claim7.holds Tryz.pinned (.plain (OpenSpec.upto fnParsingSpec)) fnParsingUptoCard

/-- THE SECOND FORM's CARD OF 'laws.FnErrors'. -/
def fnErrorsUptoCard : Claim7 := { stood := { row := fnErrorsUptoRow, standIns := [], harness := (true, "fe2c9886d6bc5fa8f274a1cbf7a6a481927cf4ed9fc149acf3f43ce52d7727dc"), looks := true }, kinds := [], alts := [], laidByText := true, laidKinds := [.data, .data, .data, .handle], laidTests := true, laidLooks := .later }
def FnErrorsUptoCardSaid : Prop := Claim7.holds Tryz.pinned (.plain (OpenSpec.upto fnErrorsSpec)) fnErrorsUptoCard

/-- THE SECOND FORM's CARD OF 'laws.FnExactParseValue'. -/
def fnExactParseValueUptoCard : Claim7 := { stood := { row := fnExactParseValueUptoRow, standIns := [], harness := (true, "fe2c9886d6bc5fa8f274a1cbf7a6a481927cf4ed9fc149acf3f43ce52d7727dc"), looks := true }, kinds := [], alts := [], laidByText := true, laidKinds := [.data, .data, .data], laidTests := true, laidLooks := .later }
def FnExactParseValueUptoCardSaid : Prop := Claim7.holds Tryz.pinned (.plain (OpenSpec.upto fnExactParseValueSpec)) fnExactParseValueUptoCard

/-- THE SECOND FORM's CARD OF 'laws.FnExactReadValue'. -/
def fnExactReadValueUptoCard : Claim7 := { stood := { row := fnExactReadValueUptoRow, standIns := [], harness := (true, "fe2c9886d6bc5fa8f274a1cbf7a6a481927cf4ed9fc149acf3f43ce52d7727dc"), looks := true }, kinds := [], alts := [], laidByText := true, laidKinds := [.handle], laidTests := true, laidLooks := .later }
def FnExactReadValueUptoCardSaid : Prop := Claim7.holds Tryz.pinned (.plain (OpenSpec.upto fnExactReadValueSpec)) fnExactReadValueUptoCard

/-- THE SECOND FORM's CARD OF 'laws.FnExactReadFile'. -/
def fnExactReadFileUptoCard : Claim7 := { stood := { row := fnExactReadFileUptoRow, standIns := [], harness := (true, "fe2c9886d6bc5fa8f274a1cbf7a6a481927cf4ed9fc149acf3f43ce52d7727dc"), looks := true }, kinds := [], alts := [], laidByText := true, laidKinds := [.handle], laidTests := true, laidLooks := .later }
def FnExactReadFileUptoCardSaid : Prop := Claim7.holds Tryz.pinned (.plain (OpenSpec.upto fnExactReadFileSpec)) fnExactReadFileUptoCard

/-- THE SECOND FORM's CARD OF 'laws.FnExactIsFileOf'. -/
def fnExactIsFileOfUptoCard : Claim7 := { stood := { row := fnExactIsFileOfUptoRow, standIns := [], harness := (true, "fe2c9886d6bc5fa8f274a1cbf7a6a481927cf4ed9fc149acf3f43ce52d7727dc"), looks := true }, kinds := [], alts := [], laidByText := true, laidKinds := [.handle], laidTests := true, laidLooks := .later }
def FnExactIsFileOfUptoCardSaid : Prop := Claim7.holds Tryz.pinned (.plain (OpenSpec.upto fnExactIsFileOfSpec)) fnExactIsFileOfUptoCard
end Rows
end Go.Proofs.YtdccjobgfjoflaaGreatDoor

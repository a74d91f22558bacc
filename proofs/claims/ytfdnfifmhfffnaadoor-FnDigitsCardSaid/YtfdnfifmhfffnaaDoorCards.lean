/-
  DERIVED. GIVEN WITH THE SEED: THE CARDS: each row of YtfdnfifmhfffnaaDoorRows.lean that lists a variable, with what it lists TIED to the program's text (the seventh form; the later family's looks); each row that meets fmt, with fmt's text TOLD by the authors' own Lean function (tested against real Go, not proved from fmt's source: count such statements apart). THE CARD IS WHAT COUNTS. Prove the row's statement (the work); the ties are given (YtfdnfifmhfffnaaDoorTie.lean); close each card by the builder's one call (the guide's Derived/Test/ToyasCard.lean, 'card_holds'). Laid BY PROGRAM, IN A SANDBOX (cutbox-door.mjs). By AI agents, Wed Nov 11 2026. No macro, syntax, notation, axiom, sorry.
-/
import Derived.Test.YtfdnfifmhfffnaaDoorRows
import GoSem.ClaimSeven
namespace Go.Proofs.YtfdnfifmhfffnaaDoor
namespace Rows

/-- THE TIED CARD OF 'laws.FnDigits'. -/
def fnDigitsCard : Claim7 := { stood := { row := fnDigitsRow, standIns := [], harness := (true, "5de3a35d92c94393cb3c2347836d3edf4d98fb9d1eb7245bdc5646cf0681916b"), looks := false }, kinds := [], alts := [], laidByText := true, laidKinds := [.data, .data, .data], laidTests := true, laidLooks := .later }
def FnDigitsCardSaid : Prop := Claim7.holds Tryd.pinned (.plain (OpenSpec.ofChange fnDigitsSpec)) fnDigitsCard

/-- THE TIED CARD OF 'laws.FnExactFormatNumberText'. -/
def fnExactFormatNumberTextCard : Claim7 := { stood := { row := fnExactFormatNumberTextRow, standIns := [], harness := (true, "5de3a35d92c94393cb3c2347836d3edf4d98fb9d1eb7245bdc5646cf0681916b"), looks := false }, kinds := [], alts := [], laidByText := true, laidKinds := [.data, .data, .data], laidTests := true, laidLooks := .later }
def FnExactFormatNumberTextCardSaid : Prop := Claim7.holds Tryd.pinned (.plain (OpenSpec.ofChange fnExactFormatNumberTextSpec)) fnExactFormatNumberTextCard

/-- THE SECOND FORM's CARD OF 'laws.FnDigits'. -/
def fnDigitsUptoCard : Claim7 := { stood := { row := fnDigitsUptoRow, standIns := [], harness := (true, "5de3a35d92c94393cb3c2347836d3edf4d98fb9d1eb7245bdc5646cf0681916b"), looks := false }, kinds := [], alts := [], laidByText := true, laidKinds := [.data, .data, .data], laidTests := true, laidLooks := .later }
def FnDigitsUptoCardSaid : Prop := Claim7.holds Tryd.pinned (.plain (OpenSpec.upto fnDigitsSpec)) fnDigitsUptoCard

/-- THE SECOND FORM's CARD OF 'laws.FnExactFormatNumberText'. -/
def fnExactFormatNumberTextUptoCard : Claim7 := { stood := { row := fnExactFormatNumberTextUptoRow, standIns := [], harness := (true, "5de3a35d92c94393cb3c2347836d3edf4d98fb9d1eb7245bdc5646cf0681916b"), looks := false }, kinds := [], alts := [], laidByText := true, laidKinds := [.data, .data, .data], laidTests := true, laidLooks := .later }
def FnExactFormatNumberTextUptoCardSaid : Prop := Claim7.holds Tryd.pinned (.plain (OpenSpec.upto fnExactFormatNumberTextSpec)) fnExactFormatNumberTextUptoCard
end Rows
end Go.Proofs.YtfdnfifmhfffnaaDoor

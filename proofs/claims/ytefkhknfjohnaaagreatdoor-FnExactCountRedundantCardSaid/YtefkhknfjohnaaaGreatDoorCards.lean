/-
  DERIVED. GIVEN WITH THE SEED: THE CARDS: each row of YtefkhknfjohnaaaGreatDoorRows.lean that lists a variable, with what it lists TIED to the program's text (the seventh form; the later family's looks); each row that meets fmt, with fmt's text TOLD by the authors' own Lean function (tested against real Go, not proved from fmt's source: count such statements apart). THE CARD IS WHAT COUNTS. Prove the row's statement (the work); the ties are given (YtefkhknfjohnaaaGreatDoorTie.lean); close each card by the builder's one call (the guide's Derived/Test/ToyasCard.lean, 'card_holds'). Laid BY PROGRAM, IN A SANDBOX (cutbox-door.mjs). By AI agents, Wed Nov 11 2026. No macro, syntax, notation, axiom, sorry.
-/
import Derived.Test.YtefkhknfjohnaaaGreatDoorRows
import GoSem.ClaimSeven
namespace Go.Proofs.YtefkhknfjohnaaaGreatDoor
namespace Rows

/-- THE TIED CARD OF 'laws.FnCanonical'. -/
def fnCanonicalCard : Claim7 := { stood := { row := fnCanonicalRow, standIns := [], harness := (true, "7373a0edf4253d73180ad828f913d3fee570062e195f983f64ed30b3afc058f9"), looks := true }, kinds := [], alts := [], laidByText := true, laidKinds := [.handle], laidTests := true, laidLooks := .later }
def FnCanonicalCardSaid : Prop := Claim7.holds Tryz.pinned (.plain (OpenSpec.ofChange fnCanonicalSpec)) fnCanonicalCard

/-- THE TIED CARD OF 'laws.FnExactCanonicalFile'. -/
def fnExactCanonicalFileCard : Claim7 := { stood := { row := fnExactCanonicalFileRow, standIns := [], harness := (true, "7373a0edf4253d73180ad828f913d3fee570062e195f983f64ed30b3afc058f9"), looks := true }, kinds := [], alts := [], laidByText := true, laidKinds := [.handle], laidTests := true, laidLooks := .later }
def FnExactCanonicalFileCardSaid : Prop := Claim7.holds Tryz.pinned (.plain (OpenSpec.ofChange fnExactCanonicalFileSpec)) fnExactCanonicalFileCard

/-- THE TIED CARD OF 'laws.FnExactIsCanonical'. -/
def fnExactIsCanonicalCard : Claim7 := { stood := { row := fnExactIsCanonicalRow, standIns := [], harness := (true, "7373a0edf4253d73180ad828f913d3fee570062e195f983f64ed30b3afc058f9"), looks := true }, kinds := [], alts := [], laidByText := true, laidKinds := [.handle], laidTests := true, laidLooks := .later }
def FnExactIsCanonicalCardSaid : Prop := Claim7.holds Tryz.pinned (.plain (OpenSpec.ofChange fnExactIsCanonicalSpec)) fnExactIsCanonicalCard

/-- THE TIED CARD OF 'laws.FnExactSameFile'. -/
def fnExactSameFileCard : Claim7 := { stood := { row := fnExactSameFileRow, standIns := [], harness := (true, "7373a0edf4253d73180ad828f913d3fee570062e195f983f64ed30b3afc058f9"), looks := true }, kinds := [], alts := [], laidByText := true, laidKinds := [.handle], laidTests := true, laidLooks := .later }
def FnExactSameFileCardSaid : Prop := Claim7.holds Tryz.pinned (.plain (OpenSpec.ofChange fnExactSameFileSpec)) fnExactSameFileCard

/-- THE TIED CARD OF 'laws.FnExactCountRedundant'. -/
def fnExactCountRedundantCard : Claim7 := { stood := { row := fnExactCountRedundantRow, standIns := [], harness := (true, "7373a0edf4253d73180ad828f913d3fee570062e195f983f64ed30b3afc058f9"), looks := true }, kinds := [], alts := [], laidByText := true, laidKinds := [.handle], laidTests := true, laidLooks := .later }
def FnExactCountRedundantCardSaid : Prop := Claim7.holds Tryz.pinned (.plain (OpenSpec.ofChange fnExactCountRedundantSpec)) fnExactCountRedundantCard

/-- THE TIED CARD OF 'laws.FnExactParseValue'. -/
def fnExactParseValueCard : Claim7 := { stood := { row := fnExactParseValueRow, standIns := [], harness := (true, "7373a0edf4253d73180ad828f913d3fee570062e195f983f64ed30b3afc058f9"), looks := true }, kinds := [], alts := [], laidByText := true, laidKinds := [.data, .data, .data], laidTests := true, laidLooks := .later }
def FnExactParseValueCardSaid : Prop := Claim7.holds Tryz.pinned (.plain (OpenSpec.ofChange fnExactParseValueSpec)) fnExactParseValueCard

/-- THE TIED CARD OF 'laws.FnValueTexts'. -/
def fnValueTextsCard : Claim7 := { stood := { row := fnValueTextsRow, standIns := [], harness := (true, "7373a0edf4253d73180ad828f913d3fee570062e195f983f64ed30b3afc058f9"), looks := true }, kinds := [], alts := [], laidByText := true, laidKinds := [.data, .data, .data], laidTests := true, laidLooks := .later }
def FnValueTextsCardSaid : Prop := Claim7.holds Tryz.pinned (.plain (OpenSpec.ofChange fnValueTextsSpec)) fnValueTextsCard

/-- THE SECOND FORM's CARD OF 'laws.FnCanonical'. -/
def fnCanonicalUptoCard : Claim7 := { stood := { row := fnCanonicalUptoRow, standIns := [], harness := (true, "7373a0edf4253d73180ad828f913d3fee570062e195f983f64ed30b3afc058f9"), looks := true }, kinds := [], alts := [], laidByText := true, laidKinds := [.handle], laidTests := true, laidLooks := .later }
def FnCanonicalUptoCardSaid : Prop := Claim7.holds Tryz.pinned (.plain (OpenSpec.upto fnCanonicalSpec)) fnCanonicalUptoCard

/-- THE SECOND FORM's CARD OF 'laws.FnExactCanonicalFile'. -/
def fnExactCanonicalFileUptoCard : Claim7 := { stood := { row := fnExactCanonicalFileUptoRow, standIns := [], harness := (true, "7373a0edf4253d73180ad828f913d3fee570062e195f983f64ed30b3afc058f9"), looks := true }, kinds := [], alts := [], laidByText := true, laidKinds := [.handle], laidTests := true, laidLooks := .later }
def FnExactCanonicalFileUptoCardSaid : Prop := Claim7.holds Tryz.pinned (.plain (OpenSpec.upto fnExactCanonicalFileSpec)) fnExactCanonicalFileUptoCard

/-- THE SECOND FORM's CARD OF 'laws.FnExactIsCanonical'. -/
def fnExactIsCanonicalUptoCard : Claim7 := { stood := { row := fnExactIsCanonicalUptoRow, standIns := [], harness := (true, "7373a0edf4253d73180ad828f913d3fee570062e195f983f64ed30b3afc058f9"), looks := true }, kinds := [], alts := [], laidByText := true, laidKinds := [.handle], laidTests := true, laidLooks := .later }
def FnExactIsCanonicalUptoCardSaid : Prop := Claim7.holds Tryz.pinned (.plain (OpenSpec.upto fnExactIsCanonicalSpec)) fnExactIsCanonicalUptoCard

/-- THE SECOND FORM's CARD OF 'laws.FnExactSameFile'. -/
def fnExactSameFileUptoCard : Claim7 := { stood := { row := fnExactSameFileUptoRow, standIns := [], harness := (true, "7373a0edf4253d73180ad828f913d3fee570062e195f983f64ed30b3afc058f9"), looks := true }, kinds := [], alts := [], laidByText := true, laidKinds := [.handle], laidTests := true, laidLooks := .later }
def FnExactSameFileUptoCardSaid : Prop := Claim7.holds Tryz.pinned (.plain (OpenSpec.upto fnExactSameFileSpec)) fnExactSameFileUptoCard

/-- THE SECOND FORM's CARD OF 'laws.FnExactCountRedundant'. -/
def fnExactCountRedundantUptoCard : Claim7 := { stood := { row := fnExactCountRedundantUptoRow, standIns := [], harness := (true, "7373a0edf4253d73180ad828f913d3fee570062e195f983f64ed30b3afc058f9"), looks := true }, kinds := [], alts := [], laidByText := true, laidKinds := [.handle], laidTests := true, laidLooks := .later }
def FnExactCountRedundantUptoCardSaid : Prop := Claim7.holds Tryz.pinned (.plain (OpenSpec.upto fnExactCountRedundantSpec)) fnExactCountRedundantUptoCard

/-- THE SECOND FORM's CARD OF 'laws.FnExactParseValue'. -/
def fnExactParseValueUptoCard : Claim7 := { stood := { row := fnExactParseValueUptoRow, standIns := [], harness := (true, "7373a0edf4253d73180ad828f913d3fee570062e195f983f64ed30b3afc058f9"), looks := true }, kinds := [], alts := [], laidByText := true, laidKinds := [.data, .data, .data], laidTests := true, laidLooks := .later }
def FnExactParseValueUptoCardSaid : Prop := Claim7.holds Tryz.pinned (.plain (OpenSpec.upto fnExactParseValueSpec)) fnExactParseValueUptoCard

/-- THE SECOND FORM's CARD OF 'laws.FnValueTexts'. -/
def fnValueTextsUptoCard : Claim7 := { stood := { row := fnValueTextsUptoRow, standIns := [], harness := (true, "7373a0edf4253d73180ad828f913d3fee570062e195f983f64ed30b3afc058f9"), looks := true }, kinds := [], alts := [], laidByText := true, laidKinds := [.data, .data, .data], laidTests := true, laidLooks := .later }
def FnValueTextsUptoCardSaid : Prop := Claim7.holds Tryz.pinned (.plain (OpenSpec.upto fnValueTextsSpec)) fnValueTextsUptoCard
end Rows
end Go.Proofs.YtefkhknfjohnaaaGreatDoor

/-
  DERIVED. GIVEN WITH THE SEED: THE CARDS: each row of YtkegjgfggijinaaGreatDoorRows.lean that lists a variable, with what it lists TIED to the program's text (the seventh form; the later family's looks); each row that meets fmt, with fmt's text TOLD by the authors' own Lean function (tested against real Go, not proved from fmt's source: count such statements apart). THE CARD IS WHAT COUNTS. Prove the row's statement (the work); the ties are given (YtkegjgfggijinaaGreatDoorTie.lean); close each card by the builder's one call (the guide's Derived/Test/ToyasCard.lean, 'card_holds'). Laid BY PROGRAM, IN A SANDBOX (cutbox-door.mjs). By AI agents, Wed Nov 11 2026. No macro, syntax, notation, axiom, sorry.
-/
import Derived.Test.YtkegjgfggijinaaGreatDoorRows
import GoSem.ClaimSeven
namespace Go.Proofs.YtkegjgfggijinaaGreatDoor
namespace Rows

/-- THE TIED CARD OF 'laws.FnDescriptionTexts'. -/
def fnDescriptionTextsCard : Claim7 := { stood := { row := fnDescriptionTextsRow, standIns := [], harness := (true, "0be616d7f9227e8d6d4e8d986eba573a5687e58c062b1512603bbce55f364158"), looks := true }, kinds := [], alts := [], laidByText := true, laidKinds := [.data, .data, .data, .sentinel, .sentinel], laidTests := true, laidLooks := .later }
def FnDescriptionTextsCardSaid : Prop := Claim7.holds Tryz.pinned (.plain (OpenSpec.ofChange fnDescriptionTextsSpec)) fnDescriptionTextsCard

/-- THE TIED CARD OF 'laws.FnRuleLines'. -/
def fnRuleLinesCard : Claim7 := { stood := { row := fnRuleLinesRow, standIns := [], harness := (true, "0be616d7f9227e8d6d4e8d986eba573a5687e58c062b1512603bbce55f364158"), looks := true }, kinds := [], alts := [], laidByText := true, laidKinds := [.data, .data, .data, .sentinel, .sentinel], laidTests := true, laidLooks := .later }
def FnRuleLinesCardSaid : Prop := Claim7.holds Tryz.pinned (.plain (OpenSpec.ofChange fnRuleLinesSpec)) fnRuleLinesCard

/-- THE TIED CARD OF 'laws.FnExactParseRule'. -/
def fnExactParseRuleCard : Claim7 := { stood := { row := fnExactParseRuleRow, standIns := [], harness := (true, "0be616d7f9227e8d6d4e8d986eba573a5687e58c062b1512603bbce55f364158"), looks := true }, kinds := [], alts := [], laidByText := true, laidKinds := [.data, .data, .data, .sentinel, .sentinel], laidTests := true, laidLooks := .later }
def FnExactParseRuleCardSaid : Prop := Claim7.holds Tryz.pinned (.plain (OpenSpec.ofChange fnExactParseRuleSpec)) fnExactParseRuleCard

/-- THE TIED CARD OF 'laws.FnExactAddRule'. -/
def fnExactAddRuleCard : Claim7 := { stood := { row := fnExactAddRuleRow, standIns := [], harness := (true, "0be616d7f9227e8d6d4e8d986eba573a5687e58c062b1512603bbce55f364158"), looks := true }, kinds := [], alts := [], laidByText := true, laidKinds := [.data, .data, .data, .sentinel, .sentinel], laidTests := true, laidLooks := .later }
def FnExactAddRuleCardSaid : Prop := Claim7.holds Tryz.pinned (.plain (OpenSpec.ofChange fnExactAddRuleSpec)) fnExactAddRuleCard

/-- THE TIED CARD OF 'laws.FnExactParseDescription'. -/
def fnExactParseDescriptionCard : Claim7 := { stood := { row := fnExactParseDescriptionRow, standIns := [], harness := (true, "0be616d7f9227e8d6d4e8d986eba573a5687e58c062b1512603bbce55f364158"), looks := true }, kinds := [], alts := [], laidByText := true, laidKinds := [.data, .data, .data, .sentinel, .sentinel], laidTests := true, laidLooks := .later }
def FnExactParseDescriptionCardSaid : Prop := Claim7.holds Tryz.pinned (.plain (OpenSpec.ofChange fnExactParseDescriptionSpec)) fnExactParseDescriptionCard

/-- THE TIED CARD OF 'laws.FnExactNormalizeText'. -/
def fnExactNormalizeTextCard : Claim7 := { stood := { row := fnExactNormalizeTextRow, standIns := [], harness := (true, "0be616d7f9227e8d6d4e8d986eba573a5687e58c062b1512603bbce55f364158"), looks := true }, kinds := [], alts := [], laidByText := true, laidKinds := [.data, .data, .data, .sentinel, .sentinel], laidTests := true, laidLooks := .later }
def FnExactNormalizeTextCardSaid : Prop := Claim7.holds Tryz.pinned (.plain (OpenSpec.ofChange fnExactNormalizeTextSpec)) fnExactNormalizeTextCard

/-- THE SECOND FORM's CARD OF 'laws.FnDescriptionTexts'. -/
def fnDescriptionTextsUptoCard : Claim7 := { stood := { row := fnDescriptionTextsUptoRow, standIns := [], harness := (true, "0be616d7f9227e8d6d4e8d986eba573a5687e58c062b1512603bbce55f364158"), looks := true }, kinds := [], alts := [], laidByText := true, laidKinds := [.data, .data, .data, .sentinel, .sentinel], laidTests := true, laidLooks := .later }
def FnDescriptionTextsUptoCardSaid : Prop := Claim7.holds Tryz.pinned (.plain (OpenSpec.upto fnDescriptionTextsSpec)) fnDescriptionTextsUptoCard

/-- THE SECOND FORM's CARD OF 'laws.FnRuleLines'. -/
def fnRuleLinesUptoCard : Claim7 := { stood := { row := fnRuleLinesUptoRow, standIns := [], harness := (true, "0be616d7f9227e8d6d4e8d986eba573a5687e58c062b1512603bbce55f364158"), looks := true }, kinds := [], alts := [], laidByText := true, laidKinds := [.data, .data, .data, .sentinel, .sentinel], laidTests := true, laidLooks := .later }
def FnRuleLinesUptoCardSaid : Prop := Claim7.holds Tryz.pinned (.plain (OpenSpec.upto fnRuleLinesSpec)) fnRuleLinesUptoCard

/-- THE SECOND FORM's CARD OF 'laws.FnExactParseRule'. -/
def fnExactParseRuleUptoCard : Claim7 := { stood := { row := fnExactParseRuleUptoRow, standIns := [], harness := (true, "0be616d7f9227e8d6d4e8d986eba573a5687e58c062b1512603bbce55f364158"), looks := true }, kinds := [], alts := [], laidByText := true, laidKinds := [.data, .data, .data, .sentinel, .sentinel], laidTests := true, laidLooks := .later }
def FnExactParseRuleUptoCardSaid : Prop := Claim7.holds Tryz.pinned (.plain (OpenSpec.upto fnExactParseRuleSpec)) fnExactParseRuleUptoCard

/-- THE SECOND FORM's CARD OF 'laws.FnExactAddRule'. -/
def fnExactAddRuleUptoCard : Claim7 := { stood := { row := fnExactAddRuleUptoRow, standIns := [], harness := (true, "0be616d7f9227e8d6d4e8d986eba573a5687e58c062b1512603bbce55f364158"), looks := true }, kinds := [], alts := [], laidByText := true, laidKinds := [.data, .data, .data, .sentinel, .sentinel], laidTests := true, laidLooks := .later }
def FnExactAddRuleUptoCardSaid : Prop := Claim7.holds Tryz.pinned (.plain (OpenSpec.upto fnExactAddRuleSpec)) fnExactAddRuleUptoCard

/-- THE SECOND FORM's CARD OF 'laws.FnExactParseDescription'. -/
def fnExactParseDescriptionUptoCard : Claim7 := { stood := { row := fnExactParseDescriptionUptoRow, standIns := [], harness := (true, "0be616d7f9227e8d6d4e8d986eba573a5687e58c062b1512603bbce55f364158"), looks := true }, kinds := [], alts := [], laidByText := true, laidKinds := [.data, .data, .data, .sentinel, .sentinel], laidTests := true, laidLooks := .later }
def FnExactParseDescriptionUptoCardSaid : Prop := Claim7.holds Tryz.pinned (.plain (OpenSpec.upto fnExactParseDescriptionSpec)) fnExactParseDescriptionUptoCard

/-- THE SECOND FORM's CARD OF 'laws.FnExactNormalizeText'. -/
def fnExactNormalizeTextUptoCard : Claim7 := { stood := { row := fnExactNormalizeTextUptoRow, standIns := [], harness := (true, "0be616d7f9227e8d6d4e8d986eba573a5687e58c062b1512603bbce55f364158"), looks := true }, kinds := [], alts := [], laidByText := true, laidKinds := [.data, .data, .data, .sentinel, .sentinel], laidTests := true, laidLooks := .later }
def FnExactNormalizeTextUptoCardSaid : Prop := Claim7.holds Tryz.pinned (.plain (OpenSpec.upto fnExactNormalizeTextSpec)) fnExactNormalizeTextUptoCard
end Rows
end Go.Proofs.YtkegjgfggijinaaGreatDoor

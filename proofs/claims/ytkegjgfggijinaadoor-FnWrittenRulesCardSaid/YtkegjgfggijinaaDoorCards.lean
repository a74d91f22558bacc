/-
  DERIVED. GIVEN WITH THE SEED: THE CARDS: each row of YtkegjgfggijinaaDoorRows.lean that lists a variable, with what it lists TIED to the program's text (the seventh form; the later family's looks); each row that meets fmt, with fmt's text TOLD by the authors' own Lean function (tested against real Go, not proved from fmt's source: count such statements apart). THE CARD IS WHAT COUNTS. Prove the row's statement (the work); the ties are given (YtkegjgfggijinaaDoorTie.lean); close each card by the builder's one call (the guide's Derived/Test/ToyasCard.lean, 'card_holds'). Laid BY PROGRAM, IN A SANDBOX (cutbox-door.mjs). By AI agents, Wed Nov 11 2026. No macro, syntax, notation, axiom, sorry.
-/
import Derived.Test.YtkegjgfggijinaaDoorRows
import GoSem.ClaimSeven
namespace Go.Proofs.YtkegjgfggijinaaDoor
namespace Rows

/-- THE TIED CARD OF 'laws.FnWrittenRules'. -/
def fnWrittenRulesCard : Claim7 := { stood := { row := fnWrittenRulesRow, standIns := [], harness := (true, "d68c50b50c9a59deb7d228a4e2d55237afd3756de40a72fc5b93ddcd1bafda0a"), looks := false }, kinds := [], alts := [], laidByText := true, laidKinds := [.data, .data, .data], laidTests := true, laidLooks := .later }
def FnWrittenRulesCardSaid : Prop := Claim7.holds Tryd.pinned (.plain (OpenSpec.ofChange fnWrittenRulesSpec)) fnWrittenRulesCard

/-- THE SECOND FORM's CARD OF 'laws.FnWrittenRules'. -/
def fnWrittenRulesUptoCard : Claim7 := { stood := { row := fnWrittenRulesUptoRow, standIns := [], harness := (true, "d68c50b50c9a59deb7d228a4e2d55237afd3756de40a72fc5b93ddcd1bafda0a"), looks := false }, kinds := [], alts := [], laidByText := true, laidKinds := [.data, .data, .data], laidTests := true, laidLooks := .later }
def FnWrittenRulesUptoCardSaid : Prop := Claim7.holds Tryd.pinned (.plain (OpenSpec.upto fnWrittenRulesSpec)) fnWrittenRulesUptoCard
end Rows
end Go.Proofs.YtkegjgfggijinaaDoor

/-
  DERIVED. GIVEN WITH THE SEED: THE CARDS: each row of YtikpbeealeofaaaDoorRows.lean that lists a variable, with what it lists TIED to the program's text (the seventh form; the later family's looks); each row that meets fmt, with fmt's text TOLD by the authors' own Lean function (tested against real Go, not proved from fmt's source: count such statements apart). THE CARD IS WHAT COUNTS. Prove the row's statement (the work); the ties are given (YtikpbeealeofaaaDoorTie.lean); close each card by the builder's one call (the guide's Derived/Test/ToyasCard.lean, 'card_holds'). Laid BY PROGRAM, IN A SANDBOX (cutbox-door.mjs). By AI agents, Wed Nov 11 2026. No macro, syntax, notation, axiom, sorry.
-/
import Derived.Test.YtikpbeealeofaaaDoorRows
import GoSem.ClaimSeven
namespace Go.Proofs.YtikpbeealeofaaaDoor
namespace Rows

/-- THE TIED CARD OF 'laws.FnExactDescribeError'. -/
def fnExactDescribeErrorCard : Claim7 := { stood := { row := fnExactDescribeErrorRow, standIns := [], harness := (true, "de24cb9686f16688aa539039f7887b6ba7d52da644a6ccd88d2318b3a8aabb36"), looks := false }, kinds := [], alts := [], laidByText := true, laidKinds := [.data, .data, .data], laidTests := true, laidLooks := .later }
def FnExactDescribeErrorCardSaid : Prop := Claim7.holds Tryd.pinned (.plain (OpenSpec.ofChange fnExactDescribeErrorSpec)) fnExactDescribeErrorCard

/-- THE SECOND FORM's CARD OF 'laws.FnExactDescribeError'. -/
def fnExactDescribeErrorUptoCard : Claim7 := { stood := { row := fnExactDescribeErrorUptoRow, standIns := [], harness := (true, "de24cb9686f16688aa539039f7887b6ba7d52da644a6ccd88d2318b3a8aabb36"), looks := false }, kinds := [], alts := [], laidByText := true, laidKinds := [.data, .data, .data], laidTests := true, laidLooks := .later }
def FnExactDescribeErrorUptoCardSaid : Prop := Claim7.holds Tryd.pinned (.plain (OpenSpec.upto fnExactDescribeErrorSpec)) fnExactDescribeErrorUptoCard
end Rows
end Go.Proofs.YtikpbeealeofaaaDoor

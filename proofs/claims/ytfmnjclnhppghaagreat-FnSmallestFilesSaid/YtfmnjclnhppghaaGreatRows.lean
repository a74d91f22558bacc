/-
  NARROWER THAN 'FOR EVERY INPUT', by the rows' own cells (each row's printed sentence says how): FnExactPrintFile: loops.
  DERIVED. THE GIVEN ROWS OF THIS SEAT. 4 by the template 'for every input the law returns true; each argument reads behind the call as it read before'; 0 by the template 'total and deterministic' (their statements: YtfmnjclnhppghaaGreatTotals.lean).
  GIVEN WITH THE SEED: the statements are not yours to turn. If you find one false, say at which input.
  Laid BY PROGRAM, IN A SANDBOX (cutbox-rows.mjs): the forced cells as the released guide's own fill.sh prints them over the translation 433c171d274ed5fb… (all of the seat's roots in one cut). By AI agents, Wed Nov 11 2026. No macro, syntax, notation, axiom, sorry.
-/
import Derived.Test.YtfmnjclnhppghaaGreatChecked
import GoSem.Claim
import GoSem.ClaimJoined
import GoSem.ClaimMapViews
import Derived.JoinedTies
import Derived.KernelRfl
namespace Go.Proofs.YtfmnjclnhppghaaGreat
/- THE CELL 'sum', in the pinned program and in every row, IS THE sha256 OF THE DUMP (.gsa) THAT YtfmnjclnhppghaaGreatProg.lean LOADS. Nothing in Lean hashes anything: it is a label: what it is worth is what the hold of that sum in a sandbox is worth. -/
noncomputable def Tryz.pinned : Pinned := { name := "ytfmnjclnhppghaagreat", sum := "433c171d274ed5fbf3e5880d0bc3b7c5c9f283bb04698260ff712d9d95ca9775", checked := Tryz.checked }
namespace Rows
def none {H : Type} : Left H := { results := [], args := [] }

/-- 'laws.FnPrinting': WHATEVER THE INPUT: true; the input reads as it did. -/
def fnPrintingSpec : ChangeSpec := { name := "fnPrinting", fn := fun _ => fun
  | [d] => { results := [.lit (.bool true)], args := [d] }
  | _ => none }
def fnPrintingRow : OpenClaim := { program := "ytfmnjclnhppghaagreat", sum := "433c171d274ed5fbf3e5880d0bc3b7c5c9f283bb04698260ff712d9d95ca9775", func := "loop.example/g00518/laws.FnPrinting", spec := "fnPrinting", unfollowed := true, recurses := true, apart := false }
def FnPrintingSaid : Prop := fnPrintingRow.holds Tryz.pinned (OpenSpec.ofChange fnPrintingSpec)

/-- ITS FALSE NEIGHBOUR: 'it returns false'. Refute it at one input. -/
def fnPrintingWrong : ChangeSpec := { name := "fnPrinting", fn := fun _ => fun
  | [d] => { results := [.lit (.bool false)], args := [d] }
  | _ => none }
def FnPrintingWrongFalsely : Prop := fnPrintingRow.holds Tryz.pinned (OpenSpec.ofChange fnPrintingWrong)

/-- 'laws.FnSmallestFiles': WHATEVER THE INPUT: true; the input reads as it did. -/
def fnSmallestFilesSpec : ChangeSpec := { name := "fnSmallestFiles", fn := fun _ => fun
  | [d] => { results := [.lit (.bool true)], args := [d] }
  | _ => none }
def fnSmallestFilesRow : OpenClaim := { program := "ytfmnjclnhppghaagreat", sum := "433c171d274ed5fbf3e5880d0bc3b7c5c9f283bb04698260ff712d9d95ca9775", func := "loop.example/g00518/laws.FnSmallestFiles", spec := "fnSmallestFiles", unfollowed := true, recurses := true, apart := false }
def FnSmallestFilesSaid : Prop := fnSmallestFilesRow.holds Tryz.pinned (OpenSpec.ofChange fnSmallestFilesSpec)

/-- ITS FALSE NEIGHBOUR: 'it returns false'. Refute it at one input. -/
def fnSmallestFilesWrong : ChangeSpec := { name := "fnSmallestFiles", fn := fun _ => fun
  | [d] => { results := [.lit (.bool false)], args := [d] }
  | _ => none }
def FnSmallestFilesWrongFalsely : Prop := fnSmallestFilesRow.holds Tryz.pinned (OpenSpec.ofChange fnSmallestFilesWrong)

/-- 'laws.FnExactPrintFile': WHATEVER THE INPUT: true; the input reads as it did. -/
def fnExactPrintFileSpec : ChangeSpec := { name := "fnExactPrintFile", fn := fun _ => fun
  | [d1, d2] => { results := [.lit (.bool true)], args := [d1, d2] }
  | _ => none }
def fnExactPrintFileRow : OpenClaim := { program := "ytfmnjclnhppghaagreat", sum := "433c171d274ed5fbf3e5880d0bc3b7c5c9f283bb04698260ff712d9d95ca9775", func := "loop.example/g00518/laws.FnExactPrintFile", spec := "fnExactPrintFile", unfollowed := true, recurses := true, loops := true, apart := false }
def FnExactPrintFileSaid : Prop := fnExactPrintFileRow.holds Tryz.pinned (OpenSpec.ofChange fnExactPrintFileSpec)

/-- ITS FALSE NEIGHBOUR: 'it returns false'. Refute it at one input. -/
def fnExactPrintFileWrong : ChangeSpec := { name := "fnExactPrintFile", fn := fun _ => fun
  | [d1, d2] => { results := [.lit (.bool false)], args := [d1, d2] }
  | _ => none }
def FnExactPrintFileWrongFalsely : Prop := fnExactPrintFileRow.holds Tryz.pinned (OpenSpec.ofChange fnExactPrintFileWrong)

/-- 'laws.FnExactSmallestFile': WHATEVER THE INPUT: true; the input reads as it did. -/
def fnExactSmallestFileSpec : ChangeSpec := { name := "fnExactSmallestFile", fn := fun _ => fun
  | [d] => { results := [.lit (.bool true)], args := [d] }
  | _ => none }
def fnExactSmallestFileRow : OpenClaim := { program := "ytfmnjclnhppghaagreat", sum := "433c171d274ed5fbf3e5880d0bc3b7c5c9f283bb04698260ff712d9d95ca9775", func := "loop.example/g00518/laws.FnExactSmallestFile", spec := "fnExactSmallestFile", unfollowed := true, recurses := true, apart := false }
def FnExactSmallestFileSaid : Prop := fnExactSmallestFileRow.holds Tryz.pinned (OpenSpec.ofChange fnExactSmallestFileSpec)

/-- ITS FALSE NEIGHBOUR: 'it returns false'. Refute it at one input. -/
def fnExactSmallestFileWrong : ChangeSpec := { name := "fnExactSmallestFile", fn := fun _ => fun
  | [d] => { results := [.lit (.bool false)], args := [d] }
  | _ => none }
def FnExactSmallestFileWrongFalsely : Prop := fnExactSmallestFileRow.holds Tryz.pinned (OpenSpec.ofChange fnExactSmallestFileWrong)

/- THE SECOND FORM. 'bulk': how many values and letters a reading holds, each counted each time it is reached (what is shared counts as often as it is met; a slice's spare places count too). A statement '..UptoSaid' is the law's where the arguments, and the package variables that the reading takes, are together of bulk at most 1048576: NARROWER than '..Said'. Prove '..Said' where nothing that the law and all that it calls make is longer than what came in: it says more and counts as full. Else prove '..UptoSaid'. A law counts once. -/
mutual
def uptoBulk {H : Type} : DataW H → Nat
  | .lit (.string bytes) => bytes.length + 1
  | .lit _ => 1
  | .nil => 1
  | .ptr d => uptoBulk d + 1
  | .slice elems spare => uptoBulkAll elems + uptoBulkAll spare + 1
  | .agg parts => uptoBulkAll parts + 1
  | .iface _ d => uptoBulk d + 1
  | .map entries => uptoBulkEntries entries + 1
  | .held _ => 1
def uptoBulkAll {H : Type} : List (DataW H) → Nat
  | [] => 0
  | d :: r => uptoBulk d + uptoBulkAll r
def uptoBulkEntries {H : Type} : List (Lit × DataW H) → Nat
  | [] => 0
  | x :: r => uptoBulkEntry x + uptoBulkEntries r
def uptoBulkEntry {H : Type} : Lit × DataW H → Nat
  | (.string bytes, d) => bytes.length + uptoBulk d + 1
  | (_, d) => uptoBulk d + 1
 end
def uptoSmall : (H : Type) → List (DataW H) → Bool := fun _ ds => decide (uptoBulkAll ds ≤ 1048576)
def OpenSpec.upto (s : _root_.Go.ChangeSpec) : _root_.Go.OpenSpec := { _root_.Go.OpenSpec.ofChange s with cond := some uptoSmall }

/-- 'laws.FnPrinting', WHERE WHAT IT READS IS OF BULK AT MOST 1048576: true; the input reads as it did. -/
def fnPrintingUptoRow : OpenClaim := { program := "ytfmnjclnhppghaagreat", sum := "433c171d274ed5fbf3e5880d0bc3b7c5c9f283bb04698260ff712d9d95ca9775", func := "loop.example/g00518/laws.FnPrinting", spec := "fnPrinting", unfollowed := true, recurses := true, apart := false, narrowed := true }
def FnPrintingUptoSaid : Prop := fnPrintingUptoRow.holds Tryz.pinned (OpenSpec.upto fnPrintingSpec)

/-- 'laws.FnSmallestFiles', WHERE WHAT IT READS IS OF BULK AT MOST 1048576: true; the input reads as it did. -/
def fnSmallestFilesUptoRow : OpenClaim := { program := "ytfmnjclnhppghaagreat", sum := "433c171d274ed5fbf3e5880d0bc3b7c5c9f283bb04698260ff712d9d95ca9775", func := "loop.example/g00518/laws.FnSmallestFiles", spec := "fnSmallestFiles", unfollowed := true, recurses := true, apart := false, narrowed := true }
def FnSmallestFilesUptoSaid : Prop := fnSmallestFilesUptoRow.holds Tryz.pinned (OpenSpec.upto fnSmallestFilesSpec)

/-- 'laws.FnExactPrintFile', WHERE WHAT IT READS IS OF BULK AT MOST 1048576: true; the input reads as it did. -/
def fnExactPrintFileUptoRow : OpenClaim := { program := "ytfmnjclnhppghaagreat", sum := "433c171d274ed5fbf3e5880d0bc3b7c5c9f283bb04698260ff712d9d95ca9775", func := "loop.example/g00518/laws.FnExactPrintFile", spec := "fnExactPrintFile", unfollowed := true, recurses := true, loops := true, apart := false, narrowed := true }
def FnExactPrintFileUptoSaid : Prop := fnExactPrintFileUptoRow.holds Tryz.pinned (OpenSpec.upto fnExactPrintFileSpec)

/-- 'laws.FnExactSmallestFile', WHERE WHAT IT READS IS OF BULK AT MOST 1048576: true; the input reads as it did. -/
def fnExactSmallestFileUptoRow : OpenClaim := { program := "ytfmnjclnhppghaagreat", sum := "433c171d274ed5fbf3e5880d0bc3b7c5c9f283bb04698260ff712d9d95ca9775", func := "loop.example/g00518/laws.FnExactSmallestFile", spec := "fnExactSmallestFile", unfollowed := true, recurses := true, apart := false, narrowed := true }
def FnExactSmallestFileUptoSaid : Prop := fnExactSmallestFileUptoRow.holds Tryz.pinned (OpenSpec.upto fnExactSmallestFileSpec)

end Rows
end Go.Proofs.YtfmnjclnhppghaaGreat

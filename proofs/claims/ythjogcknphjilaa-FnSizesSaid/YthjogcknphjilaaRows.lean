/-
  No cell of these rows narrows 'for every input' (looked for: loops, veiled, ifaces, maps, wideKeys, modest, calm, conditions, laid).
  DERIVED. THE GIVEN ROWS OF THIS SEAT. 16 by the template 'for every input the law returns true; each argument reads behind the call as it read before'; 0 by the template 'total and deterministic' (their statements: YthjogcknphjilaaTotals.lean).
  GIVEN WITH THE SEED: the statements are not yours to turn. If you find one false, say at which input.
  Laid BY PROGRAM, IN A SANDBOX (cutbox-rows.mjs): the forced cells as the released guide's own fill.sh prints them over the translation 409576b007ca8a1b… (all of the seat's roots in one cut). By AI agents, Wed Nov 11 2026. No macro, syntax, notation, axiom, sorry.
-/
import Derived.Test.YthjogcknphjilaaChecked
import GoSem.Claim
import GoSem.ClaimJoined
import GoSem.ClaimMapViews
import Derived.JoinedTies
import Derived.KernelRfl
namespace Go.Proofs.Ythjogcknphjilaa
/- THE CELL 'sum', in the pinned program and in every row, IS THE sha256 OF THE DUMP (.gsa) THAT YthjogcknphjilaaProg.lean LOADS. Nothing in Lean hashes anything: it is a label: what it is worth is what the hold of that sum in a sandbox is worth. -/
noncomputable def Try.pinned : Pinned := { name := "ythjogcknphjilaa", sum := "409576b007ca8a1bdeee5112b53aad023c3c0c7f1bb027b3feca2d13b3329eb9", checked := Try.checked }
namespace Rows
def none {H : Type} : Left H := { results := [], args := [] }

/-- 'laws.FnSizes': WHATEVER THE INPUT: true; the input reads as it did. -/
def fnSizesSpec : ChangeSpec := { name := "fnSizes", fn := fun _ => fun
  | [d] => { results := [.lit (.bool true)], args := [d] }
  | _ => none }
def fnSizesRow : OpenClaim := { program := "ythjogcknphjilaa", sum := "409576b007ca8a1bdeee5112b53aad023c3c0c7f1bb027b3feca2d13b3329eb9", func := "loop.example/g00518/laws.FnSizes", spec := "fnSizes", unfollowed := true, recurses := true, apart := false }
def FnSizesSaid : Prop := fnSizesRow.holds Try.pinned (OpenSpec.ofChange fnSizesSpec)

/-- ITS FALSE NEIGHBOUR: 'it returns false'. Refute it at one input. -/
def fnSizesWrong : ChangeSpec := { name := "fnSizes", fn := fun _ => fun
  | [d] => { results := [.lit (.bool false)], args := [d] }
  | _ => none }
def FnSizesWrongFalsely : Prop := fnSizesRow.holds Try.pinned (OpenSpec.ofChange fnSizesWrong)

/-- 'laws.FnFirstBytes': WHATEVER THE INPUT: true; the input reads as it did. -/
def fnFirstBytesSpec : ChangeSpec := { name := "fnFirstBytes", fn := fun _ => fun
  | [d] => { results := [.lit (.bool true)], args := [d] }
  | _ => none }
def fnFirstBytesRow : OpenClaim := { program := "ythjogcknphjilaa", sum := "409576b007ca8a1bdeee5112b53aad023c3c0c7f1bb027b3feca2d13b3329eb9", func := "loop.example/g00518/laws.FnFirstBytes", spec := "fnFirstBytes", recurses := true, apart := false }
def FnFirstBytesSaid : Prop := fnFirstBytesRow.holds Try.pinned (OpenSpec.ofChange fnFirstBytesSpec)

/-- ITS FALSE NEIGHBOUR: 'it returns false'. Refute it at one input. -/
def fnFirstBytesWrong : ChangeSpec := { name := "fnFirstBytes", fn := fun _ => fun
  | [d] => { results := [.lit (.bool false)], args := [d] }
  | _ => none }
def FnFirstBytesWrongFalsely : Prop := fnFirstBytesRow.holds Try.pinned (OpenSpec.ofChange fnFirstBytesWrong)

/-- 'laws.FnTags': WHATEVER THE INPUT: true; the input reads as it did. -/
def fnTagsSpec : ChangeSpec := { name := "fnTags", fn := fun _ => fun
  | [d] => { results := [.lit (.bool true)], args := [d] }
  | _ => none }
def fnTagsRow : OpenClaim := { program := "ythjogcknphjilaa", sum := "409576b007ca8a1bdeee5112b53aad023c3c0c7f1bb027b3feca2d13b3329eb9", func := "loop.example/g00518/laws.FnTags", spec := "fnTags", recurses := true, apart := false }
def FnTagsSaid : Prop := fnTagsRow.holds Try.pinned (OpenSpec.ofChange fnTagsSpec)

/-- ITS FALSE NEIGHBOUR: 'it returns false'. Refute it at one input. -/
def fnTagsWrong : ChangeSpec := { name := "fnTags", fn := fun _ => fun
  | [d] => { results := [.lit (.bool false)], args := [d] }
  | _ => none }
def FnTagsWrongFalsely : Prop := fnTagsRow.holds Try.pinned (OpenSpec.ofChange fnTagsWrong)

/-- 'laws.FnExactCanStart': WHATEVER THE INPUT: true; the input reads as it did. -/
def fnExactCanStartSpec : ChangeSpec := { name := "fnExactCanStart", fn := fun _ => fun
  | [d1, d2, d3] => { results := [.lit (.bool true)], args := [d1, d2, d3] }
  | _ => none }
def fnExactCanStartRow : OpenClaim := { program := "ythjogcknphjilaa", sum := "409576b007ca8a1bdeee5112b53aad023c3c0c7f1bb027b3feca2d13b3329eb9", func := "loop.example/g00518/laws.FnExactCanStart", spec := "fnExactCanStart", recurses := true, apart := false }
def FnExactCanStartSaid : Prop := fnExactCanStartRow.holds Try.pinned (OpenSpec.ofChange fnExactCanStartSpec)

/-- ITS FALSE NEIGHBOUR: 'it returns false'. Refute it at one input. -/
def fnExactCanStartWrong : ChangeSpec := { name := "fnExactCanStart", fn := fun _ => fun
  | [d1, d2, d3] => { results := [.lit (.bool false)], args := [d1, d2, d3] }
  | _ => none }
def FnExactCanStartWrongFalsely : Prop := fnExactCanStartRow.holds Try.pinned (OpenSpec.ofChange fnExactCanStartWrong)

/-- 'laws.FnExactCountFirstBytes': WHATEVER THE INPUT: true; the input reads as it did. -/
def fnExactCountFirstBytesSpec : ChangeSpec := { name := "fnExactCountFirstBytes", fn := fun _ => fun
  | [d1, d2] => { results := [.lit (.bool true)], args := [d1, d2] }
  | _ => none }
def fnExactCountFirstBytesRow : OpenClaim := { program := "ythjogcknphjilaa", sum := "409576b007ca8a1bdeee5112b53aad023c3c0c7f1bb027b3feca2d13b3329eb9", func := "loop.example/g00518/laws.FnExactCountFirstBytes", spec := "fnExactCountFirstBytes", recurses := true, apart := false }
def FnExactCountFirstBytesSaid : Prop := fnExactCountFirstBytesRow.holds Try.pinned (OpenSpec.ofChange fnExactCountFirstBytesSpec)

/-- ITS FALSE NEIGHBOUR: 'it returns false'. Refute it at one input. -/
def fnExactCountFirstBytesWrong : ChangeSpec := { name := "fnExactCountFirstBytes", fn := fun _ => fun
  | [d1, d2] => { results := [.lit (.bool false)], args := [d1, d2] }
  | _ => none }
def FnExactCountFirstBytesWrongFalsely : Prop := fnExactCountFirstBytesRow.holds Try.pinned (OpenSpec.ofChange fnExactCountFirstBytesWrong)

/-- 'laws.FnExactCommonStart': WHATEVER THE INPUT: true; the input reads as it did. -/
def fnExactCommonStartSpec : ChangeSpec := { name := "fnExactCommonStart", fn := fun _ => fun
  | [d1, d2, d3] => { results := [.lit (.bool true)], args := [d1, d2, d3] }
  | _ => none }
def fnExactCommonStartRow : OpenClaim := { program := "ythjogcknphjilaa", sum := "409576b007ca8a1bdeee5112b53aad023c3c0c7f1bb027b3feca2d13b3329eb9", func := "loop.example/g00518/laws.FnExactCommonStart", spec := "fnExactCommonStart", recurses := true, apart := false }
def FnExactCommonStartSaid : Prop := fnExactCommonStartRow.holds Try.pinned (OpenSpec.ofChange fnExactCommonStartSpec)

/-- ITS FALSE NEIGHBOUR: 'it returns false'. Refute it at one input. -/
def fnExactCommonStartWrong : ChangeSpec := { name := "fnExactCommonStart", fn := fun _ => fun
  | [d1, d2, d3] => { results := [.lit (.bool false)], args := [d1, d2, d3] }
  | _ => none }
def FnExactCommonStartWrongFalsely : Prop := fnExactCommonStartRow.holds Try.pinned (OpenSpec.ofChange fnExactCommonStartWrong)

/-- 'laws.FnExactTagBytes': WHATEVER THE INPUT: true; the input reads as it did. -/
def fnExactTagBytesSpec : ChangeSpec := { name := "fnExactTagBytes", fn := fun _ => fun
  | [d1, d2, d3] => { results := [.lit (.bool true)], args := [d1, d2, d3] }
  | _ => none }
def fnExactTagBytesRow : OpenClaim := { program := "ythjogcknphjilaa", sum := "409576b007ca8a1bdeee5112b53aad023c3c0c7f1bb027b3feca2d13b3329eb9", func := "loop.example/g00518/laws.FnExactTagBytes", spec := "fnExactTagBytes", apart := false }
def FnExactTagBytesSaid : Prop := fnExactTagBytesRow.holds Try.pinned (OpenSpec.ofChange fnExactTagBytesSpec)

/-- ITS FALSE NEIGHBOUR: 'it returns false'. Refute it at one input. -/
def fnExactTagBytesWrong : ChangeSpec := { name := "fnExactTagBytes", fn := fun _ => fun
  | [d1, d2, d3] => { results := [.lit (.bool false)], args := [d1, d2, d3] }
  | _ => none }
def FnExactTagBytesWrongFalsely : Prop := fnExactTagBytesRow.holds Try.pinned (OpenSpec.ofChange fnExactTagBytesWrong)

/-- 'laws.FnExactOnlyStart': WHATEVER THE INPUT: true; the input reads as it did. -/
def fnExactOnlyStartSpec : ChangeSpec := { name := "fnExactOnlyStart", fn := fun _ => fun
  | [d1, d2] => { results := [.lit (.bool true)], args := [d1, d2] }
  | _ => none }
def fnExactOnlyStartRow : OpenClaim := { program := "ythjogcknphjilaa", sum := "409576b007ca8a1bdeee5112b53aad023c3c0c7f1bb027b3feca2d13b3329eb9", func := "loop.example/g00518/laws.FnExactOnlyStart", spec := "fnExactOnlyStart", recurses := true, apart := false }
def FnExactOnlyStartSaid : Prop := fnExactOnlyStartRow.holds Try.pinned (OpenSpec.ofChange fnExactOnlyStartSpec)

/-- ITS FALSE NEIGHBOUR: 'it returns false'. Refute it at one input. -/
def fnExactOnlyStartWrong : ChangeSpec := { name := "fnExactOnlyStart", fn := fun _ => fun
  | [d1, d2] => { results := [.lit (.bool false)], args := [d1, d2] }
  | _ => none }
def FnExactOnlyStartWrongFalsely : Prop := fnExactOnlyStartRow.holds Try.pinned (OpenSpec.ofChange fnExactOnlyStartWrong)

/-- 'laws.FnUsedRules': WHATEVER THE INPUT: true; the input reads as it did. -/
def fnUsedRulesSpec : ChangeSpec := { name := "fnUsedRules", fn := fun _ => fun
  | [d] => { results := [.lit (.bool true)], args := [d] }
  | _ => none }
def fnUsedRulesRow : OpenClaim := { program := "ythjogcknphjilaa", sum := "409576b007ca8a1bdeee5112b53aad023c3c0c7f1bb027b3feca2d13b3329eb9", func := "loop.example/g00518/laws.FnUsedRules", spec := "fnUsedRules", apart := false }
def FnUsedRulesSaid : Prop := fnUsedRulesRow.holds Try.pinned (OpenSpec.ofChange fnUsedRulesSpec)

/-- ITS FALSE NEIGHBOUR: 'it returns false'. Refute it at one input. -/
def fnUsedRulesWrong : ChangeSpec := { name := "fnUsedRules", fn := fun _ => fun
  | [d] => { results := [.lit (.bool false)], args := [d] }
  | _ => none }
def FnUsedRulesWrongFalsely : Prop := fnUsedRulesRow.holds Try.pinned (OpenSpec.ofChange fnUsedRulesWrong)

/-- 'laws.FnExactMinSize': WHATEVER THE INPUT: true; the input reads as it did. -/
def fnExactMinSizeSpec : ChangeSpec := { name := "fnExactMinSize", fn := fun _ => fun
  | [d1, d2] => { results := [.lit (.bool true)], args := [d1, d2] }
  | _ => none }
def fnExactMinSizeRow : OpenClaim := { program := "ythjogcknphjilaa", sum := "409576b007ca8a1bdeee5112b53aad023c3c0c7f1bb027b3feca2d13b3329eb9", func := "loop.example/g00518/laws.FnExactMinSize", spec := "fnExactMinSize", unfollowed := true, recurses := true, apart := false }
def FnExactMinSizeSaid : Prop := fnExactMinSizeRow.holds Try.pinned (OpenSpec.ofChange fnExactMinSizeSpec)

/-- ITS FALSE NEIGHBOUR: 'it returns false'. Refute it at one input. -/
def fnExactMinSizeWrong : ChangeSpec := { name := "fnExactMinSize", fn := fun _ => fun
  | [d1, d2] => { results := [.lit (.bool false)], args := [d1, d2] }
  | _ => none }
def FnExactMinSizeWrongFalsely : Prop := fnExactMinSizeRow.holds Try.pinned (OpenSpec.ofChange fnExactMinSizeWrong)

/-- 'laws.FnExactMaxSize': WHATEVER THE INPUT: true; the input reads as it did. -/
def fnExactMaxSizeSpec : ChangeSpec := { name := "fnExactMaxSize", fn := fun _ => fun
  | [d1, d2] => { results := [.lit (.bool true)], args := [d1, d2] }
  | _ => none }
def fnExactMaxSizeRow : OpenClaim := { program := "ythjogcknphjilaa", sum := "409576b007ca8a1bdeee5112b53aad023c3c0c7f1bb027b3feca2d13b3329eb9", func := "loop.example/g00518/laws.FnExactMaxSize", spec := "fnExactMaxSize", unfollowed := true, recurses := true, apart := false }
def FnExactMaxSizeSaid : Prop := fnExactMaxSizeRow.holds Try.pinned (OpenSpec.ofChange fnExactMaxSizeSpec)

/-- ITS FALSE NEIGHBOUR: 'it returns false'. Refute it at one input. -/
def fnExactMaxSizeWrong : ChangeSpec := { name := "fnExactMaxSize", fn := fun _ => fun
  | [d1, d2] => { results := [.lit (.bool false)], args := [d1, d2] }
  | _ => none }
def FnExactMaxSizeWrongFalsely : Prop := fnExactMaxSizeRow.holds Try.pinned (OpenSpec.ofChange fnExactMaxSizeWrong)

/-- 'laws.FnExactIsFixedSize': WHATEVER THE INPUT: true; the input reads as it did. -/
def fnExactIsFixedSizeSpec : ChangeSpec := { name := "fnExactIsFixedSize", fn := fun _ => fun
  | [d1, d2] => { results := [.lit (.bool true)], args := [d1, d2] }
  | _ => none }
def fnExactIsFixedSizeRow : OpenClaim := { program := "ythjogcknphjilaa", sum := "409576b007ca8a1bdeee5112b53aad023c3c0c7f1bb027b3feca2d13b3329eb9", func := "loop.example/g00518/laws.FnExactIsFixedSize", spec := "fnExactIsFixedSize", unfollowed := true, recurses := true, apart := false }
def FnExactIsFixedSizeSaid : Prop := fnExactIsFixedSizeRow.holds Try.pinned (OpenSpec.ofChange fnExactIsFixedSizeSpec)

/-- ITS FALSE NEIGHBOUR: 'it returns false'. Refute it at one input. -/
def fnExactIsFixedSizeWrong : ChangeSpec := { name := "fnExactIsFixedSize", fn := fun _ => fun
  | [d1, d2] => { results := [.lit (.bool false)], args := [d1, d2] }
  | _ => none }
def FnExactIsFixedSizeWrongFalsely : Prop := fnExactIsFixedSizeRow.holds Try.pinned (OpenSpec.ofChange fnExactIsFixedSizeWrong)

/-- 'laws.FnExactDepthOf': WHATEVER THE INPUT: true; the input reads as it did. -/
def fnExactDepthOfSpec : ChangeSpec := { name := "fnExactDepthOf", fn := fun _ => fun
  | [d1, d2] => { results := [.lit (.bool true)], args := [d1, d2] }
  | _ => none }
def fnExactDepthOfRow : OpenClaim := { program := "ythjogcknphjilaa", sum := "409576b007ca8a1bdeee5112b53aad023c3c0c7f1bb027b3feca2d13b3329eb9", func := "loop.example/g00518/laws.FnExactDepthOf", spec := "fnExactDepthOf", unfollowed := true, recurses := true, apart := false }
def FnExactDepthOfSaid : Prop := fnExactDepthOfRow.holds Try.pinned (OpenSpec.ofChange fnExactDepthOfSpec)

/-- ITS FALSE NEIGHBOUR: 'it returns false'. Refute it at one input. -/
def fnExactDepthOfWrong : ChangeSpec := { name := "fnExactDepthOf", fn := fun _ => fun
  | [d1, d2] => { results := [.lit (.bool false)], args := [d1, d2] }
  | _ => none }
def FnExactDepthOfWrongFalsely : Prop := fnExactDepthOfRow.holds Try.pinned (OpenSpec.ofChange fnExactDepthOfWrong)

/-- 'laws.FnExactUsedRules': WHATEVER THE INPUT: true; the input reads as it did. -/
def fnExactUsedRulesSpec : ChangeSpec := { name := "fnExactUsedRules", fn := fun _ => fun
  | [d1, d2] => { results := [.lit (.bool true)], args := [d1, d2] }
  | _ => none }
def fnExactUsedRulesRow : OpenClaim := { program := "ythjogcknphjilaa", sum := "409576b007ca8a1bdeee5112b53aad023c3c0c7f1bb027b3feca2d13b3329eb9", func := "loop.example/g00518/laws.FnExactUsedRules", spec := "fnExactUsedRules", apart := false }
def FnExactUsedRulesSaid : Prop := fnExactUsedRulesRow.holds Try.pinned (OpenSpec.ofChange fnExactUsedRulesSpec)

/-- ITS FALSE NEIGHBOUR: 'it returns false'. Refute it at one input. -/
def fnExactUsedRulesWrong : ChangeSpec := { name := "fnExactUsedRules", fn := fun _ => fun
  | [d1, d2] => { results := [.lit (.bool false)], args := [d1, d2] }
  | _ => none }
def FnExactUsedRulesWrongFalsely : Prop := fnExactUsedRulesRow.holds Try.pinned (OpenSpec.ofChange fnExactUsedRulesWrong)

/-- 'laws.FnExactUnusedRules': WHATEVER THE INPUT: true; the input reads as it did. -/
def fnExactUnusedRulesSpec : ChangeSpec := { name := "fnExactUnusedRules", fn := fun _ => fun
  | [d] => { results := [.lit (.bool true)], args := [d] }
  | _ => none }
def fnExactUnusedRulesRow : OpenClaim := { program := "ythjogcknphjilaa", sum := "409576b007ca8a1bdeee5112b53aad023c3c0c7f1bb027b3feca2d13b3329eb9", func := "loop.example/g00518/laws.FnExactUnusedRules", spec := "fnExactUnusedRules", apart := false }
def FnExactUnusedRulesSaid : Prop := fnExactUnusedRulesRow.holds Try.pinned (OpenSpec.ofChange fnExactUnusedRulesSpec)

/-- ITS FALSE NEIGHBOUR: 'it returns false'. Refute it at one input. -/
def fnExactUnusedRulesWrong : ChangeSpec := { name := "fnExactUnusedRules", fn := fun _ => fun
  | [d] => { results := [.lit (.bool false)], args := [d] }
  | _ => none }
def FnExactUnusedRulesWrongFalsely : Prop := fnExactUnusedRulesRow.holds Try.pinned (OpenSpec.ofChange fnExactUnusedRulesWrong)

/-- 'laws.FnExactIsBinaryOnly': WHATEVER THE INPUT: true; the input reads as it did. -/
def fnExactIsBinaryOnlySpec : ChangeSpec := { name := "fnExactIsBinaryOnly", fn := fun _ => fun
  | [d] => { results := [.lit (.bool true)], args := [d] }
  | _ => none }
def fnExactIsBinaryOnlyRow : OpenClaim := { program := "ythjogcknphjilaa", sum := "409576b007ca8a1bdeee5112b53aad023c3c0c7f1bb027b3feca2d13b3329eb9", func := "loop.example/g00518/laws.FnExactIsBinaryOnly", spec := "fnExactIsBinaryOnly", apart := false }
def FnExactIsBinaryOnlySaid : Prop := fnExactIsBinaryOnlyRow.holds Try.pinned (OpenSpec.ofChange fnExactIsBinaryOnlySpec)

/-- ITS FALSE NEIGHBOUR: 'it returns false'. Refute it at one input. -/
def fnExactIsBinaryOnlyWrong : ChangeSpec := { name := "fnExactIsBinaryOnly", fn := fun _ => fun
  | [d] => { results := [.lit (.bool false)], args := [d] }
  | _ => none }
def FnExactIsBinaryOnlyWrongFalsely : Prop := fnExactIsBinaryOnlyRow.holds Try.pinned (OpenSpec.ofChange fnExactIsBinaryOnlyWrong)

/- THE SECOND FORM. 'bulk': how many values and letters a reading holds, each counted each time it is reached (what is shared counts as often as it is met; a slice's spare places count too). A statement '..UptoSaid' is the law's where the arguments, and the package variables that the reading takes, are together of bulk at most 1048576: NARROWER than '..Said'. Prove '..Said' where nothing that the law and all that it calls make is longer than what came in: it says more and counts as full. Else prove '..UptoSaid'. A law counts once. -/
mutual
def uptoBulk {H : Type} : DataW H → Nat
  | .lit (.string bytes) => bytes.length + 1
  | .lit _ => 1
  | .nil => 1
  | .ptr d => uptoBulk d + 1
  | .slice elems spare => uptoBulkAll elems + uptoBulkAll spare + 1
  | .agg parts => uptoBulkAll parts + 1
  | .iface _ d => uptoBulk d + 1
  | .map entries => uptoBulkEntries entries + 1
  | .held _ => 1
def uptoBulkAll {H : Type} : List (DataW H) → Nat
  | [] => 0
  | d :: r => uptoBulk d + uptoBulkAll r
def uptoBulkEntries {H : Type} : List (Lit × DataW H) → Nat
  | [] => 0
  | x :: r => uptoBulkEntry x + uptoBulkEntries r
def uptoBulkEntry {H : Type} : Lit × DataW H → Nat
  | (.string bytes, d) => bytes.length + uptoBulk d + 1
  | (_, d) => uptoBulk d + 1
 end
def uptoSmall : (H : Type) → List (DataW H) → Bool := fun _ ds => decide (uptoBulkAll ds ≤ 1048576)
def OpenSpec.upto (s : _root_.Go.ChangeSpec) : _root_.Go.OpenSpec := { _root_.Go.OpenSpec.ofChange s with cond := some uptoSmall }

/-- 'laws.FnSizes', WHERE WHAT IT READS IS OF BULK AT MOST 1048576: true; the input reads as it did. -/
def fnSizesUptoRow : OpenClaim := { program := "ythjogcknphjilaa", sum := "409576b007ca8a1bdeee5112b53aad023c3c0c7f1bb027b3feca2d13b3329eb9", func := "loop.example/g00518/laws.FnSizes", spec := "fnSizes", unfollowed := true, recurses := true, apart := false, narrowed := true }
def FnSizesUptoSaid : Prop := fnSizesUptoRow.holds Try.pinned (OpenSpec.upto fnSizesSpec)

/-- 'laws.FnFirstBytes', WHERE WHAT IT READS IS OF BULK AT MOST 1048576: true; the input reads as it did. -/
def fnFirstBytesUptoRow : OpenClaim := { program := "ythjogcknphjilaa", sum := "409576b007ca8a1bdeee5112b53aad023c3c0c7f1bb027b3feca2d13b3329eb9", func := "loop.example/g00518/laws.FnFirstBytes", spec := "fnFirstBytes", recurses := true, apart := false, narrowed := true }
def FnFirstBytesUptoSaid : Prop := fnFirstBytesUptoRow.holds Try.pinned (OpenSpec.upto fnFirstBytesSpec)

/-- 'laws.FnTags', WHERE WHAT IT READS IS OF BULK AT MOST 1048576: true; the input reads as it did. -/
def fnTagsUptoRow : OpenClaim := { program := "ythjogcknphjilaa", sum := "409576b007ca8a1bdeee5112b53aad023c3c0c7f1bb027b3feca2d13b3329eb9", func := "loop.example/g00518/laws.FnTags", spec := "fnTags", recurses := true, apart := false, narrowed := true }
def FnTagsUptoSaid : Prop := fnTagsUptoRow.holds Try.pinned (OpenSpec.upto fnTagsSpec)

/-- 'laws.FnExactCanStart', WHERE WHAT IT READS IS OF BULK AT MOST 1048576: true; the input reads as it did. -/
def fnExactCanStartUptoRow : OpenClaim := { program := "ythjogcknphjilaa", sum := "409576b007ca8a1bdeee5112b53aad023c3c0c7f1bb027b3feca2d13b3329eb9", func := "loop.example/g00518/laws.FnExactCanStart", spec := "fnExactCanStart", recurses := true, apart := false, narrowed := true }
def FnExactCanStartUptoSaid : Prop := fnExactCanStartUptoRow.holds Try.pinned (OpenSpec.upto fnExactCanStartSpec)

/-- 'laws.FnExactCountFirstBytes', WHERE WHAT IT READS IS OF BULK AT MOST 1048576: true; the input reads as it did. -/
def fnExactCountFirstBytesUptoRow : OpenClaim := { program := "ythjogcknphjilaa", sum := "409576b007ca8a1bdeee5112b53aad023c3c0c7f1bb027b3feca2d13b3329eb9", func := "loop.example/g00518/laws.FnExactCountFirstBytes", spec := "fnExactCountFirstBytes", recurses := true, apart := false, narrowed := true }
def FnExactCountFirstBytesUptoSaid : Prop := fnExactCountFirstBytesUptoRow.holds Try.pinned (OpenSpec.upto fnExactCountFirstBytesSpec)

/-- 'laws.FnExactCommonStart', WHERE WHAT IT READS IS OF BULK AT MOST 1048576: true; the input reads as it did. -/
def fnExactCommonStartUptoRow : OpenClaim := { program := "ythjogcknphjilaa", sum := "409576b007ca8a1bdeee5112b53aad023c3c0c7f1bb027b3feca2d13b3329eb9", func := "loop.example/g00518/laws.FnExactCommonStart", spec := "fnExactCommonStart", recurses := true, apart := false, narrowed := true }
def FnExactCommonStartUptoSaid : Prop := fnExactCommonStartUptoRow.holds Try.pinned (OpenSpec.upto fnExactCommonStartSpec)

/-- 'laws.FnExactTagBytes', WHERE WHAT IT READS IS OF BULK AT MOST 1048576: true; the input reads as it did. -/
def fnExactTagBytesUptoRow : OpenClaim := { program := "ythjogcknphjilaa", sum := "409576b007ca8a1bdeee5112b53aad023c3c0c7f1bb027b3feca2d13b3329eb9", func := "loop.example/g00518/laws.FnExactTagBytes", spec := "fnExactTagBytes", apart := false, narrowed := true }
def FnExactTagBytesUptoSaid : Prop := fnExactTagBytesUptoRow.holds Try.pinned (OpenSpec.upto fnExactTagBytesSpec)

/-- 'laws.FnExactOnlyStart', WHERE WHAT IT READS IS OF BULK AT MOST 1048576: true; the input reads as it did. -/
def fnExactOnlyStartUptoRow : OpenClaim := { program := "ythjogcknphjilaa", sum := "409576b007ca8a1bdeee5112b53aad023c3c0c7f1bb027b3feca2d13b3329eb9", func := "loop.example/g00518/laws.FnExactOnlyStart", spec := "fnExactOnlyStart", recurses := true, apart := false, narrowed := true }
def FnExactOnlyStartUptoSaid : Prop := fnExactOnlyStartUptoRow.holds Try.pinned (OpenSpec.upto fnExactOnlyStartSpec)

/-- 'laws.FnUsedRules', WHERE WHAT IT READS IS OF BULK AT MOST 1048576: true; the input reads as it did. -/
def fnUsedRulesUptoRow : OpenClaim := { program := "ythjogcknphjilaa", sum := "409576b007ca8a1bdeee5112b53aad023c3c0c7f1bb027b3feca2d13b3329eb9", func := "loop.example/g00518/laws.FnUsedRules", spec := "fnUsedRules", apart := false, narrowed := true }
def FnUsedRulesUptoSaid : Prop := fnUsedRulesUptoRow.holds Try.pinned (OpenSpec.upto fnUsedRulesSpec)

/-- 'laws.FnExactMinSize', WHERE WHAT IT READS IS OF BULK AT MOST 1048576: true; the input reads as it did. -/
def fnExactMinSizeUptoRow : OpenClaim := { program := "ythjogcknphjilaa", sum := "409576b007ca8a1bdeee5112b53aad023c3c0c7f1bb027b3feca2d13b3329eb9", func := "loop.example/g00518/laws.FnExactMinSize", spec := "fnExactMinSize", unfollowed := true, recurses := true, apart := false, narrowed := true }
def FnExactMinSizeUptoSaid : Prop := fnExactMinSizeUptoRow.holds Try.pinned (OpenSpec.upto fnExactMinSizeSpec)

/-- 'laws.FnExactMaxSize', WHERE WHAT IT READS IS OF BULK AT MOST 1048576: true; the input reads as it did. -/
def fnExactMaxSizeUptoRow : OpenClaim := { program := "ythjogcknphjilaa", sum := "409576b007ca8a1bdeee5112b53aad023c3c0c7f1bb027b3feca2d13b3329eb9", func := "loop.example/g00518/laws.FnExactMaxSize", spec := "fnExactMaxSize", unfollowed := true, recurses := true, apart := false, narrowed := true }
def FnExactMaxSizeUptoSaid : Prop := fnExactMaxSizeUptoRow.holds Try.pinned (OpenSpec.upto fnExactMaxSizeSpec)

/-- 'laws.FnExactIsFixedSize', WHERE WHAT IT READS IS OF BULK AT MOST 1048576: true; the input reads as it did. -/
def fnExactIsFixedSizeUptoRow : OpenClaim := { program := "ythjogcknphjilaa", sum := "409576b007ca8a1bdeee5112b53aad023c3c0c7f1bb027b3feca2d13b3329eb9", func := "loop.example/g00518/laws.FnExactIsFixedSize", spec := "fnExactIsFixedSize", unfollowed := true, recurses := true, apart := false, narrowed := true }
def FnExactIsFixedSizeUptoSaid : Prop := fnExactIsFixedSizeUptoRow.holds Try.pinned (OpenSpec.upto fnExactIsFixedSizeSpec)

/-- 'laws.FnExactDepthOf', WHERE WHAT IT READS IS OF BULK AT MOST 1048576: true; the input reads as it did. -/
def fnExactDepthOfUptoRow : OpenClaim := { program := "ythjogcknphjilaa", sum := "409576b007ca8a1bdeee5112b53aad023c3c0c7f1bb027b3feca2d13b3329eb9", func := "loop.example/g00518/laws.FnExactDepthOf", spec := "fnExactDepthOf", unfollowed := true, recurses := true, apart := false, narrowed := true }
def FnExactDepthOfUptoSaid : Prop := fnExactDepthOfUptoRow.holds Try.pinned (OpenSpec.upto fnExactDepthOfSpec)

/-- 'laws.FnExactUsedRules', WHERE WHAT IT READS IS OF BULK AT MOST 1048576: true; the input reads as it did. -/
def fnExactUsedRulesUptoRow : OpenClaim := { program := "ythjogcknphjilaa", sum := "409576b007ca8a1bdeee5112b53aad023c3c0c7f1bb027b3feca2d13b3329eb9", func := "loop.example/g00518/laws.FnExactUsedRules", spec := "fnExactUsedRules", apart := false, narrowed := true }
def FnExactUsedRulesUptoSaid : Prop := fnExactUsedRulesUptoRow.holds Try.pinned (OpenSpec.upto fnExactUsedRulesSpec)

/-- 'laws.FnExactUnusedRules', WHERE WHAT IT READS IS OF BULK AT MOST 1048576: true; the input reads as it did. -/
def fnExactUnusedRulesUptoRow : OpenClaim := { program := "ythjogcknphjilaa", sum := "409576b007ca8a1bdeee5112b53aad023c3c0c7f1bb027b3feca2d13b3329eb9", func := "loop.example/g00518/laws.FnExactUnusedRules", spec := "fnExactUnusedRules", apart := false, narrowed := true }
def FnExactUnusedRulesUptoSaid : Prop := fnExactUnusedRulesUptoRow.holds Try.pinned (OpenSpec.upto fnExactUnusedRulesSpec)

/-- 'laws.FnExactIsBinaryOnly', WHERE WHAT IT READS IS OF BULK AT MOST 1048576: true; the input reads as it did. -/
def fnExactIsBinaryOnlyUptoRow : OpenClaim := { program := "ythjogcknphjilaa", sum := "409576b007ca8a1bdeee5112b53aad023c3c0c7f1bb027b3feca2d13b3329eb9", func := "loop.example/g00518/laws.FnExactIsBinaryOnly", spec := "fnExactIsBinaryOnly", apart := false, narrowed := true }
def FnExactIsBinaryOnlyUptoSaid : Prop := fnExactIsBinaryOnlyUptoRow.holds Try.pinned (OpenSpec.upto fnExactIsBinaryOnlySpec)

end Rows
end Go.Proofs.Ythjogcknphjilaa

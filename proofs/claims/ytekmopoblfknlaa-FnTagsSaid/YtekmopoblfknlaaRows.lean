/-
  No cell of these rows narrows 'for every input' (looked for: loops, veiled, ifaces, maps, wideKeys, modest, calm, conditions, laid).
  DERIVED. THE GIVEN ROWS OF THIS SEAT. 7 by the template 'for every input the law returns true; each argument reads behind the call as it read before'; 0 by the template 'total and deterministic' (their statements: YtekmopoblfknlaaTotals.lean).
  GIVEN WITH THE SEED: the statements are not yours to turn. If you find one false, say at which input.
  Laid BY PROGRAM, IN A SANDBOX (cutbox-rows.mjs): the forced cells as the released guide's own fill.sh prints them over the translation 6b0d2f8f7328bccc… (all of the seat's roots in one cut). By AI agents, Wed Nov 11 2026. No macro, syntax, notation, axiom, sorry.
-/
import Derived.Test.YtekmopoblfknlaaChecked
import GoSem.Claim
import GoSem.ClaimJoined
import GoSem.ClaimMapViews
import Derived.JoinedTies
import Derived.KernelRfl
namespace Go.Proofs.Ytekmopoblfknlaa
/- THE CELL 'sum', in the pinned program and in every row, IS THE sha256 OF THE DUMP (.gsa) THAT YtekmopoblfknlaaProg.lean LOADS. Nothing in Lean hashes anything: it is a label: what it is worth is what the hold of that sum in a sandbox is worth. -/
noncomputable def Try.pinned : Pinned := { name := "ytekmopoblfknlaa", sum := "6b0d2f8f7328bccc164b780758d77a2efb4fa371912e7f76301b1be47d3cc89b", checked := Try.checked }
namespace Rows
def none {H : Type} : Left H := { results := [], args := [] }

/-- 'laws.FnFirstBytes': WHATEVER THE INPUT: true; the input reads as it did. -/
def fnFirstBytesSpec : ChangeSpec := { name := "fnFirstBytes", fn := fun _ => fun
  | [d] => { results := [.lit (.bool true)], args := [d] }
  | _ => none }
def fnFirstBytesRow : OpenClaim := { program := "ytekmopoblfknlaa", sum := "6b0d2f8f7328bccc164b780758d77a2efb4fa371912e7f76301b1be47d3cc89b", func := "loop.example/g00518/laws.FnFirstBytes", spec := "fnFirstBytes", recurses := true, apart := false }
def FnFirstBytesSaid : Prop := fnFirstBytesRow.holds Try.pinned (OpenSpec.ofChange fnFirstBytesSpec)

/-- ITS FALSE NEIGHBOUR: 'it returns false'. Refute it at one input. -/
def fnFirstBytesWrong : ChangeSpec := { name := "fnFirstBytes", fn := fun _ => fun
  | [d] => { results := [.lit (.bool false)], args := [d] }
  | _ => none }
def FnFirstBytesWrongFalsely : Prop := fnFirstBytesRow.holds Try.pinned (OpenSpec.ofChange fnFirstBytesWrong)

/-- 'laws.FnTags': WHATEVER THE INPUT: true; the input reads as it did. -/
def fnTagsSpec : ChangeSpec := { name := "fnTags", fn := fun _ => fun
  | [d] => { results := [.lit (.bool true)], args := [d] }
  | _ => none }
def fnTagsRow : OpenClaim := { program := "ytekmopoblfknlaa", sum := "6b0d2f8f7328bccc164b780758d77a2efb4fa371912e7f76301b1be47d3cc89b", func := "loop.example/g00518/laws.FnTags", spec := "fnTags", recurses := true, apart := false }
def FnTagsSaid : Prop := fnTagsRow.holds Try.pinned (OpenSpec.ofChange fnTagsSpec)

/-- ITS FALSE NEIGHBOUR: 'it returns false'. Refute it at one input. -/
def fnTagsWrong : ChangeSpec := { name := "fnTags", fn := fun _ => fun
  | [d] => { results := [.lit (.bool false)], args := [d] }
  | _ => none }
def FnTagsWrongFalsely : Prop := fnTagsRow.holds Try.pinned (OpenSpec.ofChange fnTagsWrong)

/-- 'laws.FnExactCanStart': WHATEVER THE INPUT: true; the input reads as it did. -/
def fnExactCanStartSpec : ChangeSpec := { name := "fnExactCanStart", fn := fun _ => fun
  | [d1, d2, d3] => { results := [.lit (.bool true)], args := [d1, d2, d3] }
  | _ => none }
def fnExactCanStartRow : OpenClaim := { program := "ytekmopoblfknlaa", sum := "6b0d2f8f7328bccc164b780758d77a2efb4fa371912e7f76301b1be47d3cc89b", func := "loop.example/g00518/laws.FnExactCanStart", spec := "fnExactCanStart", recurses := true, apart := false }
def FnExactCanStartSaid : Prop := fnExactCanStartRow.holds Try.pinned (OpenSpec.ofChange fnExactCanStartSpec)

/-- ITS FALSE NEIGHBOUR: 'it returns false'. Refute it at one input. -/
def fnExactCanStartWrong : ChangeSpec := { name := "fnExactCanStart", fn := fun _ => fun
  | [d1, d2, d3] => { results := [.lit (.bool false)], args := [d1, d2, d3] }
  | _ => none }
def FnExactCanStartWrongFalsely : Prop := fnExactCanStartRow.holds Try.pinned (OpenSpec.ofChange fnExactCanStartWrong)

/-- 'laws.FnExactCountFirstBytes': WHATEVER THE INPUT: true; the input reads as it did. -/
def fnExactCountFirstBytesSpec : ChangeSpec := { name := "fnExactCountFirstBytes", fn := fun _ => fun
  | [d1, d2] => { results := [.lit (.bool true)], args := [d1, d2] }
  | _ => none }
def fnExactCountFirstBytesRow : OpenClaim := { program := "ytekmopoblfknlaa", sum := "6b0d2f8f7328bccc164b780758d77a2efb4fa371912e7f76301b1be47d3cc89b", func := "loop.example/g00518/laws.FnExactCountFirstBytes", spec := "fnExactCountFirstBytes", recurses := true, apart := false }
def FnExactCountFirstBytesSaid : Prop := fnExactCountFirstBytesRow.holds Try.pinned (OpenSpec.ofChange fnExactCountFirstBytesSpec)

/-- ITS FALSE NEIGHBOUR: 'it returns false'. Refute it at one input. -/
def fnExactCountFirstBytesWrong : ChangeSpec := { name := "fnExactCountFirstBytes", fn := fun _ => fun
  | [d1, d2] => { results := [.lit (.bool false)], args := [d1, d2] }
  | _ => none }
def FnExactCountFirstBytesWrongFalsely : Prop := fnExactCountFirstBytesRow.holds Try.pinned (OpenSpec.ofChange fnExactCountFirstBytesWrong)

/-- 'laws.FnExactCommonStart': WHATEVER THE INPUT: true; the input reads as it did. -/
def fnExactCommonStartSpec : ChangeSpec := { name := "fnExactCommonStart", fn := fun _ => fun
  | [d1, d2, d3] => { results := [.lit (.bool true)], args := [d1, d2, d3] }
  | _ => none }
def fnExactCommonStartRow : OpenClaim := { program := "ytekmopoblfknlaa", sum := "6b0d2f8f7328bccc164b780758d77a2efb4fa371912e7f76301b1be47d3cc89b", func := "loop.example/g00518/laws.FnExactCommonStart", spec := "fnExactCommonStart", recurses := true, apart := false }
def FnExactCommonStartSaid : Prop := fnExactCommonStartRow.holds Try.pinned (OpenSpec.ofChange fnExactCommonStartSpec)

/-- ITS FALSE NEIGHBOUR: 'it returns false'. Refute it at one input. -/
def fnExactCommonStartWrong : ChangeSpec := { name := "fnExactCommonStart", fn := fun _ => fun
  | [d1, d2, d3] => { results := [.lit (.bool false)], args := [d1, d2, d3] }
  | _ => none }
def FnExactCommonStartWrongFalsely : Prop := fnExactCommonStartRow.holds Try.pinned (OpenSpec.ofChange fnExactCommonStartWrong)

/-- 'laws.FnExactTagBytes': WHATEVER THE INPUT: true; the input reads as it did. -/
def fnExactTagBytesSpec : ChangeSpec := { name := "fnExactTagBytes", fn := fun _ => fun
  | [d1, d2, d3] => { results := [.lit (.bool true)], args := [d1, d2, d3] }
  | _ => none }
def fnExactTagBytesRow : OpenClaim := { program := "ytekmopoblfknlaa", sum := "6b0d2f8f7328bccc164b780758d77a2efb4fa371912e7f76301b1be47d3cc89b", func := "loop.example/g00518/laws.FnExactTagBytes", spec := "fnExactTagBytes", apart := false }
def FnExactTagBytesSaid : Prop := fnExactTagBytesRow.holds Try.pinned (OpenSpec.ofChange fnExactTagBytesSpec)

/-- ITS FALSE NEIGHBOUR: 'it returns false'. Refute it at one input. -/
def fnExactTagBytesWrong : ChangeSpec := { name := "fnExactTagBytes", fn := fun _ => fun
  | [d1, d2, d3] => { results := [.lit (.bool false)], args := [d1, d2, d3] }
  | _ => none }
def FnExactTagBytesWrongFalsely : Prop := fnExactTagBytesRow.holds Try.pinned (OpenSpec.ofChange fnExactTagBytesWrong)

/-- 'laws.FnExactOnlyStart': WHATEVER THE INPUT: true; the input reads as it did. -/
def fnExactOnlyStartSpec : ChangeSpec := { name := "fnExactOnlyStart", fn := fun _ => fun
  | [d1, d2] => { results := [.lit (.bool true)], args := [d1, d2] }
  | _ => none }
def fnExactOnlyStartRow : OpenClaim := { program := "ytekmopoblfknlaa", sum := "6b0d2f8f7328bccc164b780758d77a2efb4fa371912e7f76301b1be47d3cc89b", func := "loop.example/g00518/laws.FnExactOnlyStart", spec := "fnExactOnlyStart", recurses := true, apart := false }
def FnExactOnlyStartSaid : Prop := fnExactOnlyStartRow.holds Try.pinned (OpenSpec.ofChange fnExactOnlyStartSpec)

/-- ITS FALSE NEIGHBOUR: 'it returns false'. Refute it at one input. -/
def fnExactOnlyStartWrong : ChangeSpec := { name := "fnExactOnlyStart", fn := fun _ => fun
  | [d1, d2] => { results := [.lit (.bool false)], args := [d1, d2] }
  | _ => none }
def FnExactOnlyStartWrongFalsely : Prop := fnExactOnlyStartRow.holds Try.pinned (OpenSpec.ofChange fnExactOnlyStartWrong)

/- THE SECOND FORM. 'bulk': how many values and letters a reading holds, each counted each time it is reached (what is shared counts as often as it is met; a slice's spare places count too). A statement '..UptoSaid' is the law's where the arguments, and the package variables that the reading takes, are together of bulk at most 1048576: NARROWER than '..Said'. Prove '..Said' where nothing that the law and all that it calls make is longer than what came in: it says more and counts as full. Else prove '..UptoSaid'. A law counts once. -/
mutual
def uptoBulk {H : Type} : DataW H → Nat
  | .lit (.string bytes) => bytes.length + 1
  | .lit _ => 1
  | .nil => 1
  | .ptr d => uptoBulk d + 1
  | .slice elems spare => uptoBulkAll elems + uptoBulkAll spare + 1
  | .agg parts => uptoBulkAll parts + 1
  | .iface _ d => uptoBulk d + 1
  | .map entries => uptoBulkEntries entries + 1
  | .held _ => 1
def uptoBulkAll {H : Type} : List (DataW H) → Nat
  | [] => 0
  | d :: r => uptoBulk d + uptoBulkAll r
def uptoBulkEntries {H : Type} : List (Lit × DataW H) → Nat
  | [] => 0
  | x :: r => uptoBulkEntry x + uptoBulkEntries r
def uptoBulkEntry {H : Type} : Lit × DataW H → Nat
  | (.string bytes, d) => bytes.length + uptoBulk d + 1
  | (_, d) => uptoBulk d + 1
 end
def uptoSmall : (H : Type) → List (DataW H) → Bool := fun _ ds => decide (uptoBulkAll ds ≤ 1048576)
def OpenSpec.upto (s : _root_.Go.ChangeSpec) : _root_.Go.OpenSpec := { _root_.Go.OpenSpec.ofChange s with cond := some uptoSmall }

/-- 'laws.FnFirstBytes', WHERE WHAT IT READS IS OF BULK AT MOST 1048576: true; the input reads as it did. -/
def fnFirstBytesUptoRow : OpenClaim := { program := "ytekmopoblfknlaa", sum := "6b0d2f8f7328bccc164b780758d77a2efb4fa371912e7f76301b1be47d3cc89b", func := "loop.example/g00518/laws.FnFirstBytes", spec := "fnFirstBytes", recurses := true, apart := false, narrowed := true }
def FnFirstBytesUptoSaid : Prop := fnFirstBytesUptoRow.holds Try.pinned (OpenSpec.upto fnFirstBytesSpec)

/-- 'laws.FnTags', WHERE WHAT IT READS IS OF BULK AT MOST 1048576: true; the input reads as it did. -/
def fnTagsUptoRow : OpenClaim := { program := "ytekmopoblfknlaa", sum := "6b0d2f8f7328bccc164b780758d77a2efb4fa371912e7f76301b1be47d3cc89b", func := "loop.example/g00518/laws.FnTags", spec := "fnTags", recurses := true, apart := false, narrowed := true }
def FnTagsUptoSaid : Prop := fnTagsUptoRow.holds Try.pinned (OpenSpec.upto fnTagsSpec)

/-- 'laws.FnExactCanStart', WHERE WHAT IT READS IS OF BULK AT MOST 1048576: true; the input reads as it did. -/
def fnExactCanStartUptoRow : OpenClaim := { program := "ytekmopoblfknlaa", sum := "6b0d2f8f7328bccc164b780758d77a2efb4fa371912e7f76301b1be47d3cc89b", func := "loop.example/g00518/laws.FnExactCanStart", spec := "fnExactCanStart", recurses := true, apart := false, narrowed := true }
def FnExactCanStartUptoSaid : Prop := fnExactCanStartUptoRow.holds Try.pinned (OpenSpec.upto fnExactCanStartSpec)

/-- 'laws.FnExactCountFirstBytes', WHERE WHAT IT READS IS OF BULK AT MOST 1048576: true; the input reads as it did. -/
def fnExactCountFirstBytesUptoRow : OpenClaim := { program := "ytekmopoblfknlaa", sum := "6b0d2f8f7328bccc164b780758d77a2efb4fa371912e7f76301b1be47d3cc89b", func := "loop.example/g00518/laws.FnExactCountFirstBytes", spec := "fnExactCountFirstBytes", recurses := true, apart := false, narrowed := true }
def FnExactCountFirstBytesUptoSaid : Prop := fnExactCountFirstBytesUptoRow.holds Try.pinned (OpenSpec.upto fnExactCountFirstBytesSpec)

/-- 'laws.FnExactCommonStart', WHERE WHAT IT READS IS OF BULK AT MOST 1048576: true; the input reads as it did. -/
def fnExactCommonStartUptoRow : OpenClaim := { program := "ytekmopoblfknlaa", sum := "6b0d2f8f7328bccc164b780758d77a2efb4fa371912e7f76301b1be47d3cc89b", func := "loop.example/g00518/laws.FnExactCommonStart", spec := "fnExactCommonStart", recurses := true, apart := false, narrowed := true }
def FnExactCommonStartUptoSaid : Prop := fnExactCommonStartUptoRow.holds Try.pinned (OpenSpec.upto fnExactCommonStartSpec)

/-- 'laws.FnExactTagBytes', WHERE WHAT IT READS IS OF BULK AT MOST 1048576: true; the input reads as it did. -/
def fnExactTagBytesUptoRow : OpenClaim := { program := "ytekmopoblfknlaa", sum := "6b0d2f8f7328bccc164b780758d77a2efb4fa371912e7f76301b1be47d3cc89b", func := "loop.example/g00518/laws.FnExactTagBytes", spec := "fnExactTagBytes", apart := false, narrowed := true }
def FnExactTagBytesUptoSaid : Prop := fnExactTagBytesUptoRow.holds Try.pinned (OpenSpec.upto fnExactTagBytesSpec)

/-- 'laws.FnExactOnlyStart', WHERE WHAT IT READS IS OF BULK AT MOST 1048576: true; the input reads as it did. -/
def fnExactOnlyStartUptoRow : OpenClaim := { program := "ytekmopoblfknlaa", sum := "6b0d2f8f7328bccc164b780758d77a2efb4fa371912e7f76301b1be47d3cc89b", func := "loop.example/g00518/laws.FnExactOnlyStart", spec := "fnExactOnlyStart", recurses := true, apart := false, narrowed := true }
def FnExactOnlyStartUptoSaid : Prop := fnExactOnlyStartUptoRow.holds Try.pinned (OpenSpec.upto fnExactOnlyStartSpec)

end Rows
end Go.Proofs.Ytekmopoblfknlaa

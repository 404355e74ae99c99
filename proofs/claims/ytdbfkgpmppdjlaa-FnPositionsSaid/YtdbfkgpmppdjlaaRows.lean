/-
  No cell of these rows narrows 'for every input' (looked for: loops, veiled, ifaces, maps, wideKeys, modest, calm, conditions, laid).
  DERIVED. THE GIVEN ROWS OF THIS SEAT. 12 by the template 'for every input the law returns true; each argument reads behind the call as it read before'; 0 by the template 'total and deterministic' (their statements: YtdbfkgpmppdjlaaTotals.lean).
  GIVEN WITH THE SEED: the statements are not yours to turn. If you find one false, say at which input.
  Laid BY PROGRAM, IN A SANDBOX (cutbox-rows.mjs): the forced cells as the released guide's own fill.sh prints them over the translation fe71d82421a1591c… (all of the seat's roots in one cut). By AI agents, Wed Nov 11 2026. No macro, syntax, notation, axiom, sorry.
-/
import Derived.Test.YtdbfkgpmppdjlaaChecked
import GoSem.Claim
import GoSem.ClaimJoined
import GoSem.ClaimMapViews
import Derived.JoinedTies
import Derived.KernelRfl
namespace Go.Proofs.Ytdbfkgpmppdjlaa
/- THE CELL 'sum', in the pinned program and in every row, IS THE sha256 OF THE DUMP (.gsa) THAT YtdbfkgpmppdjlaaProg.lean LOADS. Nothing in Lean hashes anything: it is a label: what it is worth is what the hold of that sum in a sandbox is worth. -/
noncomputable def Try.pinned : Pinned := { name := "ytdbfkgpmppdjlaa", sum := "fe71d82421a1591c031474f2a4dd1a75bd83536dd0303bfb4c925995fe5a1f80", checked := Try.checked }
namespace Rows
def none {H : Type} : Left H := { results := [], args := [] }

/-- 'laws.FnPositions': WHATEVER THE INPUT: true; the input reads as it did. -/
def fnPositionsSpec : ChangeSpec := { name := "fnPositions", fn := fun _ => fun
  | [d] => { results := [.lit (.bool true)], args := [d] }
  | _ => none }
def fnPositionsRow : OpenClaim := { program := "ytdbfkgpmppdjlaa", sum := "fe71d82421a1591c031474f2a4dd1a75bd83536dd0303bfb4c925995fe5a1f80", func := "loop.example/g03106/laws.FnPositions", spec := "fnPositions", apart := false }
def FnPositionsSaid : Prop := fnPositionsRow.holds Try.pinned (OpenSpec.ofChange fnPositionsSpec)

/-- ITS FALSE NEIGHBOUR: 'it returns false'. Refute it at one input. -/
def fnPositionsWrong : ChangeSpec := { name := "fnPositions", fn := fun _ => fun
  | [d] => { results := [.lit (.bool false)], args := [d] }
  | _ => none }
def FnPositionsWrongFalsely : Prop := fnPositionsRow.holds Try.pinned (OpenSpec.ofChange fnPositionsWrong)

/-- 'laws.FnExactNormalizePosition': WHATEVER THE INPUT: true; the input reads as it did. -/
def fnExactNormalizePositionSpec : ChangeSpec := { name := "fnExactNormalizePosition", fn := fun _ => fun
  | [d1, d2] => { results := [.lit (.bool true)], args := [d1, d2] }
  | _ => none }
def fnExactNormalizePositionRow : OpenClaim := { program := "ytdbfkgpmppdjlaa", sum := "fe71d82421a1591c031474f2a4dd1a75bd83536dd0303bfb4c925995fe5a1f80", func := "loop.example/g03106/laws.FnExactNormalizePosition", spec := "fnExactNormalizePosition", apart := false }
def FnExactNormalizePositionSaid : Prop := fnExactNormalizePositionRow.holds Try.pinned (OpenSpec.ofChange fnExactNormalizePositionSpec)

/-- ITS FALSE NEIGHBOUR: 'it returns false'. Refute it at one input. -/
def fnExactNormalizePositionWrong : ChangeSpec := { name := "fnExactNormalizePosition", fn := fun _ => fun
  | [d1, d2] => { results := [.lit (.bool false)], args := [d1, d2] }
  | _ => none }
def FnExactNormalizePositionWrongFalsely : Prop := fnExactNormalizePositionRow.holds Try.pinned (OpenSpec.ofChange fnExactNormalizePositionWrong)

/-- 'laws.FnExactSectionOf': WHATEVER THE INPUT: true; the input reads as it did. -/
def fnExactSectionOfSpec : ChangeSpec := { name := "fnExactSectionOf", fn := fun _ => fun
  | [d1, d2, d3] => { results := [.lit (.bool true)], args := [d1, d2, d3] }
  | _ => none }
def fnExactSectionOfRow : OpenClaim := { program := "ytdbfkgpmppdjlaa", sum := "fe71d82421a1591c031474f2a4dd1a75bd83536dd0303bfb4c925995fe5a1f80", func := "loop.example/g03106/laws.FnExactSectionOf", spec := "fnExactSectionOf", apart := false }
def FnExactSectionOfSaid : Prop := fnExactSectionOfRow.holds Try.pinned (OpenSpec.ofChange fnExactSectionOfSpec)

/-- ITS FALSE NEIGHBOUR: 'it returns false'. Refute it at one input. -/
def fnExactSectionOfWrong : ChangeSpec := { name := "fnExactSectionOf", fn := fun _ => fun
  | [d1, d2, d3] => { results := [.lit (.bool false)], args := [d1, d2, d3] }
  | _ => none }
def FnExactSectionOfWrongFalsely : Prop := fnExactSectionOfRow.holds Try.pinned (OpenSpec.ofChange fnExactSectionOfWrong)

/-- 'laws.FnExactConcatTexts': WHATEVER THE INPUT: true; the input reads as it did. -/
def fnExactConcatTextsSpec : ChangeSpec := { name := "fnExactConcatTexts", fn := fun _ => fun
  | [d1, d2] => { results := [.lit (.bool true)], args := [d1, d2] }
  | _ => none }
def fnExactConcatTextsRow : OpenClaim := { program := "ytdbfkgpmppdjlaa", sum := "fe71d82421a1591c031474f2a4dd1a75bd83536dd0303bfb4c925995fe5a1f80", func := "loop.example/g03106/laws.FnExactConcatTexts", spec := "fnExactConcatTexts", apart := false }
def FnExactConcatTextsSaid : Prop := fnExactConcatTextsRow.holds Try.pinned (OpenSpec.ofChange fnExactConcatTextsSpec)

/-- ITS FALSE NEIGHBOUR: 'it returns false'. Refute it at one input. -/
def fnExactConcatTextsWrong : ChangeSpec := { name := "fnExactConcatTexts", fn := fun _ => fun
  | [d1, d2] => { results := [.lit (.bool false)], args := [d1, d2] }
  | _ => none }
def FnExactConcatTextsWrongFalsely : Prop := fnExactConcatTextsRow.holds Try.pinned (OpenSpec.ofChange fnExactConcatTextsWrong)

/-- 'laws.FnExactReplicateText': WHATEVER THE INPUT: true; the input reads as it did. -/
def fnExactReplicateTextSpec : ChangeSpec := { name := "fnExactReplicateText", fn := fun _ => fun
  | [d1, d2] => { results := [.lit (.bool true)], args := [d1, d2] }
  | _ => none }
def fnExactReplicateTextRow : OpenClaim := { program := "ytdbfkgpmppdjlaa", sum := "fe71d82421a1591c031474f2a4dd1a75bd83536dd0303bfb4c925995fe5a1f80", func := "loop.example/g03106/laws.FnExactReplicateText", spec := "fnExactReplicateText", apart := false }
def FnExactReplicateTextSaid : Prop := fnExactReplicateTextRow.holds Try.pinned (OpenSpec.ofChange fnExactReplicateTextSpec)

/-- ITS FALSE NEIGHBOUR: 'it returns false'. Refute it at one input. -/
def fnExactReplicateTextWrong : ChangeSpec := { name := "fnExactReplicateText", fn := fun _ => fun
  | [d1, d2] => { results := [.lit (.bool false)], args := [d1, d2] }
  | _ => none }
def FnExactReplicateTextWrongFalsely : Prop := fnExactReplicateTextRow.holds Try.pinned (OpenSpec.ofChange fnExactReplicateTextWrong)

/-- 'laws.FnExactReverseText': WHATEVER THE INPUT: true; the input reads as it did. -/
def fnExactReverseTextSpec : ChangeSpec := { name := "fnExactReverseText", fn := fun _ => fun
  | [d] => { results := [.lit (.bool true)], args := [d] }
  | _ => none }
def fnExactReverseTextRow : OpenClaim := { program := "ytdbfkgpmppdjlaa", sum := "fe71d82421a1591c031474f2a4dd1a75bd83536dd0303bfb4c925995fe5a1f80", func := "loop.example/g03106/laws.FnExactReverseText", spec := "fnExactReverseText", apart := false }
def FnExactReverseTextSaid : Prop := fnExactReverseTextRow.holds Try.pinned (OpenSpec.ofChange fnExactReverseTextSpec)

/-- ITS FALSE NEIGHBOUR: 'it returns false'. Refute it at one input. -/
def fnExactReverseTextWrong : ChangeSpec := { name := "fnExactReverseText", fn := fun _ => fun
  | [d] => { results := [.lit (.bool false)], args := [d] }
  | _ => none }
def FnExactReverseTextWrongFalsely : Prop := fnExactReverseTextRow.holds Try.pinned (OpenSpec.ofChange fnExactReverseTextWrong)

/-- 'laws.FnExactLeftText': WHATEVER THE INPUT: true; the input reads as it did. -/
def fnExactLeftTextSpec : ChangeSpec := { name := "fnExactLeftText", fn := fun _ => fun
  | [d1, d2, d3] => { results := [.lit (.bool true)], args := [d1, d2, d3] }
  | _ => none }
def fnExactLeftTextRow : OpenClaim := { program := "ytdbfkgpmppdjlaa", sum := "fe71d82421a1591c031474f2a4dd1a75bd83536dd0303bfb4c925995fe5a1f80", func := "loop.example/g03106/laws.FnExactLeftText", spec := "fnExactLeftText", inPlace := ["internal/bytealg.MakeNoZero"], apart := false }
def FnExactLeftTextSaid : Prop := fnExactLeftTextRow.holds Try.pinned (OpenSpec.ofChange fnExactLeftTextSpec)

/-- ITS FALSE NEIGHBOUR: 'it returns false'. Refute it at one input. -/
def fnExactLeftTextWrong : ChangeSpec := { name := "fnExactLeftText", fn := fun _ => fun
  | [d1, d2, d3] => { results := [.lit (.bool false)], args := [d1, d2, d3] }
  | _ => none }
def FnExactLeftTextWrongFalsely : Prop := fnExactLeftTextRow.holds Try.pinned (OpenSpec.ofChange fnExactLeftTextWrong)

/-- 'laws.FnExactRightText': WHATEVER THE INPUT: true; the input reads as it did. -/
def fnExactRightTextSpec : ChangeSpec := { name := "fnExactRightText", fn := fun _ => fun
  | [d1, d2, d3] => { results := [.lit (.bool true)], args := [d1, d2, d3] }
  | _ => none }
def fnExactRightTextRow : OpenClaim := { program := "ytdbfkgpmppdjlaa", sum := "fe71d82421a1591c031474f2a4dd1a75bd83536dd0303bfb4c925995fe5a1f80", func := "loop.example/g03106/laws.FnExactRightText", spec := "fnExactRightText", inPlace := ["internal/bytealg.MakeNoZero"], apart := false }
def FnExactRightTextSaid : Prop := fnExactRightTextRow.holds Try.pinned (OpenSpec.ofChange fnExactRightTextSpec)

/-- ITS FALSE NEIGHBOUR: 'it returns false'. Refute it at one input. -/
def fnExactRightTextWrong : ChangeSpec := { name := "fnExactRightText", fn := fun _ => fun
  | [d1, d2, d3] => { results := [.lit (.bool false)], args := [d1, d2, d3] }
  | _ => none }
def FnExactRightTextWrongFalsely : Prop := fnExactRightTextRow.holds Try.pinned (OpenSpec.ofChange fnExactRightTextWrong)

/-- 'laws.FnExactCenterText': WHATEVER THE INPUT: true; the input reads as it did. -/
def fnExactCenterTextSpec : ChangeSpec := { name := "fnExactCenterText", fn := fun _ => fun
  | [d1, d2, d3] => { results := [.lit (.bool true)], args := [d1, d2, d3] }
  | _ => none }
def fnExactCenterTextRow : OpenClaim := { program := "ytdbfkgpmppdjlaa", sum := "fe71d82421a1591c031474f2a4dd1a75bd83536dd0303bfb4c925995fe5a1f80", func := "loop.example/g03106/laws.FnExactCenterText", spec := "fnExactCenterText", inPlace := ["internal/bytealg.MakeNoZero"], apart := false }
def FnExactCenterTextSaid : Prop := fnExactCenterTextRow.holds Try.pinned (OpenSpec.ofChange fnExactCenterTextSpec)

/-- ITS FALSE NEIGHBOUR: 'it returns false'. Refute it at one input. -/
def fnExactCenterTextWrong : ChangeSpec := { name := "fnExactCenterText", fn := fun _ => fun
  | [d1, d2, d3] => { results := [.lit (.bool false)], args := [d1, d2, d3] }
  | _ => none }
def FnExactCenterTextWrongFalsely : Prop := fnExactCenterTextRow.holds Try.pinned (OpenSpec.ofChange fnExactCenterTextWrong)

/-- 'laws.FnExactTrimText': WHATEVER THE INPUT: true; the input reads as it did. -/
def fnExactTrimTextSpec : ChangeSpec := { name := "fnExactTrimText", fn := fun _ => fun
  | [d1, d2] => { results := [.lit (.bool true)], args := [d1, d2] }
  | _ => none }
def fnExactTrimTextRow : OpenClaim := { program := "ytdbfkgpmppdjlaa", sum := "fe71d82421a1591c031474f2a4dd1a75bd83536dd0303bfb4c925995fe5a1f80", func := "loop.example/g03106/laws.FnExactTrimText", spec := "fnExactTrimText", apart := false }
def FnExactTrimTextSaid : Prop := fnExactTrimTextRow.holds Try.pinned (OpenSpec.ofChange fnExactTrimTextSpec)

/-- ITS FALSE NEIGHBOUR: 'it returns false'. Refute it at one input. -/
def fnExactTrimTextWrong : ChangeSpec := { name := "fnExactTrimText", fn := fun _ => fun
  | [d1, d2] => { results := [.lit (.bool false)], args := [d1, d2] }
  | _ => none }
def FnExactTrimTextWrongFalsely : Prop := fnExactTrimTextRow.holds Try.pinned (OpenSpec.ofChange fnExactTrimTextWrong)

/-- 'laws.FnExactMapText': WHATEVER THE INPUT: true; the input reads as it did. -/
def fnExactMapTextSpec : ChangeSpec := { name := "fnExactMapText", fn := fun _ => fun
  | [d1, d2, d3] => { results := [.lit (.bool true)], args := [d1, d2, d3] }
  | _ => none }
def fnExactMapTextRow : OpenClaim := { program := "ytdbfkgpmppdjlaa", sum := "fe71d82421a1591c031474f2a4dd1a75bd83536dd0303bfb4c925995fe5a1f80", func := "loop.example/g03106/laws.FnExactMapText", spec := "fnExactMapText", apart := false }
def FnExactMapTextSaid : Prop := fnExactMapTextRow.holds Try.pinned (OpenSpec.ofChange fnExactMapTextSpec)

/-- ITS FALSE NEIGHBOUR: 'it returns false'. Refute it at one input. -/
def fnExactMapTextWrong : ChangeSpec := { name := "fnExactMapText", fn := fun _ => fun
  | [d1, d2, d3] => { results := [.lit (.bool false)], args := [d1, d2, d3] }
  | _ => none }
def FnExactMapTextWrongFalsely : Prop := fnExactMapTextRow.holds Try.pinned (OpenSpec.ofChange fnExactMapTextWrong)

/-- 'laws.FnExactCompareTexts': WHATEVER THE INPUT: true; the input reads as it did. -/
def fnExactCompareTextsSpec : ChangeSpec := { name := "fnExactCompareTexts", fn := fun _ => fun
  | [d1, d2] => { results := [.lit (.bool true)], args := [d1, d2] }
  | _ => none }
def fnExactCompareTextsRow : OpenClaim := { program := "ytdbfkgpmppdjlaa", sum := "fe71d82421a1591c031474f2a4dd1a75bd83536dd0303bfb4c925995fe5a1f80", func := "loop.example/g03106/laws.FnExactCompareTexts", spec := "fnExactCompareTexts", inPlace := ["internal/bytealg.abigen_runtime_cmpstring"], apart := false }
def FnExactCompareTextsSaid : Prop := fnExactCompareTextsRow.holds Try.pinned (OpenSpec.ofChange fnExactCompareTextsSpec)

/-- ITS FALSE NEIGHBOUR: 'it returns false'. Refute it at one input. -/
def fnExactCompareTextsWrong : ChangeSpec := { name := "fnExactCompareTexts", fn := fun _ => fun
  | [d1, d2] => { results := [.lit (.bool false)], args := [d1, d2] }
  | _ => none }
def FnExactCompareTextsWrongFalsely : Prop := fnExactCompareTextsRow.holds Try.pinned (OpenSpec.ofChange fnExactCompareTextsWrong)

/- THE SECOND FORM. 'bulk': how many values and letters a reading holds, each counted each time it is reached (what is shared counts as often as it is met; a slice's spare places count too). A statement '..UptoSaid' is the law's where the arguments, and the package variables that the reading takes, are together of bulk at most 1048576: NARROWER than '..Said'. Prove '..Said' where nothing that the law and all that it calls make is longer than what came in: it says more and counts as full. Else prove '..UptoSaid'. A law counts once. -/
mutual
def uptoBulk {H : Type} : DataW H → Nat
  | .lit (.string bytes) => bytes.length + 1
  | .lit _ => 1
  | .nil => 1
  | .ptr d => uptoBulk d + 1
  | .slice elems spare => uptoBulkAll elems + uptoBulkAll spare + 1
  | .agg parts => uptoBulkAll parts + 1
  | .iface _ d => uptoBulk d + 1
  | .map entries => uptoBulkEntries entries + 1
  | .held _ => 1
def uptoBulkAll {H : Type} : List (DataW H) → Nat
  | [] => 0
  | d :: r => uptoBulk d + uptoBulkAll r
def uptoBulkEntries {H : Type} : List (Lit × DataW H) → Nat
  | [] => 0
  | x :: r => uptoBulkEntry x + uptoBulkEntries r
def uptoBulkEntry {H : Type} : Lit × DataW H → Nat
  | (.string bytes, d) => bytes.length + uptoBulk d + 1
  | (_, d) => uptoBulk d + 1
 end
def uptoSmall : (H : Type) → List (DataW H) → Bool := fun _ ds => decide (uptoBulkAll ds ≤ 1048576)
def OpenSpec.upto (s : _root_.Go.ChangeSpec) : _root_.Go.OpenSpec := { _root_.Go.OpenSpec.ofChange s with cond := some uptoSmall }

/-- 'laws.FnPositions', WHERE WHAT IT READS IS OF BULK AT MOST 1048576: true; the input reads as it did. -/
def fnPositionsUptoRow : OpenClaim := { program := "ytdbfkgpmppdjlaa", sum := "fe71d82421a1591c031474f2a4dd1a75bd83536dd0303bfb4c925995fe5a1f80", func := "loop.example/g03106/laws.FnPositions", spec := "fnPositions", apart := false, narrowed := true }
def FnPositionsUptoSaid : Prop := fnPositionsUptoRow.holds Try.pinned (OpenSpec.upto fnPositionsSpec)

/-- 'laws.FnExactNormalizePosition', WHERE WHAT IT READS IS OF BULK AT MOST 1048576: true; the input reads as it did. -/
def fnExactNormalizePositionUptoRow : OpenClaim := { program := "ytdbfkgpmppdjlaa", sum := "fe71d82421a1591c031474f2a4dd1a75bd83536dd0303bfb4c925995fe5a1f80", func := "loop.example/g03106/laws.FnExactNormalizePosition", spec := "fnExactNormalizePosition", apart := false, narrowed := true }
def FnExactNormalizePositionUptoSaid : Prop := fnExactNormalizePositionUptoRow.holds Try.pinned (OpenSpec.upto fnExactNormalizePositionSpec)

/-- 'laws.FnExactSectionOf', WHERE WHAT IT READS IS OF BULK AT MOST 1048576: true; the input reads as it did. -/
def fnExactSectionOfUptoRow : OpenClaim := { program := "ytdbfkgpmppdjlaa", sum := "fe71d82421a1591c031474f2a4dd1a75bd83536dd0303bfb4c925995fe5a1f80", func := "loop.example/g03106/laws.FnExactSectionOf", spec := "fnExactSectionOf", apart := false, narrowed := true }
def FnExactSectionOfUptoSaid : Prop := fnExactSectionOfUptoRow.holds Try.pinned (OpenSpec.upto fnExactSectionOfSpec)

/-- 'laws.FnExactConcatTexts', WHERE WHAT IT READS IS OF BULK AT MOST 1048576: true; the input reads as it did. -/
def fnExactConcatTextsUptoRow : OpenClaim := { program := "ytdbfkgpmppdjlaa", sum := "fe71d82421a1591c031474f2a4dd1a75bd83536dd0303bfb4c925995fe5a1f80", func := "loop.example/g03106/laws.FnExactConcatTexts", spec := "fnExactConcatTexts", apart := false, narrowed := true }
def FnExactConcatTextsUptoSaid : Prop := fnExactConcatTextsUptoRow.holds Try.pinned (OpenSpec.upto fnExactConcatTextsSpec)

/-- 'laws.FnExactReplicateText', WHERE WHAT IT READS IS OF BULK AT MOST 1048576: true; the input reads as it did. -/
def fnExactReplicateTextUptoRow : OpenClaim := { program := "ytdbfkgpmppdjlaa", sum := "fe71d82421a1591c031474f2a4dd1a75bd83536dd0303bfb4c925995fe5a1f80", func := "loop.example/g03106/laws.FnExactReplicateText", spec := "fnExactReplicateText", apart := false, narrowed := true }
def FnExactReplicateTextUptoSaid : Prop := fnExactReplicateTextUptoRow.holds Try.pinned (OpenSpec.upto fnExactReplicateTextSpec)

/-- 'laws.FnExactReverseText', WHERE WHAT IT READS IS OF BULK AT MOST 1048576: true; the input reads as it did. -/
def fnExactReverseTextUptoRow : OpenClaim := { program := "ytdbfkgpmppdjlaa", sum := "fe71d82421a1591c031474f2a4dd1a75bd83536dd0303bfb4c925995fe5a1f80", func := "loop.example/g03106/laws.FnExactReverseText", spec := "fnExactReverseText", apart := false, narrowed := true }
def FnExactReverseTextUptoSaid : Prop := fnExactReverseTextUptoRow.holds Try.pinned (OpenSpec.upto fnExactReverseTextSpec)

/-- 'laws.FnExactLeftText', WHERE WHAT IT READS IS OF BULK AT MOST 1048576: true; the input reads as it did. -/
def fnExactLeftTextUptoRow : OpenClaim := { program := "ytdbfkgpmppdjlaa", sum := "fe71d82421a1591c031474f2a4dd1a75bd83536dd0303bfb4c925995fe5a1f80", func := "loop.example/g03106/laws.FnExactLeftText", spec := "fnExactLeftText", inPlace := ["internal/bytealg.MakeNoZero"], apart := false, narrowed := true }
def FnExactLeftTextUptoSaid : Prop := fnExactLeftTextUptoRow.holds Try.pinned (OpenSpec.upto fnExactLeftTextSpec)

/-- 'laws.FnExactRightText', WHERE WHAT IT READS IS OF BULK AT MOST 1048576: true; the input reads as it did. -/
def fnExactRightTextUptoRow : OpenClaim := { program := "ytdbfkgpmppdjlaa", sum := "fe71d82421a1591c031474f2a4dd1a75bd83536dd0303bfb4c925995fe5a1f80", func := "loop.example/g03106/laws.FnExactRightText", spec := "fnExactRightText", inPlace := ["internal/bytealg.MakeNoZero"], apart := false, narrowed := true }
def FnExactRightTextUptoSaid : Prop := fnExactRightTextUptoRow.holds Try.pinned (OpenSpec.upto fnExactRightTextSpec)

/-- 'laws.FnExactCenterText', WHERE WHAT IT READS IS OF BULK AT MOST 1048576: true; the input reads as it did. -/
def fnExactCenterTextUptoRow : OpenClaim := { program := "ytdbfkgpmppdjlaa", sum := "fe71d82421a1591c031474f2a4dd1a75bd83536dd0303bfb4c925995fe5a1f80", func := "loop.example/g03106/laws.FnExactCenterText", spec := "fnExactCenterText", inPlace := ["internal/bytealg.MakeNoZero"], apart := false, narrowed := true }
def FnExactCenterTextUptoSaid : Prop := fnExactCenterTextUptoRow.holds Try.pinned (OpenSpec.upto fnExactCenterTextSpec)

/-- 'laws.FnExactTrimText', WHERE WHAT IT READS IS OF BULK AT MOST 1048576: true; the input reads as it did. -/
def fnExactTrimTextUptoRow : OpenClaim := { program := "ytdbfkgpmppdjlaa", sum := "fe71d82421a1591c031474f2a4dd1a75bd83536dd0303bfb4c925995fe5a1f80", func := "loop.example/g03106/laws.FnExactTrimText", spec := "fnExactTrimText", apart := false, narrowed := true }
def FnExactTrimTextUptoSaid : Prop := fnExactTrimTextUptoRow.holds Try.pinned (OpenSpec.upto fnExactTrimTextSpec)

/-- 'laws.FnExactMapText', WHERE WHAT IT READS IS OF BULK AT MOST 1048576: true; the input reads as it did. -/
def fnExactMapTextUptoRow : OpenClaim := { program := "ytdbfkgpmppdjlaa", sum := "fe71d82421a1591c031474f2a4dd1a75bd83536dd0303bfb4c925995fe5a1f80", func := "loop.example/g03106/laws.FnExactMapText", spec := "fnExactMapText", apart := false, narrowed := true }
def FnExactMapTextUptoSaid : Prop := fnExactMapTextUptoRow.holds Try.pinned (OpenSpec.upto fnExactMapTextSpec)

/-- 'laws.FnExactCompareTexts', WHERE WHAT IT READS IS OF BULK AT MOST 1048576: true; the input reads as it did. -/
def fnExactCompareTextsUptoRow : OpenClaim := { program := "ytdbfkgpmppdjlaa", sum := "fe71d82421a1591c031474f2a4dd1a75bd83536dd0303bfb4c925995fe5a1f80", func := "loop.example/g03106/laws.FnExactCompareTexts", spec := "fnExactCompareTexts", inPlace := ["internal/bytealg.abigen_runtime_cmpstring"], apart := false, narrowed := true }
def FnExactCompareTextsUptoSaid : Prop := fnExactCompareTextsUptoRow.holds Try.pinned (OpenSpec.upto fnExactCompareTextsSpec)

end Rows
end Go.Proofs.Ytdbfkgpmppdjlaa

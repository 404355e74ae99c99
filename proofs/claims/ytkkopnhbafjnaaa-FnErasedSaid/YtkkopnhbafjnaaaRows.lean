/-
  NARROWER THAN 'FOR EVERY INPUT', by the rows' own cells (each row's printed sentence says how): FnExactCountNodes: loops · FnExactDepthOf: loops · FnExactIsValidExpr: loops · FnExactEqualExpr: loops · FnExactEraseLines: loops.
  DERIVED. THE GIVEN ROWS OF THIS SEAT. 8 by the template 'for every input the law returns true; each argument reads behind the call as it read before'; 0 by the template 'total and deterministic' (their statements: YtkkopnhbafjnaaaTotals.lean).
  GIVEN WITH THE SEED: the statements are not yours to turn. If you find one false, say at which input.
  Laid BY PROGRAM, IN A SANDBOX (cutbox-rows.mjs): the forced cells as the released guide's own fill.sh prints them over the translation e9bf9dc1e165b010… (all of the seat's roots in one cut). By AI agents, Wed Nov 11 2026. No macro, syntax, notation, axiom, sorry.
-/
import Derived.Test.YtkkopnhbafjnaaaChecked
import GoSem.Claim
import GoSem.ClaimJoined
import GoSem.ClaimMapViews
import Derived.JoinedTies
import Derived.KernelRfl
namespace Go.Proofs.Ytkkopnhbafjnaaa
/- THE CELL 'sum', in the pinned program and in every row, IS THE sha256 OF THE DUMP (.gsa) THAT YtkkopnhbafjnaaaProg.lean LOADS. Nothing in Lean hashes anything: it is a label: what it is worth is what the hold of that sum in a sandbox is worth. -/
noncomputable def Try.pinned : Pinned := { name := "ytkkopnhbafjnaaa", sum := "e9bf9dc1e165b010c3fab1d1658fe0e53e79edf7dc385d8bd67df58995c94e22", checked := Try.checked }
namespace Rows
def none {H : Type} : Left H := { results := [], args := [] }

/-- 'laws.FnErased': WHATEVER THE INPUT: true; the input reads as it did. -/
def fnErasedSpec : ChangeSpec := { name := "fnErased", fn := fun _ => fun
  | [d] => { results := [.lit (.bool true)], args := [d] }
  | _ => none }
def fnErasedRow : OpenClaim := { program := "ytkkopnhbafjnaaa", sum := "e9bf9dc1e165b010c3fab1d1658fe0e53e79edf7dc385d8bd67df58995c94e22", func := "loop.example/g03106/laws.FnErased", spec := "fnErased", unfollowed := true, recurses := true, apart := false }
def FnErasedSaid : Prop := fnErasedRow.holds Try.pinned (OpenSpec.ofChange fnErasedSpec)

/-- ITS FALSE NEIGHBOUR: 'it returns false'. Refute it at one input. -/
def fnErasedWrong : ChangeSpec := { name := "fnErased", fn := fun _ => fun
  | [d] => { results := [.lit (.bool false)], args := [d] }
  | _ => none }
def FnErasedWrongFalsely : Prop := fnErasedRow.holds Try.pinned (OpenSpec.ofChange fnErasedWrong)

/-- 'laws.FnExactBinaryLevel': WHATEVER THE INPUT: true; the input reads as it did. -/
def fnExactBinaryLevelSpec : ChangeSpec := { name := "fnExactBinaryLevel", fn := fun _ => fun
  | [d] => { results := [.lit (.bool true)], args := [d] }
  | _ => none }
def fnExactBinaryLevelRow : OpenClaim := { program := "ytkkopnhbafjnaaa", sum := "e9bf9dc1e165b010c3fab1d1658fe0e53e79edf7dc385d8bd67df58995c94e22", func := "loop.example/g03106/laws.FnExactBinaryLevel", spec := "fnExactBinaryLevel", apart := false }
def FnExactBinaryLevelSaid : Prop := fnExactBinaryLevelRow.holds Try.pinned (OpenSpec.ofChange fnExactBinaryLevelSpec)

/-- ITS FALSE NEIGHBOUR: 'it returns false'. Refute it at one input. -/
def fnExactBinaryLevelWrong : ChangeSpec := { name := "fnExactBinaryLevel", fn := fun _ => fun
  | [d] => { results := [.lit (.bool false)], args := [d] }
  | _ => none }
def FnExactBinaryLevelWrongFalsely : Prop := fnExactBinaryLevelRow.holds Try.pinned (OpenSpec.ofChange fnExactBinaryLevelWrong)

/-- 'laws.FnExactIsUnaryOperator': WHATEVER THE INPUT: true; the input reads as it did. -/
def fnExactIsUnaryOperatorSpec : ChangeSpec := { name := "fnExactIsUnaryOperator", fn := fun _ => fun
  | [d] => { results := [.lit (.bool true)], args := [d] }
  | _ => none }
def fnExactIsUnaryOperatorRow : OpenClaim := { program := "ytkkopnhbafjnaaa", sum := "e9bf9dc1e165b010c3fab1d1658fe0e53e79edf7dc385d8bd67df58995c94e22", func := "loop.example/g03106/laws.FnExactIsUnaryOperator", spec := "fnExactIsUnaryOperator", apart := false }
def FnExactIsUnaryOperatorSaid : Prop := fnExactIsUnaryOperatorRow.holds Try.pinned (OpenSpec.ofChange fnExactIsUnaryOperatorSpec)

/-- ITS FALSE NEIGHBOUR: 'it returns false'. Refute it at one input. -/
def fnExactIsUnaryOperatorWrong : ChangeSpec := { name := "fnExactIsUnaryOperator", fn := fun _ => fun
  | [d] => { results := [.lit (.bool false)], args := [d] }
  | _ => none }
def FnExactIsUnaryOperatorWrongFalsely : Prop := fnExactIsUnaryOperatorRow.holds Try.pinned (OpenSpec.ofChange fnExactIsUnaryOperatorWrong)

/-- 'laws.FnExactCountNodes': WHATEVER THE INPUT: true; the input reads as it did. -/
def fnExactCountNodesSpec : ChangeSpec := { name := "fnExactCountNodes", fn := fun _ => fun
  | [d] => { results := [.lit (.bool true)], args := [d] }
  | _ => none }
def fnExactCountNodesRow : OpenClaim := { program := "ytkkopnhbafjnaaa", sum := "e9bf9dc1e165b010c3fab1d1658fe0e53e79edf7dc385d8bd67df58995c94e22", func := "loop.example/g03106/laws.FnExactCountNodes", spec := "fnExactCountNodes", unfollowed := true, recurses := true, loops := true, apart := false }
def FnExactCountNodesSaid : Prop := fnExactCountNodesRow.holds Try.pinned (OpenSpec.ofChange fnExactCountNodesSpec)

/-- ITS FALSE NEIGHBOUR: 'it returns false'. Refute it at one input. -/
def fnExactCountNodesWrong : ChangeSpec := { name := "fnExactCountNodes", fn := fun _ => fun
  | [d] => { results := [.lit (.bool false)], args := [d] }
  | _ => none }
def FnExactCountNodesWrongFalsely : Prop := fnExactCountNodesRow.holds Try.pinned (OpenSpec.ofChange fnExactCountNodesWrong)

/-- 'laws.FnExactDepthOf': WHATEVER THE INPUT: true; the input reads as it did. -/
def fnExactDepthOfSpec : ChangeSpec := { name := "fnExactDepthOf", fn := fun _ => fun
  | [d] => { results := [.lit (.bool true)], args := [d] }
  | _ => none }
def fnExactDepthOfRow : OpenClaim := { program := "ytkkopnhbafjnaaa", sum := "e9bf9dc1e165b010c3fab1d1658fe0e53e79edf7dc385d8bd67df58995c94e22", func := "loop.example/g03106/laws.FnExactDepthOf", spec := "fnExactDepthOf", unfollowed := true, recurses := true, loops := true, apart := false }
def FnExactDepthOfSaid : Prop := fnExactDepthOfRow.holds Try.pinned (OpenSpec.ofChange fnExactDepthOfSpec)

/-- ITS FALSE NEIGHBOUR: 'it returns false'. Refute it at one input. -/
def fnExactDepthOfWrong : ChangeSpec := { name := "fnExactDepthOf", fn := fun _ => fun
  | [d] => { results := [.lit (.bool false)], args := [d] }
  | _ => none }
def FnExactDepthOfWrongFalsely : Prop := fnExactDepthOfRow.holds Try.pinned (OpenSpec.ofChange fnExactDepthOfWrong)

/-- 'laws.FnExactIsValidExpr': WHATEVER THE INPUT: true; the input reads as it did. -/
def fnExactIsValidExprSpec : ChangeSpec := { name := "fnExactIsValidExpr", fn := fun _ => fun
  | [d] => { results := [.lit (.bool true)], args := [d] }
  | _ => none }
def fnExactIsValidExprRow : OpenClaim := { program := "ytkkopnhbafjnaaa", sum := "e9bf9dc1e165b010c3fab1d1658fe0e53e79edf7dc385d8bd67df58995c94e22", func := "loop.example/g03106/laws.FnExactIsValidExpr", spec := "fnExactIsValidExpr", unfollowed := true, recurses := true, loops := true, apart := false }
def FnExactIsValidExprSaid : Prop := fnExactIsValidExprRow.holds Try.pinned (OpenSpec.ofChange fnExactIsValidExprSpec)

/-- ITS FALSE NEIGHBOUR: 'it returns false'. Refute it at one input. -/
def fnExactIsValidExprWrong : ChangeSpec := { name := "fnExactIsValidExpr", fn := fun _ => fun
  | [d] => { results := [.lit (.bool false)], args := [d] }
  | _ => none }
def FnExactIsValidExprWrongFalsely : Prop := fnExactIsValidExprRow.holds Try.pinned (OpenSpec.ofChange fnExactIsValidExprWrong)

/-- 'laws.FnExactEqualExpr': WHATEVER THE INPUT: true; the input reads as it did. -/
def fnExactEqualExprSpec : ChangeSpec := { name := "fnExactEqualExpr", fn := fun _ => fun
  | [d1, d2] => { results := [.lit (.bool true)], args := [d1, d2] }
  | _ => none }
def fnExactEqualExprRow : OpenClaim := { program := "ytkkopnhbafjnaaa", sum := "e9bf9dc1e165b010c3fab1d1658fe0e53e79edf7dc385d8bd67df58995c94e22", func := "loop.example/g03106/laws.FnExactEqualExpr", spec := "fnExactEqualExpr", recurses := true, loops := true, apart := false }
def FnExactEqualExprSaid : Prop := fnExactEqualExprRow.holds Try.pinned (OpenSpec.ofChange fnExactEqualExprSpec)

/-- ITS FALSE NEIGHBOUR: 'it returns false'. Refute it at one input. -/
def fnExactEqualExprWrong : ChangeSpec := { name := "fnExactEqualExpr", fn := fun _ => fun
  | [d1, d2] => { results := [.lit (.bool false)], args := [d1, d2] }
  | _ => none }
def FnExactEqualExprWrongFalsely : Prop := fnExactEqualExprRow.holds Try.pinned (OpenSpec.ofChange fnExactEqualExprWrong)

/-- 'laws.FnExactEraseLines': WHATEVER THE INPUT: true; the input reads as it did. -/
def fnExactEraseLinesSpec : ChangeSpec := { name := "fnExactEraseLines", fn := fun _ => fun
  | [d] => { results := [.lit (.bool true)], args := [d] }
  | _ => none }
def fnExactEraseLinesRow : OpenClaim := { program := "ytkkopnhbafjnaaa", sum := "e9bf9dc1e165b010c3fab1d1658fe0e53e79edf7dc385d8bd67df58995c94e22", func := "loop.example/g03106/laws.FnExactEraseLines", spec := "fnExactEraseLines", unfollowed := true, recurses := true, loops := true, apart := false }
def FnExactEraseLinesSaid : Prop := fnExactEraseLinesRow.holds Try.pinned (OpenSpec.ofChange fnExactEraseLinesSpec)

/-- ITS FALSE NEIGHBOUR: 'it returns false'. Refute it at one input. -/
def fnExactEraseLinesWrong : ChangeSpec := { name := "fnExactEraseLines", fn := fun _ => fun
  | [d] => { results := [.lit (.bool false)], args := [d] }
  | _ => none }
def FnExactEraseLinesWrongFalsely : Prop := fnExactEraseLinesRow.holds Try.pinned (OpenSpec.ofChange fnExactEraseLinesWrong)

/- THE SECOND FORM. 'bulk': how many values and letters a reading holds, each counted each time it is reached (what is shared counts as often as it is met; a slice's spare places count too). A statement '..UptoSaid' is the law's where the arguments, and the package variables that the reading takes, are together of bulk at most 1048576: NARROWER than '..Said'. Prove '..Said' where nothing that the law and all that it calls make is longer than what came in: it says more and counts as full. Else prove '..UptoSaid'. A law counts once. -/
mutual
def uptoBulk {H : Type} : DataW H → Nat
  | .lit (.string bytes) => bytes.length + 1
  | .lit _ => 1
  | .nil => 1
  | .ptr d => uptoBulk d + 1
  | .slice elems spare => uptoBulkAll elems + uptoBulkAll spare + 1
  | .agg parts => uptoBulkAll parts + 1
  | .iface _ d => uptoBulk d + 1
  | .map entries => uptoBulkEntries entries + 1
  | .held _ => 1
def uptoBulkAll {H : Type} : List (DataW H) → Nat
  | [] => 0
  | d :: r => uptoBulk d + uptoBulkAll r
def uptoBulkEntries {H : Type} : List (Lit × DataW H) → Nat
  | [] => 0
  | x :: r => uptoBulkEntry x + uptoBulkEntries r
def uptoBulkEntry {H : Type} : Lit × DataW H → Nat
  | (.string bytes, d) => bytes.length + uptoBulk d + 1
  | (_, d) => uptoBulk d + 1
 end
def uptoSmall : (H : Type) → List (DataW H) → Bool := fun _ ds => decide (uptoBulkAll ds ≤ 1048576)
def OpenSpec.upto (s : _root_.Go.ChangeSpec) : _root_.Go.OpenSpec := { _root_.Go.OpenSpec.ofChange s with cond := some uptoSmall }

/-- 'laws.FnErased', WHERE WHAT IT READS IS OF BULK AT MOST 1048576: true; the input reads as it did. -/
def fnErasedUptoRow : OpenClaim := { program := "ytkkopnhbafjnaaa", sum := "e9bf9dc1e165b010c3fab1d1658fe0e53e79edf7dc385d8bd67df58995c94e22", func := "loop.example/g03106/laws.FnErased", spec := "fnErased", unfollowed := true, recurses := true, apart := false, narrowed := true }
def FnErasedUptoSaid : Prop := fnErasedUptoRow.holds Try.pinned (OpenSpec.upto fnErasedSpec)

/-- 'laws.FnExactBinaryLevel', WHERE WHAT IT READS IS OF BULK AT MOST 1048576: true; the input reads as it did. -/
def fnExactBinaryLevelUptoRow : OpenClaim := { program := "ytkkopnhbafjnaaa", sum := "e9bf9dc1e165b010c3fab1d1658fe0e53e79edf7dc385d8bd67df58995c94e22", func := "loop.example/g03106/laws.FnExactBinaryLevel", spec := "fnExactBinaryLevel", apart := false, narrowed := true }
def FnExactBinaryLevelUptoSaid : Prop := fnExactBinaryLevelUptoRow.holds Try.pinned (OpenSpec.upto fnExactBinaryLevelSpec)

/-- 'laws.FnExactIsUnaryOperator', WHERE WHAT IT READS IS OF BULK AT MOST 1048576: true; the input reads as it did. -/
def fnExactIsUnaryOperatorUptoRow : OpenClaim := { program := "ytkkopnhbafjnaaa", sum := "e9bf9dc1e165b010c3fab1d1658fe0e53e79edf7dc385d8bd67df58995c94e22", func := "loop.example/g03106/laws.FnExactIsUnaryOperator", spec := "fnExactIsUnaryOperator", apart := false, narrowed := true }
def FnExactIsUnaryOperatorUptoSaid : Prop := fnExactIsUnaryOperatorUptoRow.holds Try.pinned (OpenSpec.upto fnExactIsUnaryOperatorSpec)

/-- 'laws.FnExactCountNodes', WHERE WHAT IT READS IS OF BULK AT MOST 1048576: true; the input reads as it did. -/
def fnExactCountNodesUptoRow : OpenClaim := { program := "ytkkopnhbafjnaaa", sum := "e9bf9dc1e165b010c3fab1d1658fe0e53e79edf7dc385d8bd67df58995c94e22", func := "loop.example/g03106/laws.FnExactCountNodes", spec := "fnExactCountNodes", unfollowed := true, recurses := true, loops := true, apart := false, narrowed := true }
def FnExactCountNodesUptoSaid : Prop := fnExactCountNodesUptoRow.holds Try.pinned (OpenSpec.upto fnExactCountNodesSpec)

/-- 'laws.FnExactDepthOf', WHERE WHAT IT READS IS OF BULK AT MOST 1048576: true; the input reads as it did. -/
def fnExactDepthOfUptoRow : OpenClaim := { program := "ytkkopnhbafjnaaa", sum := "e9bf9dc1e165b010c3fab1d1658fe0e53e79edf7dc385d8bd67df58995c94e22", func := "loop.example/g03106/laws.FnExactDepthOf", spec := "fnExactDepthOf", unfollowed := true, recurses := true, loops := true, apart := false, narrowed := true }
def FnExactDepthOfUptoSaid : Prop := fnExactDepthOfUptoRow.holds Try.pinned (OpenSpec.upto fnExactDepthOfSpec)

/-- 'laws.FnExactIsValidExpr', WHERE WHAT IT READS IS OF BULK AT MOST 1048576: true; the input reads as it did. -/
def fnExactIsValidExprUptoRow : OpenClaim := { program := "ytkkopnhbafjnaaa", sum := "e9bf9dc1e165b010c3fab1d1658fe0e53e79edf7dc385d8bd67df58995c94e22", func := "loop.example/g03106/laws.FnExactIsValidExpr", spec := "fnExactIsValidExpr", unfollowed := true, recurses := true, loops := true, apart := false, narrowed := true }
def FnExactIsValidExprUptoSaid : Prop := fnExactIsValidExprUptoRow.holds Try.pinned (OpenSpec.upto fnExactIsValidExprSpec)

/-- 'laws.FnExactEqualExpr', WHERE WHAT IT READS IS OF BULK AT MOST 1048576: true; the input reads as it did. -/
def fnExactEqualExprUptoRow : OpenClaim := { program := "ytkkopnhbafjnaaa", sum := "e9bf9dc1e165b010c3fab1d1658fe0e53e79edf7dc385d8bd67df58995c94e22", func := "loop.example/g03106/laws.FnExactEqualExpr", spec := "fnExactEqualExpr", recurses := true, loops := true, apart := false, narrowed := true }
def FnExactEqualExprUptoSaid : Prop := fnExactEqualExprUptoRow.holds Try.pinned (OpenSpec.upto fnExactEqualExprSpec)

/-- 'laws.FnExactEraseLines', WHERE WHAT IT READS IS OF BULK AT MOST 1048576: true; the input reads as it did. -/
def fnExactEraseLinesUptoRow : OpenClaim := { program := "ytkkopnhbafjnaaa", sum := "e9bf9dc1e165b010c3fab1d1658fe0e53e79edf7dc385d8bd67df58995c94e22", func := "loop.example/g03106/laws.FnExactEraseLines", spec := "fnExactEraseLines", unfollowed := true, recurses := true, loops := true, apart := false, narrowed := true }
def FnExactEraseLinesUptoSaid : Prop := fnExactEraseLinesUptoRow.holds Try.pinned (OpenSpec.upto fnExactEraseLinesSpec)

end Rows
end Go.Proofs.Ytkkopnhbafjnaaa

/-
  NARROWER THAN 'FOR EVERY INPUT', by the rows' own cells (each row's printed sentence says how): FnExactLocalNames: loops, laid · FnExactCheckUnit: loops, laid.
  DERIVED. THE GIVEN ROWS OF THIS SEAT. 2 by the template 'for every input the law returns true; each argument reads behind the call as it read before'; 0 by the template 'total and deterministic' (their statements: YtckjmmapekaapaaGreatDoorTotals.lean).
  GIVEN WITH THE SEED: the statements are not yours to turn. If you find one false, say at which input.
  Laid BY PROGRAM, IN A SANDBOX (cutbox-rows.mjs): the forced cells as the released guide's own fill.sh prints them over the translation 3da0ed67304478db… (all of the seat's roots in one cut). By AI agents, Wed Nov 11 2026. No macro, syntax, notation, axiom, sorry.
-/
import Derived.Test.YtckjmmapekaapaaGreatDoorChecked
import GoSem.Claim
import GoSem.ClaimJoined
import GoSem.ClaimMapViews
import Derived.JoinedTies
import Derived.KernelRfl
namespace Go.Proofs.YtckjmmapekaapaaGreatDoor
/- THE CELL 'sum', in the pinned program and in every row, IS THE sha256 OF THE DUMP (.gsa) THAT YtckjmmapekaapaaGreatDoorProg.lean LOADS. Nothing in Lean hashes anything: it is a label: what it is worth is what the hold of that sum in a sandbox is worth. -/
noncomputable def Tryz.pinned : Pinned := { name := "ytckjmmapekaapaagreatdoor", sum := "3da0ed67304478dbe35abc63f6534bdc32d6c643bb4cb8d8c936c0a1b1d77069", checked := Tryz.checked }
namespace Rows
def none {H : Type} : Left H := { results := [], args := [] }

/- WHAT THE LISTED PACKAGE-LEVEL VARIABLES READ AS WHEN THE CALL BEGINS. Each datum BY PROGRAM (the guide's laid-datum.mjs) off the statement by which the dump's own 'gosem.cut.vars' lays the variable. In a bare row this is a premise. The card (YtckjmmapekaapaaGreatDoorCards.lean) ties it to the program's text. -/
def laid_loop_example_g03106_impl_functionNames {H : Type} : DataW H := .agg [.lit (.string [119, 114, 105, 116, 101]), .lit (.string [105, 109, 97, 103, 101]), .lit (.string [116, 121, 112, 101]), .lit (.string [105, 110, 116, 101, 103, 101, 114]), .lit (.string [115, 116, 114, 105, 110, 103]), .lit (.string [99, 115, 101, 116]), .lit (.string [108, 105, 115, 116]), .lit (.string [116, 97, 98, 108, 101]), .lit (.string [115, 101, 116]), .lit (.string [112, 117, 116]), .lit (.string [112, 117, 115, 104]), .lit (.string [103, 101, 116]), .lit (.string [112, 111, 112]), .lit (.string [112, 117, 108, 108]), .lit (.string [109, 101, 109, 98, 101, 114]), .lit (.string [105, 110, 115, 101, 114, 116]), .lit (.string [100, 101, 108, 101, 116, 101]), .lit (.string [107, 101, 121]), .lit (.string [115, 111, 114, 116]), .lit (.string [99, 111, 112, 121]), .lit (.string [102, 105, 110, 100]), .lit (.string [117, 112, 116, 111]), .lit (.string [109, 97, 110, 121]), .lit (.string [97, 110, 121]), .lit (.string [109, 97, 116, 99, 104]), .lit (.string [116, 97, 98]), .lit (.string [109, 111, 118, 101]), .lit (.string [112, 111, 115]), .lit (.string [114, 101, 112, 108]), .lit (.string [114, 101, 118, 101, 114, 115, 101]), .lit (.string [108, 101, 102, 116]), .lit (.string [114, 105, 103, 104, 116]), .lit (.string [99, 101, 110, 116, 101, 114]), .lit (.string [116, 114, 105, 109]), .lit (.string [109, 97, 112]), .lit (.string [111, 114, 100]), .lit (.string [99, 104, 97, 114]), .lit (.string [97, 98, 115]), .lit (.string [115, 101, 113]), .lit (.string [76, 101, 110]), .lit (.string [80, 111, 115]), .lit (.string [82, 80, 111, 115]), .lit (.string [84, 97, 98]), .lit (.string [82, 84, 97, 98]), .lit (.string [65, 110, 121]), .lit (.string [78, 111, 116, 65, 110, 121]), .lit (.string [83, 112, 97, 110]), .lit (.string [66, 114, 101, 97, 107]), .lit (.string [65, 114, 98]), .lit (.string [82, 101, 109]), .lit (.string [65, 114, 98, 110, 111]), .lit (.string [70, 101, 110, 99, 101]), .lit (.string [65, 98, 111, 114, 116]), .lit (.string [69, 109, 112, 116, 121]), .lit (.string [70, 97, 105, 108])]

/-- 'laws.FnExactLocalNames': WHATEVER THE INPUT: true; the input reads as it did. -/
def fnExactLocalNamesSpec : ChangeSpec := { name := "fnExactLocalNames", vars := ["loop.example/g03106/impl.functionNames"], fn := fun _ => fun
  | [d1, d2, g1] => { results := [.lit (.bool true)], args := [d1, d2], vars := [g1] }
  | _ => none }
def fnExactLocalNamesRow : OpenClaim := { program := "ytckjmmapekaapaagreatdoor", sum := "3da0ed67304478dbe35abc63f6534bdc32d6c643bb4cb8d8c936c0a1b1d77069", func := "loop.example/g03106/laws.FnExactLocalNames", spec := "fnExactLocalNames", unfollowed := true, recurses := true, named := ["loop.example/g03106/impl.functionNames"], loops := true, apart := false, laid := [("loop.example/g03106/impl.functionNames", laid_loop_example_g03106_impl_functionNames)] }
def FnExactLocalNamesSaid : Prop := fnExactLocalNamesRow.holds Tryz.pinned (OpenSpec.ofChange fnExactLocalNamesSpec)

/-- ITS FALSE NEIGHBOUR: 'it returns false'. Refute it at one input. -/
def fnExactLocalNamesWrong : ChangeSpec := { name := "fnExactLocalNames", vars := ["loop.example/g03106/impl.functionNames"], fn := fun _ => fun
  | [d1, d2, g1] => { results := [.lit (.bool false)], args := [d1, d2], vars := [g1] }
  | _ => none }
def FnExactLocalNamesWrongFalsely : Prop := fnExactLocalNamesRow.holds Tryz.pinned (OpenSpec.ofChange fnExactLocalNamesWrong)

/-- 'laws.FnExactCheckUnit': WHATEVER THE INPUT: true; the input reads as it did. -/
def fnExactCheckUnitSpec : ChangeSpec := { name := "fnExactCheckUnit", vars := ["loop.example/g03106/impl.functionNames"], fn := fun _ => fun
  | [d, g1] => { results := [.lit (.bool true)], args := [d], vars := [g1] }
  | _ => none }
def fnExactCheckUnitRow : OpenClaim := { program := "ytckjmmapekaapaagreatdoor", sum := "3da0ed67304478dbe35abc63f6534bdc32d6c643bb4cb8d8c936c0a1b1d77069", func := "loop.example/g03106/laws.FnExactCheckUnit", spec := "fnExactCheckUnit", unfollowed := true, recurses := true, named := ["loop.example/g03106/impl.functionNames"], loops := true, apart := false, laid := [("loop.example/g03106/impl.functionNames", laid_loop_example_g03106_impl_functionNames)] }
def FnExactCheckUnitSaid : Prop := fnExactCheckUnitRow.holds Tryz.pinned (OpenSpec.ofChange fnExactCheckUnitSpec)

/-- ITS FALSE NEIGHBOUR: 'it returns false'. Refute it at one input. -/
def fnExactCheckUnitWrong : ChangeSpec := { name := "fnExactCheckUnit", vars := ["loop.example/g03106/impl.functionNames"], fn := fun _ => fun
  | [d, g1] => { results := [.lit (.bool false)], args := [d], vars := [g1] }
  | _ => none }
def FnExactCheckUnitWrongFalsely : Prop := fnExactCheckUnitRow.holds Tryz.pinned (OpenSpec.ofChange fnExactCheckUnitWrong)

/- THE SECOND FORM. 'bulk': how many values and letters a reading holds, each counted each time it is reached (what is shared counts as often as it is met; a slice's spare places count too). A statement '..UptoSaid' is the law's where the arguments, and the package variables that the reading takes, are together of bulk at most 1048576: NARROWER than '..Said'. Prove '..Said' where nothing that the law and all that it calls make is longer than what came in: it says more and counts as full. Else prove '..UptoSaid'. A law counts once. -/
mutual
def uptoBulk {H : Type} : DataW H → Nat
  | .lit (.string bytes) => bytes.length + 1
  | .lit _ => 1
  | .nil => 1
  | .ptr d => uptoBulk d + 1
  | .slice elems spare => uptoBulkAll elems + uptoBulkAll spare + 1
  | .agg parts => uptoBulkAll parts + 1
  | .iface _ d => uptoBulk d + 1
  | .map entries => uptoBulkEntries entries + 1
  | .held _ => 1
def uptoBulkAll {H : Type} : List (DataW H) → Nat
  | [] => 0
  | d :: r => uptoBulk d + uptoBulkAll r
def uptoBulkEntries {H : Type} : List (Lit × DataW H) → Nat
  | [] => 0
  | x :: r => uptoBulkEntry x + uptoBulkEntries r
def uptoBulkEntry {H : Type} : Lit × DataW H → Nat
  | (.string bytes, d) => bytes.length + uptoBulk d + 1
  | (_, d) => uptoBulk d + 1
 end
def uptoSmall : (H : Type) → List (DataW H) → Bool := fun _ ds => decide (uptoBulkAll ds ≤ 1048576)
def OpenSpec.upto (s : _root_.Go.ChangeSpec) : _root_.Go.OpenSpec := { _root_.Go.OpenSpec.ofChange s with cond := some uptoSmall }

/-- 'laws.FnExactLocalNames', WHERE WHAT IT READS IS OF BULK AT MOST 1048576: true; the input reads as it did. -/
def fnExactLocalNamesUptoRow : OpenClaim := { program := "ytckjmmapekaapaagreatdoor", sum := "3da0ed67304478dbe35abc63f6534bdc32d6c643bb4cb8d8c936c0a1b1d77069", func := "loop.example/g03106/laws.FnExactLocalNames", spec := "fnExactLocalNames", unfollowed := true, recurses := true, named := ["loop.example/g03106/impl.functionNames"], loops := true, apart := false, laid := [("loop.example/g03106/impl.functionNames", laid_loop_example_g03106_impl_functionNames)], narrowed := true }
def FnExactLocalNamesUptoSaid : Prop := fnExactLocalNamesUptoRow.holds Tryz.pinned (OpenSpec.upto fnExactLocalNamesSpec)

/-- 'laws.FnExactCheckUnit', WHERE WHAT IT READS IS OF BULK AT MOST 1048576: true; the input reads as it did. -/
def fnExactCheckUnitUptoRow : OpenClaim := { program := "ytckjmmapekaapaagreatdoor", sum := "3da0ed67304478dbe35abc63f6534bdc32d6c643bb4cb8d8c936c0a1b1d77069", func := "loop.example/g03106/laws.FnExactCheckUnit", spec := "fnExactCheckUnit", unfollowed := true, recurses := true, named := ["loop.example/g03106/impl.functionNames"], loops := true, apart := false, laid := [("loop.example/g03106/impl.functionNames", laid_loop_example_g03106_impl_functionNames)], narrowed := true }
def FnExactCheckUnitUptoSaid : Prop := fnExactCheckUnitUptoRow.holds Tryz.pinned (OpenSpec.upto fnExactCheckUnitSpec)

end Rows
end Go.Proofs.YtckjmmapekaapaaGreatDoor

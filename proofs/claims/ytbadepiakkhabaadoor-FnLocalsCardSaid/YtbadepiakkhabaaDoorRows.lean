/-
  NARROWER THAN 'FOR EVERY INPUT', by the rows' own cells (each row's printed sentence says how): FnExactTypeName: laid · FnExactIsValidProgram: loops, laid · FnLocals: laid.
  DERIVED. THE GIVEN ROWS OF THIS SEAT. 3 by the template 'for every input the law returns true; each argument reads behind the call as it read before'; 0 by the template 'total and deterministic' (their statements: YtbadepiakkhabaaDoorTotals.lean).
  GIVEN WITH THE SEED: the statements are not yours to turn. If you find one false, say at which input.
  Laid BY PROGRAM, IN A SANDBOX (cutbox-rows.mjs): the forced cells as the released guide's own fill.sh prints them over the translation 934ff7a358748e7f… (all of the seat's roots in one cut). By AI agents, Wed Nov 11 2026. No macro, syntax, notation, axiom, sorry.
-/
import Derived.Test.YtbadepiakkhabaaDoorChecked
import GoSem.Claim
import GoSem.ClaimJoined
import GoSem.ClaimMapViews
import Derived.JoinedTies
import Derived.KernelRfl
namespace Go.Proofs.YtbadepiakkhabaaDoor
/- THE CELL 'sum', in the pinned program and in every row, IS THE sha256 OF THE DUMP (.gsa) THAT YtbadepiakkhabaaDoorProg.lean LOADS. Nothing in Lean hashes anything: it is a label: what it is worth is what the hold of that sum in a sandbox is worth. -/
noncomputable def Tryd.pinned : Pinned := { name := "ytbadepiakkhabaadoor", sum := "934ff7a358748e7f525418f7f132a0252d9d3558912939033f0d13d53229b8c3", checked := Tryd.checked }
namespace Rows
def none {H : Type} : Left H := { results := [], args := [] }

/- WHAT THE LISTED PACKAGE-LEVEL VARIABLES READ AS WHEN THE CALL BEGINS. Each datum BY PROGRAM (the guide's laid-datum.mjs) off the statement by which the dump's own 'gosem.cut.vars' lays the variable. In a bare row this is a premise. The card (YtbadepiakkhabaaDoorCards.lean) ties it to the program's text. -/
def laid_loop_example_g03106_impl_typeNames {H : Type} : DataW H := .agg [.lit (.string [110, 117, 108, 108]), .lit (.string [105, 110, 116, 101, 103, 101, 114]), .lit (.string [115, 116, 114, 105, 110, 103]), .lit (.string [99, 115, 101, 116]), .lit (.string [108, 105, 115, 116]), .lit (.string [116, 97, 98, 108, 101]), .lit (.string [115, 101, 116]), .lit (.string [114, 101, 99, 111, 114, 100]), .lit (.string [112, 114, 111, 99, 101, 100, 117, 114, 101]), .lit (.string [112, 114, 111, 99, 101, 100, 117, 114, 101]), .lit (.string [112, 114, 111, 99, 101, 100, 117, 114, 101]), .lit (.string [99, 111, 45, 101, 120, 112, 114, 101, 115, 115, 105, 111, 110]), .lit (.string [112, 97, 116, 116, 101, 114, 110]), .lit (.string [118, 97, 114, 105, 97, 98, 108, 101]), .lit (.string [118, 97, 114, 105, 97, 98, 108, 101]), .lit (.string [118, 97, 114, 105, 97, 98, 108, 101]), .lit (.string [118, 97, 114, 105, 97, 98, 108, 101]), .lit (.string [118, 97, 114, 105, 97, 98, 108, 101]), .lit (.string [118, 97, 114, 105, 97, 98, 108, 101]), .lit (.string [102, 114, 97, 109, 101]), .lit (.string [115, 99, 97, 110])]
def laid_loop_example_g03106_impl_operatorTexts {H : Type} : DataW H := .agg [.lit (.string []), .lit (.string [45]), .lit (.string [43]), .lit (.string [42]), .lit (.string [47]), .lit (.string [92]), .lit (.string [126]), .lit (.string [33]), .lit (.string [61]), .lit (.string [94]), .lit (.string [46]), .lit (.string [46, 62]), .lit (.string []), .lit (.string []), .lit (.string []), .lit (.string []), .lit (.string []), .lit (.string []), .lit (.string []), .lit (.string []), .lit (.string [43]), .lit (.string [45]), .lit (.string [42]), .lit (.string [47]), .lit (.string [37]), .lit (.string [94]), .lit (.string []), .lit (.string []), .lit (.string []), .lit (.string []), .lit (.string [60]), .lit (.string [60, 61]), .lit (.string [61]), .lit (.string [62, 61]), .lit (.string [62]), .lit (.string [126, 61]), .lit (.string []), .lit (.string []), .lit (.string []), .lit (.string []), .lit (.string [60, 60]), .lit (.string [60, 60, 61]), .lit (.string [61, 61]), .lit (.string [62, 62, 61]), .lit (.string [62, 62]), .lit (.string [126, 61, 61]), .lit (.string [61, 61, 61]), .lit (.string [126, 61, 61, 61]), .lit (.string []), .lit (.string []), .lit (.string [124, 124]), .lit (.string [124, 124, 124]), .lit (.string [43, 43]), .lit (.string [45, 45]), .lit (.string [42, 42]), .lit (.string []), .lit (.string []), .lit (.string []), .lit (.string []), .lit (.string []), .lit (.string [58, 61]), .lit (.string [60, 45]), .lit (.string [58, 61, 58]), .lit (.string [60, 45, 62]), .lit (.string []), .lit (.string []), .lit (.string []), .lit (.string []), .lit (.string []), .lit (.string []), .lit (.string [91, 93]), .lit (.string [91, 58, 93]), .lit (.string [116, 111]), .lit (.string [38]), .lit (.string [91, 46, 46, 46, 93]), .lit (.string [63, 63]), .lit (.string [46, 124]), .lit (.string [45, 62]), .lit (.string [61, 62]), .lit (.string [102, 105, 101, 108, 100]), .lit (.string []), .lit (.string [100, 101, 102, 101, 114])]
def laid_loop_example_g03106_impl_functionNames {H : Type} : DataW H := .agg [.lit (.string [119, 114, 105, 116, 101]), .lit (.string [105, 109, 97, 103, 101]), .lit (.string [116, 121, 112, 101]), .lit (.string [105, 110, 116, 101, 103, 101, 114]), .lit (.string [115, 116, 114, 105, 110, 103]), .lit (.string [99, 115, 101, 116]), .lit (.string [108, 105, 115, 116]), .lit (.string [116, 97, 98, 108, 101]), .lit (.string [115, 101, 116]), .lit (.string [112, 117, 116]), .lit (.string [112, 117, 115, 104]), .lit (.string [103, 101, 116]), .lit (.string [112, 111, 112]), .lit (.string [112, 117, 108, 108]), .lit (.string [109, 101, 109, 98, 101, 114]), .lit (.string [105, 110, 115, 101, 114, 116]), .lit (.string [100, 101, 108, 101, 116, 101]), .lit (.string [107, 101, 121]), .lit (.string [115, 111, 114, 116]), .lit (.string [99, 111, 112, 121]), .lit (.string [102, 105, 110, 100]), .lit (.string [117, 112, 116, 111]), .lit (.string [109, 97, 110, 121]), .lit (.string [97, 110, 121]), .lit (.string [109, 97, 116, 99, 104]), .lit (.string [116, 97, 98]), .lit (.string [109, 111, 118, 101]), .lit (.string [112, 111, 115]), .lit (.string [114, 101, 112, 108]), .lit (.string [114, 101, 118, 101, 114, 115, 101]), .lit (.string [108, 101, 102, 116]), .lit (.string [114, 105, 103, 104, 116]), .lit (.string [99, 101, 110, 116, 101, 114]), .lit (.string [116, 114, 105, 109]), .lit (.string [109, 97, 112]), .lit (.string [111, 114, 100]), .lit (.string [99, 104, 97, 114]), .lit (.string [97, 98, 115]), .lit (.string [115, 101, 113]), .lit (.string [76, 101, 110]), .lit (.string [80, 111, 115]), .lit (.string [82, 80, 111, 115]), .lit (.string [84, 97, 98]), .lit (.string [82, 84, 97, 98]), .lit (.string [65, 110, 121]), .lit (.string [78, 111, 116, 65, 110, 121]), .lit (.string [83, 112, 97, 110]), .lit (.string [66, 114, 101, 97, 107]), .lit (.string [65, 114, 98]), .lit (.string [82, 101, 109]), .lit (.string [65, 114, 98, 110, 111]), .lit (.string [70, 101, 110, 99, 101]), .lit (.string [65, 98, 111, 114, 116]), .lit (.string [69, 109, 112, 116, 121]), .lit (.string [70, 97, 105, 108])]

/-- 'laws.FnExactTypeName': WHATEVER THE INPUT: true; the input reads as it did. -/
def fnExactTypeNameSpec : ChangeSpec := { name := "fnExactTypeName", vars := ["loop.example/g03106/impl.typeNames"], fn := fun _ => fun
  | [d, g1] => { results := [.lit (.bool true)], args := [d], vars := [g1] }
  | _ => none }
def fnExactTypeNameRow : OpenClaim := { program := "ytbadepiakkhabaadoor", sum := "934ff7a358748e7f525418f7f132a0252d9d3558912939033f0d13d53229b8c3", func := "loop.example/g03106/laws.FnExactTypeName", spec := "fnExactTypeName", named := ["loop.example/g03106/impl.typeNames"], apart := false, laid := [("loop.example/g03106/impl.typeNames", laid_loop_example_g03106_impl_typeNames)] }
def FnExactTypeNameSaid : Prop := fnExactTypeNameRow.holds Tryd.pinned (OpenSpec.ofChange fnExactTypeNameSpec)

/-- ITS FALSE NEIGHBOUR: 'it returns false'. Refute it at one input. -/
def fnExactTypeNameWrong : ChangeSpec := { name := "fnExactTypeName", vars := ["loop.example/g03106/impl.typeNames"], fn := fun _ => fun
  | [d, g1] => { results := [.lit (.bool false)], args := [d], vars := [g1] }
  | _ => none }
def FnExactTypeNameWrongFalsely : Prop := fnExactTypeNameRow.holds Tryd.pinned (OpenSpec.ofChange fnExactTypeNameWrong)

/-- 'laws.FnExactIsValidProgram': WHATEVER THE INPUT: true; the input reads as it did. -/
def fnExactIsValidProgramSpec : ChangeSpec := { name := "fnExactIsValidProgram", vars := ["loop.example/g03106/impl.operatorTexts"], fn := fun _ => fun
  | [d, g1] => { results := [.lit (.bool true)], args := [d], vars := [g1] }
  | _ => none }
def fnExactIsValidProgramRow : OpenClaim := { program := "ytbadepiakkhabaadoor", sum := "934ff7a358748e7f525418f7f132a0252d9d3558912939033f0d13d53229b8c3", func := "loop.example/g03106/laws.FnExactIsValidProgram", spec := "fnExactIsValidProgram", unfollowed := true, recurses := true, named := ["loop.example/g03106/impl.operatorTexts"], loops := true, apart := false, laid := [("loop.example/g03106/impl.operatorTexts", laid_loop_example_g03106_impl_operatorTexts)] }
def FnExactIsValidProgramSaid : Prop := fnExactIsValidProgramRow.holds Tryd.pinned (OpenSpec.ofChange fnExactIsValidProgramSpec)

/-- ITS FALSE NEIGHBOUR: 'it returns false'. Refute it at one input. -/
def fnExactIsValidProgramWrong : ChangeSpec := { name := "fnExactIsValidProgram", vars := ["loop.example/g03106/impl.operatorTexts"], fn := fun _ => fun
  | [d, g1] => { results := [.lit (.bool false)], args := [d], vars := [g1] }
  | _ => none }
def FnExactIsValidProgramWrongFalsely : Prop := fnExactIsValidProgramRow.holds Tryd.pinned (OpenSpec.ofChange fnExactIsValidProgramWrong)

/-- 'laws.FnLocals': WHATEVER THE INPUT: true; the input reads as it did. -/
def fnLocalsSpec : ChangeSpec := { name := "fnLocals", vars := ["loop.example/g03106/impl.functionNames"], fn := fun _ => fun
  | [d, g1] => { results := [.lit (.bool true)], args := [d], vars := [g1] }
  | _ => none }
def fnLocalsRow : OpenClaim := { program := "ytbadepiakkhabaadoor", sum := "934ff7a358748e7f525418f7f132a0252d9d3558912939033f0d13d53229b8c3", func := "loop.example/g03106/laws.FnLocals", spec := "fnLocals", unfollowed := true, recurses := true, named := ["loop.example/g03106/impl.functionNames"], apart := false, laid := [("loop.example/g03106/impl.functionNames", laid_loop_example_g03106_impl_functionNames)] }
def FnLocalsSaid : Prop := fnLocalsRow.holds Tryd.pinned (OpenSpec.ofChange fnLocalsSpec)

/-- ITS FALSE NEIGHBOUR: 'it returns false'. Refute it at one input. -/
def fnLocalsWrong : ChangeSpec := { name := "fnLocals", vars := ["loop.example/g03106/impl.functionNames"], fn := fun _ => fun
  | [d, g1] => { results := [.lit (.bool false)], args := [d], vars := [g1] }
  | _ => none }
def FnLocalsWrongFalsely : Prop := fnLocalsRow.holds Tryd.pinned (OpenSpec.ofChange fnLocalsWrong)

/- THE SECOND FORM. 'bulk': how many values and letters a reading holds, each counted each time it is reached (what is shared counts as often as it is met; a slice's spare places count too). A statement '..UptoSaid' is the law's where the arguments, and the package variables that the reading takes, are together of bulk at most 1048576: NARROWER than '..Said'. Prove '..Said' where nothing that the law and all that it calls make is longer than what came in: it says more and counts as full. Else prove '..UptoSaid'. A law counts once. -/
mutual
def uptoBulk {H : Type} : DataW H → Nat
  | .lit (.string bytes) => bytes.length + 1
  | .lit _ => 1
  | .nil => 1
  | .ptr d => uptoBulk d + 1
  | .slice elems spare => uptoBulkAll elems + uptoBulkAll spare + 1
  | .agg parts => uptoBulkAll parts + 1
  | .iface _ d => uptoBulk d + 1
  | .map entries => uptoBulkEntries entries + 1
  | .held _ => 1
def uptoBulkAll {H : Type} : List (DataW H) → Nat
  | [] => 0
  | d :: r => uptoBulk d + uptoBulkAll r
def uptoBulkEntries {H : Type} : List (Lit × DataW H) → Nat
  | [] => 0
  | x :: r => uptoBulkEntry x + uptoBulkEntries r
def uptoBulkEntry {H : Type} : Lit × DataW H → Nat
  | (.string bytes, d) => bytes.length + uptoBulk d + 1
  | (_, d) => uptoBulk d + 1
 end
def uptoSmall : (H : Type) → List (DataW H) → Bool := fun _ ds => decide (uptoBulkAll ds ≤ 1048576)
def OpenSpec.upto (s : _root_.Go.ChangeSpec) : _root_.Go.OpenSpec := { _root_.Go.OpenSpec.ofChange s with cond := some uptoSmall }

/-- 'laws.FnExactTypeName', WHERE WHAT IT READS IS OF BULK AT MOST 1048576: true; the input reads as it did. -/
def fnExactTypeNameUptoRow : OpenClaim := { program := "ytbadepiakkhabaadoor", sum := "934ff7a358748e7f525418f7f132a0252d9d3558912939033f0d13d53229b8c3", func := "loop.example/g03106/laws.FnExactTypeName", spec := "fnExactTypeName", named := ["loop.example/g03106/impl.typeNames"], apart := false, laid := [("loop.example/g03106/impl.typeNames", laid_loop_example_g03106_impl_typeNames)], narrowed := true }
def FnExactTypeNameUptoSaid : Prop := fnExactTypeNameUptoRow.holds Tryd.pinned (OpenSpec.upto fnExactTypeNameSpec)

/-- 'laws.FnExactIsValidProgram', WHERE WHAT IT READS IS OF BULK AT MOST 1048576: true; the input reads as it did. -/
def fnExactIsValidProgramUptoRow : OpenClaim := { program := "ytbadepiakkhabaadoor", sum := "934ff7a358748e7f525418f7f132a0252d9d3558912939033f0d13d53229b8c3", func := "loop.example/g03106/laws.FnExactIsValidProgram", spec := "fnExactIsValidProgram", unfollowed := true, recurses := true, named := ["loop.example/g03106/impl.operatorTexts"], loops := true, apart := false, laid := [("loop.example/g03106/impl.operatorTexts", laid_loop_example_g03106_impl_operatorTexts)], narrowed := true }
def FnExactIsValidProgramUptoSaid : Prop := fnExactIsValidProgramUptoRow.holds Tryd.pinned (OpenSpec.upto fnExactIsValidProgramSpec)

/-- 'laws.FnLocals', WHERE WHAT IT READS IS OF BULK AT MOST 1048576: true; the input reads as it did. -/
def fnLocalsUptoRow : OpenClaim := { program := "ytbadepiakkhabaadoor", sum := "934ff7a358748e7f525418f7f132a0252d9d3558912939033f0d13d53229b8c3", func := "loop.example/g03106/laws.FnLocals", spec := "fnLocals", unfollowed := true, recurses := true, named := ["loop.example/g03106/impl.functionNames"], apart := false, laid := [("loop.example/g03106/impl.functionNames", laid_loop_example_g03106_impl_functionNames)], narrowed := true }
def FnLocalsUptoSaid : Prop := fnLocalsUptoRow.holds Tryd.pinned (OpenSpec.upto fnLocalsSpec)

end Rows
end Go.Proofs.YtbadepiakkhabaaDoor

/-
  No cell of these rows narrows 'for every input' (looked for: loops, veiled, ifaces, maps, wideKeys, modest, calm, conditions, laid).
  DERIVED. THE GIVEN ROWS OF THIS SEAT. 5 by the template 'for every input the law returns true; each argument reads behind the call as it read before'; 0 by the template 'total and deterministic' (their statements: YtbadepiakkhabaaTotals.lean).
  GIVEN WITH THE SEED: the statements are not yours to turn. If you find one false, say at which input.
  Laid BY PROGRAM, IN A SANDBOX (cutbox-rows.mjs): the forced cells as the released guide's own fill.sh prints them over the translation 23d5a3360156eebd… (all of the seat's roots in one cut). By AI agents, Wed Nov 11 2026. No macro, syntax, notation, axiom, sorry.
-/
import Derived.Test.YtbadepiakkhabaaChecked
import GoSem.Claim
import GoSem.ClaimJoined
import GoSem.ClaimMapViews
import Derived.JoinedTies
import Derived.KernelRfl
namespace Go.Proofs.Ytbadepiakkhabaa
/- THE CELL 'sum', in the pinned program and in every row, IS THE sha256 OF THE DUMP (.gsa) THAT YtbadepiakkhabaaProg.lean LOADS. Nothing in Lean hashes anything: it is a label: what it is worth is what the hold of that sum in a sandbox is worth. -/
noncomputable def Try.pinned : Pinned := { name := "ytbadepiakkhabaa", sum := "23d5a3360156eebdfe48f5122070e7d654827d3a00c441f828a54673a8f43705", checked := Try.checked }
namespace Rows
def none {H : Type} : Left H := { results := [], args := [] }

/-- 'laws.FnExactIsWellFormed': WHATEVER THE INPUT: true; the input reads as it did. -/
def fnExactIsWellFormedSpec : ChangeSpec := { name := "fnExactIsWellFormed", fn := fun _ => fun
  | [d] => { results := [.lit (.bool true)], args := [d] }
  | _ => none }
def fnExactIsWellFormedRow : OpenClaim := { program := "ytbadepiakkhabaa", sum := "23d5a3360156eebdfe48f5122070e7d654827d3a00c441f828a54673a8f43705", func := "loop.example/g03106/laws.FnExactIsWellFormed", spec := "fnExactIsWellFormed", apart := false }
def FnExactIsWellFormedSaid : Prop := fnExactIsWellFormedRow.holds Try.pinned (OpenSpec.ofChange fnExactIsWellFormedSpec)

/-- ITS FALSE NEIGHBOUR: 'it returns false'. Refute it at one input. -/
def fnExactIsWellFormedWrong : ChangeSpec := { name := "fnExactIsWellFormed", fn := fun _ => fun
  | [d] => { results := [.lit (.bool false)], args := [d] }
  | _ => none }
def FnExactIsWellFormedWrongFalsely : Prop := fnExactIsWellFormedRow.holds Try.pinned (OpenSpec.ofChange fnExactIsWellFormedWrong)

/-- 'laws.FnExactIsReference': WHATEVER THE INPUT: true; the input reads as it did. -/
def fnExactIsReferenceSpec : ChangeSpec := { name := "fnExactIsReference", fn := fun _ => fun
  | [d] => { results := [.lit (.bool true)], args := [d] }
  | _ => none }
def fnExactIsReferenceRow : OpenClaim := { program := "ytbadepiakkhabaa", sum := "23d5a3360156eebdfe48f5122070e7d654827d3a00c441f828a54673a8f43705", func := "loop.example/g03106/laws.FnExactIsReference", spec := "fnExactIsReference", apart := false }
def FnExactIsReferenceSaid : Prop := fnExactIsReferenceRow.holds Try.pinned (OpenSpec.ofChange fnExactIsReferenceSpec)

/-- ITS FALSE NEIGHBOUR: 'it returns false'. Refute it at one input. -/
def fnExactIsReferenceWrong : ChangeSpec := { name := "fnExactIsReference", fn := fun _ => fun
  | [d] => { results := [.lit (.bool false)], args := [d] }
  | _ => none }
def FnExactIsReferenceWrongFalsely : Prop := fnExactIsReferenceRow.holds Try.pinned (OpenSpec.ofChange fnExactIsReferenceWrong)

/-- 'laws.FnExactIntegerValue': WHATEVER THE INPUT: true; the input reads as it did. -/
def fnExactIntegerValueSpec : ChangeSpec := { name := "fnExactIntegerValue", fn := fun _ => fun
  | [d] => { results := [.lit (.bool true)], args := [d] }
  | _ => none }
def fnExactIntegerValueRow : OpenClaim := { program := "ytbadepiakkhabaa", sum := "23d5a3360156eebdfe48f5122070e7d654827d3a00c441f828a54673a8f43705", func := "loop.example/g03106/laws.FnExactIntegerValue", spec := "fnExactIntegerValue", apart := false }
def FnExactIntegerValueSaid : Prop := fnExactIntegerValueRow.holds Try.pinned (OpenSpec.ofChange fnExactIntegerValueSpec)

/-- ITS FALSE NEIGHBOUR: 'it returns false'. Refute it at one input. -/
def fnExactIntegerValueWrong : ChangeSpec := { name := "fnExactIntegerValue", fn := fun _ => fun
  | [d] => { results := [.lit (.bool false)], args := [d] }
  | _ => none }
def FnExactIntegerValueWrongFalsely : Prop := fnExactIntegerValueRow.holds Try.pinned (OpenSpec.ofChange fnExactIntegerValueWrong)

/-- 'laws.FnExactStringValue': WHATEVER THE INPUT: true; the input reads as it did. -/
def fnExactStringValueSpec : ChangeSpec := { name := "fnExactStringValue", fn := fun _ => fun
  | [d] => { results := [.lit (.bool true)], args := [d] }
  | _ => none }
def fnExactStringValueRow : OpenClaim := { program := "ytbadepiakkhabaa", sum := "23d5a3360156eebdfe48f5122070e7d654827d3a00c441f828a54673a8f43705", func := "loop.example/g03106/laws.FnExactStringValue", spec := "fnExactStringValue", apart := false }
def FnExactStringValueSaid : Prop := fnExactStringValueRow.holds Try.pinned (OpenSpec.ofChange fnExactStringValueSpec)

/-- ITS FALSE NEIGHBOUR: 'it returns false'. Refute it at one input. -/
def fnExactStringValueWrong : ChangeSpec := { name := "fnExactStringValue", fn := fun _ => fun
  | [d] => { results := [.lit (.bool false)], args := [d] }
  | _ => none }
def FnExactStringValueWrongFalsely : Prop := fnExactStringValueRow.holds Try.pinned (OpenSpec.ofChange fnExactStringValueWrong)

/-- 'laws.FnExactFaultText': WHATEVER THE INPUT: true; the input reads as it did. -/
def fnExactFaultTextSpec : ChangeSpec := { name := "fnExactFaultText", fn := fun _ => fun
  | [d] => { results := [.lit (.bool true)], args := [d] }
  | _ => none }
def fnExactFaultTextRow : OpenClaim := { program := "ytbadepiakkhabaa", sum := "23d5a3360156eebdfe48f5122070e7d654827d3a00c441f828a54673a8f43705", func := "loop.example/g03106/laws.FnExactFaultText", spec := "fnExactFaultText", apart := false }
def FnExactFaultTextSaid : Prop := fnExactFaultTextRow.holds Try.pinned (OpenSpec.ofChange fnExactFaultTextSpec)

/-- ITS FALSE NEIGHBOUR: 'it returns false'. Refute it at one input. -/
def fnExactFaultTextWrong : ChangeSpec := { name := "fnExactFaultText", fn := fun _ => fun
  | [d] => { results := [.lit (.bool false)], args := [d] }
  | _ => none }
def FnExactFaultTextWrongFalsely : Prop := fnExactFaultTextRow.holds Try.pinned (OpenSpec.ofChange fnExactFaultTextWrong)

/- THE SECOND FORM. 'bulk': how many values and letters a reading holds, each counted each time it is reached (what is shared counts as often as it is met; a slice's spare places count too). A statement '..UptoSaid' is the law's where the arguments, and the package variables that the reading takes, are together of bulk at most 1048576: NARROWER than '..Said'. Prove '..Said' where nothing that the law and all that it calls make is longer than what came in: it says more and counts as full. Else prove '..UptoSaid'. A law counts once. -/
mutual
def uptoBulk {H : Type} : DataW H → Nat
  | .lit (.string bytes) => bytes.length + 1
  | .lit _ => 1
  | .nil => 1
  | .ptr d => uptoBulk d + 1
  | .slice elems spare => uptoBulkAll elems + uptoBulkAll spare + 1
  | .agg parts => uptoBulkAll parts + 1
  | .iface _ d => uptoBulk d + 1
  | .map entries => uptoBulkEntries entries + 1
  | .held _ => 1
def uptoBulkAll {H : Type} : List (DataW H) → Nat
  | [] => 0
  | d :: r => uptoBulk d + uptoBulkAll r
def uptoBulkEntries {H : Type} : List (Lit × DataW H) → Nat
  | [] => 0
  | x :: r => uptoBulkEntry x + uptoBulkEntries r
def uptoBulkEntry {H : Type} : Lit × DataW H → Nat
  | (.string bytes, d) => bytes.length + uptoBulk d + 1
  | (_, d) => uptoBulk d + 1
 end
def uptoSmall : (H : Type) → List (DataW H) → Bool := fun _ ds => decide (uptoBulkAll ds ≤ 1048576)
def OpenSpec.upto (s : _root_.Go.ChangeSpec) : _root_.Go.OpenSpec := { _root_.Go.OpenSpec.ofChange s with cond := some uptoSmall }

/-- 'laws.FnExactIsWellFormed', WHERE WHAT IT READS IS OF BULK AT MOST 1048576: true; the input reads as it did. -/
def fnExactIsWellFormedUptoRow : OpenClaim := { program := "ytbadepiakkhabaa", sum := "23d5a3360156eebdfe48f5122070e7d654827d3a00c441f828a54673a8f43705", func := "loop.example/g03106/laws.FnExactIsWellFormed", spec := "fnExactIsWellFormed", apart := false, narrowed := true }
def FnExactIsWellFormedUptoSaid : Prop := fnExactIsWellFormedUptoRow.holds Try.pinned (OpenSpec.upto fnExactIsWellFormedSpec)

/-- 'laws.FnExactIsReference', WHERE WHAT IT READS IS OF BULK AT MOST 1048576: true; the input reads as it did. -/
def fnExactIsReferenceUptoRow : OpenClaim := { program := "ytbadepiakkhabaa", sum := "23d5a3360156eebdfe48f5122070e7d654827d3a00c441f828a54673a8f43705", func := "loop.example/g03106/laws.FnExactIsReference", spec := "fnExactIsReference", apart := false, narrowed := true }
def FnExactIsReferenceUptoSaid : Prop := fnExactIsReferenceUptoRow.holds Try.pinned (OpenSpec.upto fnExactIsReferenceSpec)

/-- 'laws.FnExactIntegerValue', WHERE WHAT IT READS IS OF BULK AT MOST 1048576: true; the input reads as it did. -/
def fnExactIntegerValueUptoRow : OpenClaim := { program := "ytbadepiakkhabaa", sum := "23d5a3360156eebdfe48f5122070e7d654827d3a00c441f828a54673a8f43705", func := "loop.example/g03106/laws.FnExactIntegerValue", spec := "fnExactIntegerValue", apart := false, narrowed := true }
def FnExactIntegerValueUptoSaid : Prop := fnExactIntegerValueUptoRow.holds Try.pinned (OpenSpec.upto fnExactIntegerValueSpec)

/-- 'laws.FnExactStringValue', WHERE WHAT IT READS IS OF BULK AT MOST 1048576: true; the input reads as it did. -/
def fnExactStringValueUptoRow : OpenClaim := { program := "ytbadepiakkhabaa", sum := "23d5a3360156eebdfe48f5122070e7d654827d3a00c441f828a54673a8f43705", func := "loop.example/g03106/laws.FnExactStringValue", spec := "fnExactStringValue", apart := false, narrowed := true }
def FnExactStringValueUptoSaid : Prop := fnExactStringValueUptoRow.holds Try.pinned (OpenSpec.upto fnExactStringValueSpec)

/-- 'laws.FnExactFaultText', WHERE WHAT IT READS IS OF BULK AT MOST 1048576: true; the input reads as it did. -/
def fnExactFaultTextUptoRow : OpenClaim := { program := "ytbadepiakkhabaa", sum := "23d5a3360156eebdfe48f5122070e7d654827d3a00c441f828a54673a8f43705", func := "loop.example/g03106/laws.FnExactFaultText", spec := "fnExactFaultText", apart := false, narrowed := true }
def FnExactFaultTextUptoSaid : Prop := fnExactFaultTextUptoRow.holds Try.pinned (OpenSpec.upto fnExactFaultTextSpec)

end Rows
end Go.Proofs.Ytbadepiakkhabaa

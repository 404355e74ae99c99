/-
  No cell of these rows narrows 'for every input' (looked for: loops, veiled, ifaces, maps, wideKeys, modest, calm, conditions, laid).
  DERIVED. THE GIVEN ROWS OF THIS SEAT. 10 by the template 'for every input the law returns true; each argument reads behind the call as it read before'; 0 by the template 'total and deterministic' (their statements: YtpidcanlnieceaaTotals.lean).
  GIVEN WITH THE SEED: the statements are not yours to turn. If you find one false, say at which input.
  Laid BY PROGRAM, IN A SANDBOX (cutbox-rows.mjs): the forced cells as the released guide's own fill.sh prints them over the translation c2ce6866e577d55b… (all of the seat's roots in one cut). By AI agents, Wed Nov 11 2026. No macro, syntax, notation, axiom, sorry.
-/
import Derived.Test.YtpidcanlnieceaaChecked
import GoSem.Claim
import GoSem.ClaimJoined
import GoSem.ClaimMapViews
import Derived.JoinedTies
import Derived.KernelRfl
namespace Go.Proofs.Ytpidcanlnieceaa
/- THE CELL 'sum', in the pinned program and in every row, IS THE sha256 OF THE DUMP (.gsa) THAT YtpidcanlnieceaaProg.lean LOADS. Nothing in Lean hashes anything: it is a label: what it is worth is what the hold of that sum in a sandbox is worth. -/
noncomputable def Try.pinned : Pinned := { name := "ytpidcanlnieceaa", sum := "c2ce6866e577d55bfd0b525356cf661048ac60480b6aea8385eb5d4a7827ca07", checked := Try.checked }
namespace Rows
def none {H : Type} : Left H := { results := [], args := [] }

/-- 'laws.FnDeMorgan': WHATEVER THE INPUT: true; the input reads as it did. -/
def fnDeMorganSpec : ChangeSpec := { name := "fnDeMorgan", fn := fun _ => fun
  | [d] => { results := [.lit (.bool true)], args := [d] }
  | _ => none }
def fnDeMorganRow : OpenClaim := { program := "ytpidcanlnieceaa", sum := "c2ce6866e577d55bfd0b525356cf661048ac60480b6aea8385eb5d4a7827ca07", func := "loop.example/g03106/laws.FnDeMorgan", spec := "fnDeMorgan", apart := false }
def FnDeMorganSaid : Prop := fnDeMorganRow.holds Try.pinned (OpenSpec.ofChange fnDeMorganSpec)

/-- ITS FALSE NEIGHBOUR: 'it returns false'. Refute it at one input. -/
def fnDeMorganWrong : ChangeSpec := { name := "fnDeMorgan", fn := fun _ => fun
  | [d] => { results := [.lit (.bool false)], args := [d] }
  | _ => none }
def FnDeMorganWrongFalsely : Prop := fnDeMorganRow.holds Try.pinned (OpenSpec.ofChange fnDeMorganWrong)

/-- 'laws.FnExactHasByte': WHATEVER THE INPUT: true; the input reads as it did. -/
def fnExactHasByteSpec : ChangeSpec := { name := "fnExactHasByte", fn := fun _ => fun
  | [d1, d2] => { results := [.lit (.bool true)], args := [d1, d2] }
  | _ => none }
def fnExactHasByteRow : OpenClaim := { program := "ytpidcanlnieceaa", sum := "c2ce6866e577d55bfd0b525356cf661048ac60480b6aea8385eb5d4a7827ca07", func := "loop.example/g03106/laws.FnExactHasByte", spec := "fnExactHasByte", apart := false }
def FnExactHasByteSaid : Prop := fnExactHasByteRow.holds Try.pinned (OpenSpec.ofChange fnExactHasByteSpec)

/-- ITS FALSE NEIGHBOUR: 'it returns false'. Refute it at one input. -/
def fnExactHasByteWrong : ChangeSpec := { name := "fnExactHasByte", fn := fun _ => fun
  | [d1, d2] => { results := [.lit (.bool false)], args := [d1, d2] }
  | _ => none }
def FnExactHasByteWrongFalsely : Prop := fnExactHasByteRow.holds Try.pinned (OpenSpec.ofChange fnExactHasByteWrong)

/-- 'laws.FnExactNewCset': WHATEVER THE INPUT: true; the input reads as it did. -/
def fnExactNewCsetSpec : ChangeSpec := { name := "fnExactNewCset", fn := fun _ => fun
  | [d] => { results := [.lit (.bool true)], args := [d] }
  | _ => none }
def fnExactNewCsetRow : OpenClaim := { program := "ytpidcanlnieceaa", sum := "c2ce6866e577d55bfd0b525356cf661048ac60480b6aea8385eb5d4a7827ca07", func := "loop.example/g03106/laws.FnExactNewCset", spec := "fnExactNewCset", apart := false }
def FnExactNewCsetSaid : Prop := fnExactNewCsetRow.holds Try.pinned (OpenSpec.ofChange fnExactNewCsetSpec)

/-- ITS FALSE NEIGHBOUR: 'it returns false'. Refute it at one input. -/
def fnExactNewCsetWrong : ChangeSpec := { name := "fnExactNewCset", fn := fun _ => fun
  | [d] => { results := [.lit (.bool false)], args := [d] }
  | _ => none }
def FnExactNewCsetWrongFalsely : Prop := fnExactNewCsetRow.holds Try.pinned (OpenSpec.ofChange fnExactNewCsetWrong)

/-- 'laws.FnExactRangeCset': WHATEVER THE INPUT: true; the input reads as it did. -/
def fnExactRangeCsetSpec : ChangeSpec := { name := "fnExactRangeCset", fn := fun _ => fun
  | [d1, d2] => { results := [.lit (.bool true)], args := [d1, d2] }
  | _ => none }
def fnExactRangeCsetRow : OpenClaim := { program := "ytpidcanlnieceaa", sum := "c2ce6866e577d55bfd0b525356cf661048ac60480b6aea8385eb5d4a7827ca07", func := "loop.example/g03106/laws.FnExactRangeCset", spec := "fnExactRangeCset", apart := false }
def FnExactRangeCsetSaid : Prop := fnExactRangeCsetRow.holds Try.pinned (OpenSpec.ofChange fnExactRangeCsetSpec)

/-- ITS FALSE NEIGHBOUR: 'it returns false'. Refute it at one input. -/
def fnExactRangeCsetWrong : ChangeSpec := { name := "fnExactRangeCset", fn := fun _ => fun
  | [d1, d2] => { results := [.lit (.bool false)], args := [d1, d2] }
  | _ => none }
def FnExactRangeCsetWrongFalsely : Prop := fnExactRangeCsetRow.holds Try.pinned (OpenSpec.ofChange fnExactRangeCsetWrong)

/-- 'laws.FnExactCsetText': WHATEVER THE INPUT: true; the input reads as it did. -/
def fnExactCsetTextSpec : ChangeSpec := { name := "fnExactCsetText", fn := fun _ => fun
  | [d] => { results := [.lit (.bool true)], args := [d] }
  | _ => none }
def fnExactCsetTextRow : OpenClaim := { program := "ytpidcanlnieceaa", sum := "c2ce6866e577d55bfd0b525356cf661048ac60480b6aea8385eb5d4a7827ca07", func := "loop.example/g03106/laws.FnExactCsetText", spec := "fnExactCsetText", apart := false }
def FnExactCsetTextSaid : Prop := fnExactCsetTextRow.holds Try.pinned (OpenSpec.ofChange fnExactCsetTextSpec)

/-- ITS FALSE NEIGHBOUR: 'it returns false'. Refute it at one input. -/
def fnExactCsetTextWrong : ChangeSpec := { name := "fnExactCsetText", fn := fun _ => fun
  | [d] => { results := [.lit (.bool false)], args := [d] }
  | _ => none }
def FnExactCsetTextWrongFalsely : Prop := fnExactCsetTextRow.holds Try.pinned (OpenSpec.ofChange fnExactCsetTextWrong)

/-- 'laws.FnExactCsetSize': WHATEVER THE INPUT: true; the input reads as it did. -/
def fnExactCsetSizeSpec : ChangeSpec := { name := "fnExactCsetSize", fn := fun _ => fun
  | [d] => { results := [.lit (.bool true)], args := [d] }
  | _ => none }
def fnExactCsetSizeRow : OpenClaim := { program := "ytpidcanlnieceaa", sum := "c2ce6866e577d55bfd0b525356cf661048ac60480b6aea8385eb5d4a7827ca07", func := "loop.example/g03106/laws.FnExactCsetSize", spec := "fnExactCsetSize", apart := false }
def FnExactCsetSizeSaid : Prop := fnExactCsetSizeRow.holds Try.pinned (OpenSpec.ofChange fnExactCsetSizeSpec)

/-- ITS FALSE NEIGHBOUR: 'it returns false'. Refute it at one input. -/
def fnExactCsetSizeWrong : ChangeSpec := { name := "fnExactCsetSize", fn := fun _ => fun
  | [d] => { results := [.lit (.bool false)], args := [d] }
  | _ => none }
def FnExactCsetSizeWrongFalsely : Prop := fnExactCsetSizeRow.holds Try.pinned (OpenSpec.ofChange fnExactCsetSizeWrong)

/-- 'laws.FnExactUnionCsets': WHATEVER THE INPUT: true; the input reads as it did. -/
def fnExactUnionCsetsSpec : ChangeSpec := { name := "fnExactUnionCsets", fn := fun _ => fun
  | [d1, d2] => { results := [.lit (.bool true)], args := [d1, d2] }
  | _ => none }
def fnExactUnionCsetsRow : OpenClaim := { program := "ytpidcanlnieceaa", sum := "c2ce6866e577d55bfd0b525356cf661048ac60480b6aea8385eb5d4a7827ca07", func := "loop.example/g03106/laws.FnExactUnionCsets", spec := "fnExactUnionCsets", apart := false }
def FnExactUnionCsetsSaid : Prop := fnExactUnionCsetsRow.holds Try.pinned (OpenSpec.ofChange fnExactUnionCsetsSpec)

/-- ITS FALSE NEIGHBOUR: 'it returns false'. Refute it at one input. -/
def fnExactUnionCsetsWrong : ChangeSpec := { name := "fnExactUnionCsets", fn := fun _ => fun
  | [d1, d2] => { results := [.lit (.bool false)], args := [d1, d2] }
  | _ => none }
def FnExactUnionCsetsWrongFalsely : Prop := fnExactUnionCsetsRow.holds Try.pinned (OpenSpec.ofChange fnExactUnionCsetsWrong)

/-- 'laws.FnExactIntersectCsets': WHATEVER THE INPUT: true; the input reads as it did. -/
def fnExactIntersectCsetsSpec : ChangeSpec := { name := "fnExactIntersectCsets", fn := fun _ => fun
  | [d1, d2] => { results := [.lit (.bool true)], args := [d1, d2] }
  | _ => none }
def fnExactIntersectCsetsRow : OpenClaim := { program := "ytpidcanlnieceaa", sum := "c2ce6866e577d55bfd0b525356cf661048ac60480b6aea8385eb5d4a7827ca07", func := "loop.example/g03106/laws.FnExactIntersectCsets", spec := "fnExactIntersectCsets", apart := false }
def FnExactIntersectCsetsSaid : Prop := fnExactIntersectCsetsRow.holds Try.pinned (OpenSpec.ofChange fnExactIntersectCsetsSpec)

/-- ITS FALSE NEIGHBOUR: 'it returns false'. Refute it at one input. -/
def fnExactIntersectCsetsWrong : ChangeSpec := { name := "fnExactIntersectCsets", fn := fun _ => fun
  | [d1, d2] => { results := [.lit (.bool false)], args := [d1, d2] }
  | _ => none }
def FnExactIntersectCsetsWrongFalsely : Prop := fnExactIntersectCsetsRow.holds Try.pinned (OpenSpec.ofChange fnExactIntersectCsetsWrong)

/-- 'laws.FnExactSubtractCsets': WHATEVER THE INPUT: true; the input reads as it did. -/
def fnExactSubtractCsetsSpec : ChangeSpec := { name := "fnExactSubtractCsets", fn := fun _ => fun
  | [d1, d2] => { results := [.lit (.bool true)], args := [d1, d2] }
  | _ => none }
def fnExactSubtractCsetsRow : OpenClaim := { program := "ytpidcanlnieceaa", sum := "c2ce6866e577d55bfd0b525356cf661048ac60480b6aea8385eb5d4a7827ca07", func := "loop.example/g03106/laws.FnExactSubtractCsets", spec := "fnExactSubtractCsets", apart := false }
def FnExactSubtractCsetsSaid : Prop := fnExactSubtractCsetsRow.holds Try.pinned (OpenSpec.ofChange fnExactSubtractCsetsSpec)

/-- ITS FALSE NEIGHBOUR: 'it returns false'. Refute it at one input. -/
def fnExactSubtractCsetsWrong : ChangeSpec := { name := "fnExactSubtractCsets", fn := fun _ => fun
  | [d1, d2] => { results := [.lit (.bool false)], args := [d1, d2] }
  | _ => none }
def FnExactSubtractCsetsWrongFalsely : Prop := fnExactSubtractCsetsRow.holds Try.pinned (OpenSpec.ofChange fnExactSubtractCsetsWrong)

/-- 'laws.FnExactComplementCset': WHATEVER THE INPUT: true; the input reads as it did. -/
def fnExactComplementCsetSpec : ChangeSpec := { name := "fnExactComplementCset", fn := fun _ => fun
  | [d] => { results := [.lit (.bool true)], args := [d] }
  | _ => none }
def fnExactComplementCsetRow : OpenClaim := { program := "ytpidcanlnieceaa", sum := "c2ce6866e577d55bfd0b525356cf661048ac60480b6aea8385eb5d4a7827ca07", func := "loop.example/g03106/laws.FnExactComplementCset", spec := "fnExactComplementCset", apart := false }
def FnExactComplementCsetSaid : Prop := fnExactComplementCsetRow.holds Try.pinned (OpenSpec.ofChange fnExactComplementCsetSpec)

/-- ITS FALSE NEIGHBOUR: 'it returns false'. Refute it at one input. -/
def fnExactComplementCsetWrong : ChangeSpec := { name := "fnExactComplementCset", fn := fun _ => fun
  | [d] => { results := [.lit (.bool false)], args := [d] }
  | _ => none }
def FnExactComplementCsetWrongFalsely : Prop := fnExactComplementCsetRow.holds Try.pinned (OpenSpec.ofChange fnExactComplementCsetWrong)

/- THE SECOND FORM. 'bulk': how many values and letters a reading holds, each counted each time it is reached (what is shared counts as often as it is met; a slice's spare places count too). A statement '..UptoSaid' is the law's where the arguments, and the package variables that the reading takes, are together of bulk at most 1048576: NARROWER than '..Said'. Prove '..Said' where nothing that the law and all that it calls make is longer than what came in: it says more and counts as full. Else prove '..UptoSaid'. A law counts once. -/
mutual
def uptoBulk {H : Type} : DataW H → Nat
  | .lit (.string bytes) => bytes.length + 1
  | .lit _ => 1
  | .nil => 1
  | .ptr d => uptoBulk d + 1
  | .slice elems spare => uptoBulkAll elems + uptoBulkAll spare + 1
  | .agg parts => uptoBulkAll parts + 1
  | .iface _ d => uptoBulk d + 1
  | .map entries => uptoBulkEntries entries + 1
  | .held _ => 1
def uptoBulkAll {H : Type} : List (DataW H) → Nat
  | [] => 0
  | d :: r => uptoBulk d + uptoBulkAll r
def uptoBulkEntries {H : Type} : List (Lit × DataW H) → Nat
  | [] => 0
  | x :: r => uptoBulkEntry x + uptoBulkEntries r
def uptoBulkEntry {H : Type} : Lit × DataW H → Nat
  | (.string bytes, d) => bytes.length + uptoBulk d + 1
  | (_, d) => uptoBulk d + 1
 end
def uptoSmall : (H : Type) → List (DataW H) → Bool := fun _ ds => decide (uptoBulkAll ds ≤ 1048576)
def OpenSpec.upto (s : _root_.Go.ChangeSpec) : _root_.Go.OpenSpec := { _root_.Go.OpenSpec.ofChange s with cond := some uptoSmall }

/-- 'laws.FnDeMorgan', WHERE WHAT IT READS IS OF BULK AT MOST 1048576: true; the input reads as it did. -/
def fnDeMorganUptoRow : OpenClaim := { program := "ytpidcanlnieceaa", sum := "c2ce6866e577d55bfd0b525356cf661048ac60480b6aea8385eb5d4a7827ca07", func := "loop.example/g03106/laws.FnDeMorgan", spec := "fnDeMorgan", apart := false, narrowed := true }
def FnDeMorganUptoSaid : Prop := fnDeMorganUptoRow.holds Try.pinned (OpenSpec.upto fnDeMorganSpec)

/-- 'laws.FnExactHasByte', WHERE WHAT IT READS IS OF BULK AT MOST 1048576: true; the input reads as it did. -/
def fnExactHasByteUptoRow : OpenClaim := { program := "ytpidcanlnieceaa", sum := "c2ce6866e577d55bfd0b525356cf661048ac60480b6aea8385eb5d4a7827ca07", func := "loop.example/g03106/laws.FnExactHasByte", spec := "fnExactHasByte", apart := false, narrowed := true }
def FnExactHasByteUptoSaid : Prop := fnExactHasByteUptoRow.holds Try.pinned (OpenSpec.upto fnExactHasByteSpec)

/-- 'laws.FnExactNewCset', WHERE WHAT IT READS IS OF BULK AT MOST 1048576: true; the input reads as it did. -/
def fnExactNewCsetUptoRow : OpenClaim := { program := "ytpidcanlnieceaa", sum := "c2ce6866e577d55bfd0b525356cf661048ac60480b6aea8385eb5d4a7827ca07", func := "loop.example/g03106/laws.FnExactNewCset", spec := "fnExactNewCset", apart := false, narrowed := true }
def FnExactNewCsetUptoSaid : Prop := fnExactNewCsetUptoRow.holds Try.pinned (OpenSpec.upto fnExactNewCsetSpec)

/-- 'laws.FnExactRangeCset', WHERE WHAT IT READS IS OF BULK AT MOST 1048576: true; the input reads as it did. -/
def fnExactRangeCsetUptoRow : OpenClaim := { program := "ytpidcanlnieceaa", sum := "c2ce6866e577d55bfd0b525356cf661048ac60480b6aea8385eb5d4a7827ca07", func := "loop.example/g03106/laws.FnExactRangeCset", spec := "fnExactRangeCset", apart := false, narrowed := true }
def FnExactRangeCsetUptoSaid : Prop := fnExactRangeCsetUptoRow.holds Try.pinned (OpenSpec.upto fnExactRangeCsetSpec)

/-- 'laws.FnExactCsetText', WHERE WHAT IT READS IS OF BULK AT MOST 1048576: true; the input reads as it did. -/
def fnExactCsetTextUptoRow : OpenClaim := { program := "ytpidcanlnieceaa", sum := "c2ce6866e577d55bfd0b525356cf661048ac60480b6aea8385eb5d4a7827ca07", func := "loop.example/g03106/laws.FnExactCsetText", spec := "fnExactCsetText", apart := false, narrowed := true }
def FnExactCsetTextUptoSaid : Prop := fnExactCsetTextUptoRow.holds Try.pinned (OpenSpec.upto fnExactCsetTextSpec)

/-- 'laws.FnExactCsetSize', WHERE WHAT IT READS IS OF BULK AT MOST 1048576: true; the input reads as it did. -/
def fnExactCsetSizeUptoRow : OpenClaim := { program := "ytpidcanlnieceaa", sum := "c2ce6866e577d55bfd0b525356cf661048ac60480b6aea8385eb5d4a7827ca07", func := "loop.example/g03106/laws.FnExactCsetSize", spec := "fnExactCsetSize", apart := false, narrowed := true }
def FnExactCsetSizeUptoSaid : Prop := fnExactCsetSizeUptoRow.holds Try.pinned (OpenSpec.upto fnExactCsetSizeSpec)

/-- 'laws.FnExactUnionCsets', WHERE WHAT IT READS IS OF BULK AT MOST 1048576: true; the input reads as it did. -/
def fnExactUnionCsetsUptoRow : OpenClaim := { program := "ytpidcanlnieceaa", sum := "c2ce6866e577d55bfd0b525356cf661048ac60480b6aea8385eb5d4a7827ca07", func := "loop.example/g03106/laws.FnExactUnionCsets", spec := "fnExactUnionCsets", apart := false, narrowed := true }
def FnExactUnionCsetsUptoSaid : Prop := fnExactUnionCsetsUptoRow.holds Try.pinned (OpenSpec.upto fnExactUnionCsetsSpec)

/-- 'laws.FnExactIntersectCsets', WHERE WHAT IT READS IS OF BULK AT MOST 1048576: true; the input reads as it did. -/
def fnExactIntersectCsetsUptoRow : OpenClaim := { program := "ytpidcanlnieceaa", sum := "c2ce6866e577d55bfd0b525356cf661048ac60480b6aea8385eb5d4a7827ca07", func := "loop.example/g03106/laws.FnExactIntersectCsets", spec := "fnExactIntersectCsets", apart := false, narrowed := true }
def FnExactIntersectCsetsUptoSaid : Prop := fnExactIntersectCsetsUptoRow.holds Try.pinned (OpenSpec.upto fnExactIntersectCsetsSpec)

/-- 'laws.FnExactSubtractCsets', WHERE WHAT IT READS IS OF BULK AT MOST 1048576: true; the input reads as it did. -/
def fnExactSubtractCsetsUptoRow : OpenClaim := { program := "ytpidcanlnieceaa", sum := "c2ce6866e577d55bfd0b525356cf661048ac60480b6aea8385eb5d4a7827ca07", func := "loop.example/g03106/laws.FnExactSubtractCsets", spec := "fnExactSubtractCsets", apart := false, narrowed := true }
def FnExactSubtractCsetsUptoSaid : Prop := fnExactSubtractCsetsUptoRow.holds Try.pinned (OpenSpec.upto fnExactSubtractCsetsSpec)

/-- 'laws.FnExactComplementCset', WHERE WHAT IT READS IS OF BULK AT MOST 1048576: true; the input reads as it did. -/
def fnExactComplementCsetUptoRow : OpenClaim := { program := "ytpidcanlnieceaa", sum := "c2ce6866e577d55bfd0b525356cf661048ac60480b6aea8385eb5d4a7827ca07", func := "loop.example/g03106/laws.FnExactComplementCset", spec := "fnExactComplementCset", apart := false, narrowed := true }
def FnExactComplementCsetUptoSaid : Prop := fnExactComplementCsetUptoRow.holds Try.pinned (OpenSpec.upto fnExactComplementCsetSpec)

end Rows
end Go.Proofs.Ytpidcanlnieceaa

/-
  NARROWER THAN 'FOR EVERY INPUT', by the rows' own cells (each row's printed sentence says how): FnLiterals: ifaces, laid · FnExactUnquoteText: ifaces, laid · FnExactUnquoteCset: ifaces, laid · FnExactIntegerOfText: laid.
  DERIVED. THE GIVEN ROWS OF THIS SEAT. 4 by the template 'for every input the law returns true; each argument reads behind the call as it read before'; 0 by the template 'total and deterministic' (their statements: YtjgnigalodebkaaDoorTotals.lean).
  GIVEN WITH THE SEED: the statements are not yours to turn. If you find one false, say at which input.
  Laid BY PROGRAM, IN A SANDBOX (cutbox-rows.mjs): the forced cells as the released guide's own fill.sh prints them over the translation f15f28703cd9004e… (all of the seat's roots in one cut). By AI agents, Wed Nov 11 2026. No macro, syntax, notation, axiom, sorry.
-/
import Derived.Test.YtjgnigalodebkaaDoorChecked
import GoSem.PinnedTables
import GoSem.Claim
import GoSem.ClaimJoined
import GoSem.ClaimMapViews
import Derived.JoinedTies
import Derived.KernelRfl
namespace Go.Proofs.YtjgnigalodebkaaDoor
/- THE CELL 'sum', in the pinned program and in every row, IS THE sha256 OF THE DUMP (.gsa) THAT YtjgnigalodebkaaDoorProg.lean LOADS. Nothing in Lean hashes anything: it is a label: what it is worth is what the hold of that sum in a sandbox is worth. -/
noncomputable def Tryd.pinned : Pinned := { name := "ytjgnigalodebkaadoor", sum := "f15f28703cd9004e91e4efc05d094a1e381d73aef981a2416dedbca5256458aa", checked := Tryd.checked }
namespace Rows
def none {H : Type} : Left H := { results := [], args := [] }

/- WHAT THE LISTED PACKAGE-LEVEL VARIABLES READ AS WHEN THE CALL BEGINS. Each datum BY PROGRAM (the guide's laid-datum.mjs) off the statement by which the dump's own 'gosem.cut.vars' lays the variable. In a bare row this is a premise. The card (YtjgnigalodebkaaDoorCards.lean) ties it to the program's text. -/
def laid_loop_example_g03106_impl_errBadEscape {H : Type} : DataW H := .iface "*errors.errorString" (.ptr (.agg [.lit (.string [97, 32, 98, 97, 99, 107, 115, 108, 97, 115, 104, 32, 98, 101, 103, 105, 110, 115, 32, 110, 111, 32, 101, 115, 99, 97, 112, 101])]))
def laid_unicode_utf8_acceptRanges {H : Type} : DataW H := .agg [.agg [.lit (.int .u8 128), .lit (.int .u8 191)], .agg [.lit (.int .u8 160), .lit (.int .u8 191)], .agg [.lit (.int .u8 128), .lit (.int .u8 159)], .agg [.lit (.int .u8 144), .lit (.int .u8 191)], .agg [.lit (.int .u8 128), .lit (.int .u8 143)], .agg [.lit (.int .u8 0), .lit (.int .u8 0)], .agg [.lit (.int .u8 0), .lit (.int .u8 0)], .agg [.lit (.int .u8 0), .lit (.int .u8 0)], .agg [.lit (.int .u8 0), .lit (.int .u8 0)], .agg [.lit (.int .u8 0), .lit (.int .u8 0)], .agg [.lit (.int .u8 0), .lit (.int .u8 0)], .agg [.lit (.int .u8 0), .lit (.int .u8 0)], .agg [.lit (.int .u8 0), .lit (.int .u8 0)], .agg [.lit (.int .u8 0), .lit (.int .u8 0)], .agg [.lit (.int .u8 0), .lit (.int .u8 0)], .agg [.lit (.int .u8 0), .lit (.int .u8 0)]]
/-- One of Go's own tables, pinned by name: the form's constant. -/
def laid_unicode_utf8_first : DataW Unit := Go.Pinned.utf8First

/-- 'laws.FnLiterals': WHATEVER THE INPUT: true; the input reads as it did. -/
def fnLiteralsSpec : ChangeSpec := { name := "fnLiterals", vars := ["loop.example/g03106/impl.errBadEscape"], fn := fun _ => fun
  | [d, g1] => { results := [.lit (.bool true)], args := [d], vars := [g1] }
  | _ => none }
def fnLiteralsRow : OpenClaim := { program := "ytjgnigalodebkaadoor", sum := "f15f28703cd9004e91e4efc05d094a1e381d73aef981a2416dedbca5256458aa", func := "loop.example/g03106/laws.FnLiterals", spec := "fnLiterals", inPlace := ["internal/bytealg.IndexByteString", "internal/reflectlite.TypeOf"], unfollowed := true, recurses := true, named := ["loop.example/g03106/impl.errBadEscape"], ifaces := true, apart := false, laid := [("loop.example/g03106/impl.errBadEscape", laid_loop_example_g03106_impl_errBadEscape)] }
def FnLiteralsSaid : Prop := fnLiteralsRow.holds Tryd.pinned (OpenSpec.ofChange fnLiteralsSpec)

/-- ITS FALSE NEIGHBOUR: 'it returns false'. Refute it at one input. -/
def fnLiteralsWrong : ChangeSpec := { name := "fnLiterals", vars := ["loop.example/g03106/impl.errBadEscape"], fn := fun _ => fun
  | [d, g1] => { results := [.lit (.bool false)], args := [d], vars := [g1] }
  | _ => none }
def FnLiteralsWrongFalsely : Prop := fnLiteralsRow.holds Tryd.pinned (OpenSpec.ofChange fnLiteralsWrong)

/-- 'laws.FnExactUnquoteText': WHATEVER THE INPUT: true; the input reads as it did. -/
def fnExactUnquoteTextSpec : ChangeSpec := { name := "fnExactUnquoteText", vars := ["loop.example/g03106/impl.errBadEscape"], fn := fun _ => fun
  | [d, g1] => { results := [.lit (.bool true)], args := [d], vars := [g1] }
  | _ => none }
def fnExactUnquoteTextRow : OpenClaim := { program := "ytjgnigalodebkaadoor", sum := "f15f28703cd9004e91e4efc05d094a1e381d73aef981a2416dedbca5256458aa", func := "loop.example/g03106/laws.FnExactUnquoteText", spec := "fnExactUnquoteText", inPlace := ["internal/bytealg.IndexByteString", "internal/reflectlite.TypeOf"], unfollowed := true, recurses := true, named := ["loop.example/g03106/impl.errBadEscape"], ifaces := true, apart := false, laid := [("loop.example/g03106/impl.errBadEscape", laid_loop_example_g03106_impl_errBadEscape)] }
def FnExactUnquoteTextSaid : Prop := fnExactUnquoteTextRow.holds Tryd.pinned (OpenSpec.ofChange fnExactUnquoteTextSpec)

/-- ITS FALSE NEIGHBOUR: 'it returns false'. Refute it at one input. -/
def fnExactUnquoteTextWrong : ChangeSpec := { name := "fnExactUnquoteText", vars := ["loop.example/g03106/impl.errBadEscape"], fn := fun _ => fun
  | [d, g1] => { results := [.lit (.bool false)], args := [d], vars := [g1] }
  | _ => none }
def FnExactUnquoteTextWrongFalsely : Prop := fnExactUnquoteTextRow.holds Tryd.pinned (OpenSpec.ofChange fnExactUnquoteTextWrong)

/-- 'laws.FnExactUnquoteCset': WHATEVER THE INPUT: true; the input reads as it did. -/
def fnExactUnquoteCsetSpec : ChangeSpec := { name := "fnExactUnquoteCset", vars := ["loop.example/g03106/impl.errBadEscape"], fn := fun _ => fun
  | [d, g1] => { results := [.lit (.bool true)], args := [d], vars := [g1] }
  | _ => none }
def fnExactUnquoteCsetRow : OpenClaim := { program := "ytjgnigalodebkaadoor", sum := "f15f28703cd9004e91e4efc05d094a1e381d73aef981a2416dedbca5256458aa", func := "loop.example/g03106/laws.FnExactUnquoteCset", spec := "fnExactUnquoteCset", inPlace := ["internal/bytealg.IndexByteString", "internal/reflectlite.TypeOf"], unfollowed := true, recurses := true, named := ["loop.example/g03106/impl.errBadEscape"], ifaces := true, apart := false, laid := [("loop.example/g03106/impl.errBadEscape", laid_loop_example_g03106_impl_errBadEscape)] }
def FnExactUnquoteCsetSaid : Prop := fnExactUnquoteCsetRow.holds Tryd.pinned (OpenSpec.ofChange fnExactUnquoteCsetSpec)

/-- ITS FALSE NEIGHBOUR: 'it returns false'. Refute it at one input. -/
def fnExactUnquoteCsetWrong : ChangeSpec := { name := "fnExactUnquoteCset", vars := ["loop.example/g03106/impl.errBadEscape"], fn := fun _ => fun
  | [d, g1] => { results := [.lit (.bool false)], args := [d], vars := [g1] }
  | _ => none }
def FnExactUnquoteCsetWrongFalsely : Prop := fnExactUnquoteCsetRow.holds Tryd.pinned (OpenSpec.ofChange fnExactUnquoteCsetWrong)

/-- 'laws.FnExactIntegerOfText': WHATEVER THE INPUT: true; the input reads as it did. -/
def fnExactIntegerOfTextSpec : ChangeSpec := { name := "fnExactIntegerOfText", fn := fun _ => fun
  | [d] => { results := [.lit (.bool true)], args := [d] }
  | _ => none }
def fnExactIntegerOfTextRow : OpenClaim := { program := "ytjgnigalodebkaadoor", sum := "f15f28703cd9004e91e4efc05d094a1e381d73aef981a2416dedbca5256458aa", func := "loop.example/g03106/laws.FnExactIntegerOfText", spec := "fnExactIntegerOfText", inPlace := ["internal/bytealg.IndexByteString", "internal/bytealg.IndexString"], named := ["unicode/utf8.first", "unicode/utf8.acceptRanges", "internal/bytealg.MaxLen"], apart := false, laid := [("unicode/utf8.acceptRanges", laid_unicode_utf8_acceptRanges), ("unicode/utf8.first", laid_unicode_utf8_first)] }
def FnExactIntegerOfTextSaid : Prop := fnExactIntegerOfTextRow.holds Tryd.pinned (OpenSpec.ofChange fnExactIntegerOfTextSpec)

/-- ITS FALSE NEIGHBOUR: 'it returns false'. Refute it at one input. -/
def fnExactIntegerOfTextWrong : ChangeSpec := { name := "fnExactIntegerOfText", fn := fun _ => fun
  | [d] => { results := [.lit (.bool false)], args := [d] }
  | _ => none }
def FnExactIntegerOfTextWrongFalsely : Prop := fnExactIntegerOfTextRow.holds Tryd.pinned (OpenSpec.ofChange fnExactIntegerOfTextWrong)

/- THE SECOND FORM. 'bulk': how many values and letters a reading holds, each counted each time it is reached (what is shared counts as often as it is met; a slice's spare places count too). A statement '..UptoSaid' is the law's where the arguments, and the package variables that the reading takes, are together of bulk at most 1048576: NARROWER than '..Said'. Prove '..Said' where nothing that the law and all that it calls make is longer than what came in: it says more and counts as full. Else prove '..UptoSaid'. A law counts once. -/
mutual
def uptoBulk {H : Type} : DataW H → Nat
  | .lit (.string bytes) => bytes.length + 1
  | .lit _ => 1
  | .nil => 1
  | .ptr d => uptoBulk d + 1
  | .slice elems spare => uptoBulkAll elems + uptoBulkAll spare + 1
  | .agg parts => uptoBulkAll parts + 1
  | .iface _ d => uptoBulk d + 1
  | .map entries => uptoBulkEntries entries + 1
  | .held _ => 1
def uptoBulkAll {H : Type} : List (DataW H) → Nat
  | [] => 0
  | d :: r => uptoBulk d + uptoBulkAll r
def uptoBulkEntries {H : Type} : List (Lit × DataW H) → Nat
  | [] => 0
  | x :: r => uptoBulkEntry x + uptoBulkEntries r
def uptoBulkEntry {H : Type} : Lit × DataW H → Nat
  | (.string bytes, d) => bytes.length + uptoBulk d + 1
  | (_, d) => uptoBulk d + 1
 end
def uptoSmall : (H : Type) → List (DataW H) → Bool := fun _ ds => decide (uptoBulkAll ds ≤ 1048576)
def OpenSpec.upto (s : _root_.Go.ChangeSpec) : _root_.Go.OpenSpec := { _root_.Go.OpenSpec.ofChange s with cond := some uptoSmall }

/-- 'laws.FnLiterals', WHERE WHAT IT READS IS OF BULK AT MOST 1048576: true; the input reads as it did. -/
def fnLiteralsUptoRow : OpenClaim := { program := "ytjgnigalodebkaadoor", sum := "f15f28703cd9004e91e4efc05d094a1e381d73aef981a2416dedbca5256458aa", func := "loop.example/g03106/laws.FnLiterals", spec := "fnLiterals", inPlace := ["internal/bytealg.IndexByteString", "internal/reflectlite.TypeOf"], unfollowed := true, recurses := true, named := ["loop.example/g03106/impl.errBadEscape"], ifaces := true, apart := false, laid := [("loop.example/g03106/impl.errBadEscape", laid_loop_example_g03106_impl_errBadEscape)], narrowed := true }
def FnLiteralsUptoSaid : Prop := fnLiteralsUptoRow.holds Tryd.pinned (OpenSpec.upto fnLiteralsSpec)

/-- 'laws.FnExactUnquoteText', WHERE WHAT IT READS IS OF BULK AT MOST 1048576: true; the input reads as it did. -/
def fnExactUnquoteTextUptoRow : OpenClaim := { program := "ytjgnigalodebkaadoor", sum := "f15f28703cd9004e91e4efc05d094a1e381d73aef981a2416dedbca5256458aa", func := "loop.example/g03106/laws.FnExactUnquoteText", spec := "fnExactUnquoteText", inPlace := ["internal/bytealg.IndexByteString", "internal/reflectlite.TypeOf"], unfollowed := true, recurses := true, named := ["loop.example/g03106/impl.errBadEscape"], ifaces := true, apart := false, laid := [("loop.example/g03106/impl.errBadEscape", laid_loop_example_g03106_impl_errBadEscape)], narrowed := true }
def FnExactUnquoteTextUptoSaid : Prop := fnExactUnquoteTextUptoRow.holds Tryd.pinned (OpenSpec.upto fnExactUnquoteTextSpec)

/-- 'laws.FnExactUnquoteCset', WHERE WHAT IT READS IS OF BULK AT MOST 1048576: true; the input reads as it did. -/
def fnExactUnquoteCsetUptoRow : OpenClaim := { program := "ytjgnigalodebkaadoor", sum := "f15f28703cd9004e91e4efc05d094a1e381d73aef981a2416dedbca5256458aa", func := "loop.example/g03106/laws.FnExactUnquoteCset", spec := "fnExactUnquoteCset", inPlace := ["internal/bytealg.IndexByteString", "internal/reflectlite.TypeOf"], unfollowed := true, recurses := true, named := ["loop.example/g03106/impl.errBadEscape"], ifaces := true, apart := false, laid := [("loop.example/g03106/impl.errBadEscape", laid_loop_example_g03106_impl_errBadEscape)], narrowed := true }
def FnExactUnquoteCsetUptoSaid : Prop := fnExactUnquoteCsetUptoRow.holds Tryd.pinned (OpenSpec.upto fnExactUnquoteCsetSpec)

/-- 'laws.FnExactIntegerOfText', WHERE WHAT IT READS IS OF BULK AT MOST 1048576: true; the input reads as it did. -/
def fnExactIntegerOfTextUptoRow : OpenClaim := { program := "ytjgnigalodebkaadoor", sum := "f15f28703cd9004e91e4efc05d094a1e381d73aef981a2416dedbca5256458aa", func := "loop.example/g03106/laws.FnExactIntegerOfText", spec := "fnExactIntegerOfText", inPlace := ["internal/bytealg.IndexByteString", "internal/bytealg.IndexString"], named := ["unicode/utf8.first", "unicode/utf8.acceptRanges", "internal/bytealg.MaxLen"], apart := false, laid := [("unicode/utf8.acceptRanges", laid_unicode_utf8_acceptRanges), ("unicode/utf8.first", laid_unicode_utf8_first)], narrowed := true }
def FnExactIntegerOfTextUptoSaid : Prop := fnExactIntegerOfTextUptoRow.holds Tryd.pinned (OpenSpec.upto fnExactIntegerOfTextSpec)

end Rows
end Go.Proofs.YtjgnigalodebkaaDoor

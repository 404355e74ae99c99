/-
  NARROWER THAN 'FOR EVERY INPUT', by the rows' own cells (each row's printed sentence says how): FnTokensAgain: ifaces, laid.
  DERIVED. THE GIVEN ROWS OF THIS SEAT. 1 by the template 'for every input the law returns true; each argument reads behind the call as it read before'; 0 by the template 'total and deterministic' (their statements: YtfhakailbikjkaaGreatDoorTotals.lean).
  GIVEN WITH THE SEED: the statements are not yours to turn. If you find one false, say at which input.
  Laid BY PROGRAM, IN A SANDBOX (cutbox-rows.mjs): the forced cells as the released guide's own fill.sh prints them over the translation 3d7f8b37dfd1596c… (all of the seat's roots in one cut). By AI agents, Wed Nov 11 2026. No macro, syntax, notation, axiom, sorry.
-/
import Derived.Test.YtfhakailbikjkaaGreatDoorChecked
import GoSem.Claim
import GoSem.ClaimJoined
import GoSem.ClaimMapViews
import Derived.JoinedTies
import Derived.KernelRfl
namespace Go.Proofs.YtfhakailbikjkaaGreatDoor
/- THE CELL 'sum', in the pinned program and in every row, IS THE sha256 OF THE DUMP (.gsa) THAT YtfhakailbikjkaaGreatDoorProg.lean LOADS. Nothing in Lean hashes anything: it is a label: what it is worth is what the hold of that sum in a sandbox is worth. -/
noncomputable def Tryz.pinned : Pinned := { name := "ytfhakailbikjkaagreatdoor", sum := "3d7f8b37dfd1596c416fb9e8e0336cdb705d9e6412d03efe19ec15bd26855cbc", checked := Tryz.checked }
namespace Rows
def none {H : Type} : Left H := { results := [], args := [] }

/- WHAT THE LISTED PACKAGE-LEVEL VARIABLES READ AS WHEN THE CALL BEGINS. Each datum BY PROGRAM (the guide's laid-datum.mjs) off the statement by which the dump's own 'gosem.cut.vars' lays the variable. In a bare row this is a premise. The card (YtfhakailbikjkaaGreatDoorCards.lean) ties it to the program's text. -/
def laid_loop_example_g03106_impl_errBadEscape {H : Type} : DataW H := .iface "*errors.errorString" (.ptr (.agg [.lit (.string [97, 32, 98, 97, 99, 107, 115, 108, 97, 115, 104, 32, 98, 101, 103, 105, 110, 115, 32, 110, 111, 32, 101, 115, 99, 97, 112, 101])]))

/-- 'laws.FnTokensAgain': WHATEVER THE INPUT: true; the input reads as it did. -/
def fnTokensAgainSpec : ChangeSpec := { name := "fnTokensAgain", vars := ["loop.example/g03106/impl.errBadEscape"], fn := fun _ => fun
  | [d, g1] => { results := [.lit (.bool true)], args := [d], vars := [g1] }
  | _ => none }
def fnTokensAgainRow : OpenClaim := { program := "ytfhakailbikjkaagreatdoor", sum := "3d7f8b37dfd1596c416fb9e8e0336cdb705d9e6412d03efe19ec15bd26855cbc", func := "loop.example/g03106/laws.FnTokensAgain", spec := "fnTokensAgain", inPlace := ["internal/bytealg.IndexByteString", "internal/reflectlite.TypeOf", "internal/abi.NoEscape", "internal/bytealg.MakeNoZero"], unfollowed := true, recurses := true, named := ["loop.example/g03106/impl.errBadEscape"], ifaces := true, apart := false, laid := [("loop.example/g03106/impl.errBadEscape", laid_loop_example_g03106_impl_errBadEscape)] }
def FnTokensAgainSaid : Prop := fnTokensAgainRow.holds Tryz.pinned (OpenSpec.ofChange fnTokensAgainSpec)

/-- ITS FALSE NEIGHBOUR: 'it returns false'. Refute it at one input. -/
def fnTokensAgainWrong : ChangeSpec := { name := "fnTokensAgain", vars := ["loop.example/g03106/impl.errBadEscape"], fn := fun _ => fun
  | [d, g1] => { results := [.lit (.bool false)], args := [d], vars := [g1] }
  | _ => none }
def FnTokensAgainWrongFalsely : Prop := fnTokensAgainRow.holds Tryz.pinned (OpenSpec.ofChange fnTokensAgainWrong)

/- THE SECOND FORM. 'bulk': how many values and letters a reading holds, each counted each time it is reached (what is shared counts as often as it is met; a slice's spare places count too). A statement '..UptoSaid' is the law's where the arguments, and the package variables that the reading takes, are together of bulk at most 1048576: NARROWER than '..Said'. Prove '..Said' where nothing that the law and all that it calls make is longer than what came in: it says more and counts as full. Else prove '..UptoSaid'. A law counts once. -/
mutual
def uptoBulk {H : Type} : DataW H → Nat
  | .lit (.string bytes) => bytes.length + 1
  | .lit _ => 1
  | .nil => 1
  | .ptr d => uptoBulk d + 1
  | .slice elems spare => uptoBulkAll elems + uptoBulkAll spare + 1
  | .agg parts => uptoBulkAll parts + 1
  | .iface _ d => uptoBulk d + 1
  | .map entries => uptoBulkEntries entries + 1
  | .held _ => 1
def uptoBulkAll {H : Type} : List (DataW H) → Nat
  | [] => 0
  | d :: r => uptoBulk d + uptoBulkAll r
def uptoBulkEntries {H : Type} : List (Lit × DataW H) → Nat
  | [] => 0
  | x :: r => uptoBulkEntry x + uptoBulkEntries r
def uptoBulkEntry {H : Type} : Lit × DataW H → Nat
  | (.string bytes, d) => bytes.length + uptoBulk d + 1
  | (_, d) => uptoBulk d + 1
 end
def uptoSmall : (H : Type) → List (DataW H) → Bool := fun _ ds => decide (uptoBulkAll ds ≤ 1048576)
def OpenSpec.upto (s : _root_.Go.ChangeSpec) : _root_.Go.OpenSpec := { _root_.Go.OpenSpec.ofChange s with cond := some uptoSmall }

/-- 'laws.FnTokensAgain', WHERE WHAT IT READS IS OF BULK AT MOST 1048576: true; the input reads as it did. -/
def fnTokensAgainUptoRow : OpenClaim := { program := "ytfhakailbikjkaagreatdoor", sum := "3d7f8b37dfd1596c416fb9e8e0336cdb705d9e6412d03efe19ec15bd26855cbc", func := "loop.example/g03106/laws.FnTokensAgain", spec := "fnTokensAgain", inPlace := ["internal/bytealg.IndexByteString", "internal/reflectlite.TypeOf", "internal/abi.NoEscape", "internal/bytealg.MakeNoZero"], unfollowed := true, recurses := true, named := ["loop.example/g03106/impl.errBadEscape"], ifaces := true, apart := false, laid := [("loop.example/g03106/impl.errBadEscape", laid_loop_example_g03106_impl_errBadEscape)], narrowed := true }
def FnTokensAgainUptoSaid : Prop := fnTokensAgainUptoRow.holds Tryz.pinned (OpenSpec.upto fnTokensAgainSpec)

end Rows
end Go.Proofs.YtfhakailbikjkaaGreatDoor

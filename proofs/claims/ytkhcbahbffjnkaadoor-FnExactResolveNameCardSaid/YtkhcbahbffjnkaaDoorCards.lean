/-
  DERIVED. GIVEN WITH THE SEED: THE CARDS: each row of YtkhcbahbffjnkaaDoorRows.lean that lists a variable, with what it lists TIED to the program's text (the seventh form; the later family's looks); each row that meets fmt, with fmt's text TOLD by the authors' own Lean function (tested against real Go, not proved from fmt's source: count such statements apart). THE CARD IS WHAT COUNTS. Prove the row's statement (the work); the ties are given (YtkhcbahbffjnkaaDoorTie.lean); close each card by the builder's one call (the guide's Derived/Test/ToyasCard.lean, 'card_holds'). Laid BY PROGRAM, IN A SANDBOX (cutbox-door.mjs). By AI agents, Wed Nov 11 2026. No macro, syntax, notation, axiom, sorry.
-/
import Derived.Test.YtkhcbahbffjnkaaDoorRows
import GoSem.ClaimSeven
namespace Go.Proofs.YtkhcbahbffjnkaaDoor
namespace Rows

/-- THE TIED CARD OF 'laws.FnLocals'. -/
def fnLocalsCard : Claim7 := { stood := { row := fnLocalsRow, standIns := [], harness := (true, "f83aaf2fd796be0ed3b2ebab9b3561f812a9faf4e05a464345670fc299202e8f"), looks := false }, kinds := [], alts := [], laidByText := true, laidKinds := [.data], laidTests := true, laidLooks := .later }
def FnLocalsCardSaid : Prop := Claim7.holds Tryd.pinned (.plain (OpenSpec.ofChange fnLocalsSpec)) fnLocalsCard

/-- THE TIED CARD OF 'laws.FnExactFunctionName'. -/
def fnExactFunctionNameCard : Claim7 := { stood := { row := fnExactFunctionNameRow, standIns := [], harness := (true, "f83aaf2fd796be0ed3b2ebab9b3561f812a9faf4e05a464345670fc299202e8f"), looks := false }, kinds := [], alts := [], laidByText := true, laidKinds := [.data], laidTests := true, laidLooks := .later }
def FnExactFunctionNameCardSaid : Prop := Claim7.holds Tryd.pinned (.plain (OpenSpec.ofChange fnExactFunctionNameSpec)) fnExactFunctionNameCard

/-- THE TIED CARD OF 'laws.FnExactFunctionNumber'. -/
def fnExactFunctionNumberCard : Claim7 := { stood := { row := fnExactFunctionNumberRow, standIns := [], harness := (true, "f83aaf2fd796be0ed3b2ebab9b3561f812a9faf4e05a464345670fc299202e8f"), looks := false }, kinds := [], alts := [], laidByText := true, laidKinds := [.data], laidTests := true, laidLooks := .later }
def FnExactFunctionNumberCardSaid : Prop := Claim7.holds Tryd.pinned (.plain (OpenSpec.ofChange fnExactFunctionNumberSpec)) fnExactFunctionNumberCard

/-- THE TIED CARD OF 'laws.FnExactResolveName'. -/
def fnExactResolveNameCard : Claim7 := { stood := { row := fnExactResolveNameRow, standIns := [], harness := (true, "f83aaf2fd796be0ed3b2ebab9b3561f812a9faf4e05a464345670fc299202e8f"), looks := false }, kinds := [], alts := [], laidByText := true, laidKinds := [.data], laidTests := true, laidLooks := .later }
def FnExactResolveNameCardSaid : Prop := Claim7.holds Tryd.pinned (.plain (OpenSpec.ofChange fnExactResolveNameSpec)) fnExactResolveNameCard

/-- THE SECOND FORM's CARD OF 'laws.FnLocals'. -/
def fnLocalsUptoCard : Claim7 := { stood := { row := fnLocalsUptoRow, standIns := [], harness := (true, "f83aaf2fd796be0ed3b2ebab9b3561f812a9faf4e05a464345670fc299202e8f"), looks := false }, kinds := [], alts := [], laidByText := true, laidKinds := [.data], laidTests := true, laidLooks := .later }
def FnLocalsUptoCardSaid : Prop := Claim7.holds Tryd.pinned (.plain (OpenSpec.upto fnLocalsSpec)) fnLocalsUptoCard

/-- THE SECOND FORM's CARD OF 'laws.FnExactFunctionName'. -/
def fnExactFunctionNameUptoCard : Claim7 := { stood := { row := fnExactFunctionNameUptoRow, standIns := [], harness := (true, "f83aaf2fd796be0ed3b2ebab9b3561f812a9faf4e05a464345670fc299202e8f"), looks := false }, kinds := [], alts := [], laidByText := true, laidKinds := [.data], laidTests := true, laidLooks := .later }
def FnExactFunctionNameUptoCardSaid : Prop := Claim7.holds Tryd.pinned (.plain (OpenSpec.upto fnExactFunctionNameSpec)) fnExactFunctionNameUptoCard

/-- THE SECOND FORM's CARD OF 'laws.FnExactFunctionNumber'. -/
def fnExactFunctionNumberUptoCard : Claim7 := { stood := { row := fnExactFunctionNumberUptoRow, standIns := [], harness := (true, "f83aaf2fd796be0ed3b2ebab9b3561f812a9faf4e05a464345670fc299202e8f"), looks := false }, kinds := [], alts := [], laidByText := true, laidKinds := [.data], laidTests := true, laidLooks := .later }
def FnExactFunctionNumberUptoCardSaid : Prop := Claim7.holds Tryd.pinned (.plain (OpenSpec.upto fnExactFunctionNumberSpec)) fnExactFunctionNumberUptoCard

/-- THE SECOND FORM's CARD OF 'laws.FnExactResolveName'. -/
def fnExactResolveNameUptoCard : Claim7 := { stood := { row := fnExactResolveNameUptoRow, standIns := [], harness := (true, "f83aaf2fd796be0ed3b2ebab9b3561f812a9faf4e05a464345670fc299202e8f"), looks := false }, kinds := [], alts := [], laidByText := true, laidKinds := [.data], laidTests := true, laidLooks := .later }
def FnExactResolveNameUptoCardSaid : Prop := Claim7.holds Tryd.pinned (.plain (OpenSpec.upto fnExactResolveNameSpec)) fnExactResolveNameUptoCard
end Rows
end Go.Proofs.YtkhcbahbffjnkaaDoor

/-
  DERIVED. GIVEN WITH THE SEED: THE CARDS: each row of YtjgnigalodebkaaDoorRows.lean that lists a variable, with what it lists TIED to the program's text (the seventh form; the later family's looks); each row that meets fmt, with fmt's text TOLD by the authors' own Lean function (tested against real Go, not proved from fmt's source: count such statements apart). THE CARD IS WHAT COUNTS. Prove the row's statement (the work); the ties are given (YtjgnigalodebkaaDoorTie.lean); close each card by the builder's one call (the guide's Derived/Test/ToyasCard.lean, 'card_holds'). Laid BY PROGRAM, IN A SANDBOX (cutbox-door.mjs). By AI agents, Wed Nov 11 2026. No macro, syntax, notation, axiom, sorry.
-/
import Derived.Test.YtjgnigalodebkaaDoorRows
import GoSem.ClaimSeven
namespace Go.Proofs.YtjgnigalodebkaaDoor
namespace Rows

/-- THE TIED CARD OF 'laws.FnLiterals'. -/
def fnLiteralsCard : Claim7 := { stood := { row := fnLiteralsRow, standIns := [], harness := (true, "2dbe44df1bce58bb209bca7def790e38b655d999a950032fc76d5b3f118470df"), looks := true }, kinds := [], alts := [], laidByText := true, laidKinds := [.sentinel], laidTests := true, laidLooks := .later }
def FnLiteralsCardSaid : Prop := Claim7.holds Tryd.pinned (.plain (OpenSpec.ofChange fnLiteralsSpec)) fnLiteralsCard

/-- THE TIED CARD OF 'laws.FnExactUnquoteText'. -/
def fnExactUnquoteTextCard : Claim7 := { stood := { row := fnExactUnquoteTextRow, standIns := [], harness := (true, "2dbe44df1bce58bb209bca7def790e38b655d999a950032fc76d5b3f118470df"), looks := true }, kinds := [], alts := [], laidByText := true, laidKinds := [.sentinel], laidTests := true, laidLooks := .later }
def FnExactUnquoteTextCardSaid : Prop := Claim7.holds Tryd.pinned (.plain (OpenSpec.ofChange fnExactUnquoteTextSpec)) fnExactUnquoteTextCard

/-- THE TIED CARD OF 'laws.FnExactUnquoteCset'. -/
def fnExactUnquoteCsetCard : Claim7 := { stood := { row := fnExactUnquoteCsetRow, standIns := [], harness := (true, "2dbe44df1bce58bb209bca7def790e38b655d999a950032fc76d5b3f118470df"), looks := true }, kinds := [], alts := [], laidByText := true, laidKinds := [.sentinel], laidTests := true, laidLooks := .later }
def FnExactUnquoteCsetCardSaid : Prop := Claim7.holds Tryd.pinned (.plain (OpenSpec.ofChange fnExactUnquoteCsetSpec)) fnExactUnquoteCsetCard

/-- THE TIED CARD OF 'laws.FnExactIntegerOfText'. -/
def fnExactIntegerOfTextCard : Claim7 := { stood := { row := fnExactIntegerOfTextRow, standIns := [], harness := (true, "2dbe44df1bce58bb209bca7def790e38b655d999a950032fc76d5b3f118470df"), looks := true }, kinds := [], alts := [], laidByText := true, laidKinds := [.data, .pinned], laidTests := true, laidLooks := .later }
def FnExactIntegerOfTextCardSaid : Prop := Claim7.holds Tryd.pinned (.plain (OpenSpec.ofChange fnExactIntegerOfTextSpec)) fnExactIntegerOfTextCard

/-- THE SECOND FORM's CARD OF 'laws.FnLiterals'. -/
def fnLiteralsUptoCard : Claim7 := { stood := { row := fnLiteralsUptoRow, standIns := [], harness := (true, "2dbe44df1bce58bb209bca7def790e38b655d999a950032fc76d5b3f118470df"), looks := true }, kinds := [], alts := [], laidByText := true, laidKinds := [.sentinel], laidTests := true, laidLooks := .later }
def FnLiteralsUptoCardSaid : Prop := Claim7.holds Tryd.pinned (.plain (OpenSpec.upto fnLiteralsSpec)) fnLiteralsUptoCard

/-- THE SECOND FORM's CARD OF 'laws.FnExactUnquoteText'. -/
def fnExactUnquoteTextUptoCard : Claim7 := { stood := { row := fnExactUnquoteTextUptoRow, standIns := [], harness := (true, "2dbe44df1bce58bb209bca7def790e38b655d999a950032fc76d5b3f118470df"), looks := true }, kinds := [], alts := [], laidByText := true, laidKinds := [.sentinel], laidTests := true, laidLooks := .later }
def FnExactUnquoteTextUptoCardSaid : Prop := Claim7.holds Tryd.pinned (.plain (OpenSpec.upto fnExactUnquoteTextSpec)) fnExactUnquoteTextUptoCard

/-- THE SECOND FORM's CARD OF 'laws.FnExactUnquoteCset'. -/
def fnExactUnquoteCsetUptoCard : Claim7 := { stood := { row := fnExactUnquoteCsetUptoRow, standIns := [], harness := (true, "2dbe44df1bce58bb209bca7def790e38b655d999a950032fc76d5b3f118470df"), looks := true }, kinds := [], alts := [], laidByText := true, laidKinds := [.sentinel], laidTests := true, laidLooks := .later }
def FnExactUnquoteCsetUptoCardSaid : Prop := Claim7.holds Tryd.pinned (.plain (OpenSpec.upto fnExactUnquoteCsetSpec)) fnExactUnquoteCsetUptoCard

/-- THE SECOND FORM's CARD OF 'laws.FnExactIntegerOfText'. -/
def fnExactIntegerOfTextUptoCard : Claim7 := { stood := { row := fnExactIntegerOfTextUptoRow, standIns := [], harness := (true, "2dbe44df1bce58bb209bca7def790e38b655d999a950032fc76d5b3f118470df"), looks := true }, kinds := [], alts := [], laidByText := true, laidKinds := [.data, .pinned], laidTests := true, laidLooks := .later }
def FnExactIntegerOfTextUptoCardSaid : Prop := Claim7.holds Tryd.pinned (.plain (OpenSpec.upto fnExactIntegerOfTextSpec)) fnExactIntegerOfTextUptoCard
end Rows
end Go.Proofs.YtjgnigalodebkaaDoor

/-
  DERIVED. GIVEN WITH THE SEED: THE CARDS: each row of YtfhakailbikjkaaGreatDoorRows.lean that lists a variable, with what it lists TIED to the program's text (the seventh form; the later family's looks); each row that meets fmt, with fmt's text TOLD by the authors' own Lean function (tested against real Go, not proved from fmt's source: count such statements apart). THE CARD IS WHAT COUNTS. Prove the row's statement (the work); the ties are given (YtfhakailbikjkaaGreatDoorTie.lean); close each card by the builder's one call (the guide's Derived/Test/ToyasCard.lean, 'card_holds'). Laid BY PROGRAM, IN A SANDBOX (cutbox-door.mjs). By AI agents, Wed Nov 11 2026. No macro, syntax, notation, axiom, sorry.
-/
import Derived.Test.YtfhakailbikjkaaGreatDoorRows
import GoSem.ClaimSeven
namespace Go.Proofs.YtfhakailbikjkaaGreatDoor
namespace Rows

/-- THE TIED CARD OF 'laws.FnTokensAgain'. -/
def fnTokensAgainCard : Claim7 := { stood := { row := fnTokensAgainRow, standIns := [], harness := (true, "aed2a43652d67de3db28c6e805732b2fb116f7c83dd5ab14fd2368fbf5da23d7"), looks := true }, kinds := [], alts := [], laidByText := true, laidKinds := [.sentinel], laidTests := true, laidLooks := .later }
def FnTokensAgainCardSaid : Prop := Claim7.holds Tryz.pinned (.plain (OpenSpec.ofChange fnTokensAgainSpec)) fnTokensAgainCard

/-- THE SECOND FORM's CARD OF 'laws.FnTokensAgain'. -/
def fnTokensAgainUptoCard : Claim7 := { stood := { row := fnTokensAgainUptoRow, standIns := [], harness := (true, "aed2a43652d67de3db28c6e805732b2fb116f7c83dd5ab14fd2368fbf5da23d7"), looks := true }, kinds := [], alts := [], laidByText := true, laidKinds := [.sentinel], laidTests := true, laidLooks := .later }
def FnTokensAgainUptoCardSaid : Prop := Claim7.holds Tryz.pinned (.plain (OpenSpec.upto fnTokensAgainSpec)) fnTokensAgainUptoCard
end Rows
end Go.Proofs.YtfhakailbikjkaaGreatDoor

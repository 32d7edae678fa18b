/-
  DERIVED. GIVEN WITH THE SEED: THE CARDS: each row of YtajfgmlockjmhafGreatDoorRows.lean that lists a variable, with what it lists TIED to the program's text (the seventh form; the later family's looks); each row that meets fmt, with fmt's text TOLD by the authors' own Lean function (tested against real Go, not proved from fmt's source: count such statements apart). THE CARD IS WHAT COUNTS. Prove the row's statement (the work); the ties are given (YtajfgmlockjmhafGreatDoorTie.lean); close each card by the builder's one call (the guide's Derived/Test/ToyasCard.lean, 'card_holds'). Laid BY PROGRAM, IN A SANDBOX (cutbox-door.mjs). By AI agents, Wed Nov 11 2026. No macro, syntax, notation, axiom, sorry.
-/
import Derived.Test.YtajfgmlockjmhafGreatDoorRows
import GoSem.ClaimSeven
namespace Go.Proofs.YtajfgmlockjmhafGreatDoor
namespace Rows

/-- THE TIED CARD OF 'framelaw2.CarePlays'. -/
def carePlaysCard : Claim7 := { stood := { row := carePlaysRow, standIns := [], harness := (true, "b000f1b770cd83bdb74f072d11b23d23fd40fc763cd0044c2d4f381a88b10bff"), looks := true }, kinds := [], alts := [], laidByText := true, laidKinds := [.handle, .data], laidTests := true, laidLooks := .later }
def CarePlaysCardSaid : Prop := Claim7.holds Tryz.pinned (.plain (OpenSpec.ofChange carePlaysSpec)) carePlaysCard

/-- THE SECOND FORM's CARD OF 'framelaw2.CarePlays'. -/
def carePlaysUptoCard : Claim7 := { stood := { row := carePlaysUptoRow, standIns := [], harness := (true, "b000f1b770cd83bdb74f072d11b23d23fd40fc763cd0044c2d4f381a88b10bff"), looks := true }, kinds := [], alts := [], laidByText := true, laidKinds := [.handle, .data], laidTests := true, laidLooks := .later }
def CarePlaysUptoCardSaid : Prop := Claim7.holds Tryz.pinned (.plain (OpenSpec.upto carePlaysSpec)) carePlaysUptoCard
end Rows
end Go.Proofs.YtajfgmlockjmhafGreatDoor

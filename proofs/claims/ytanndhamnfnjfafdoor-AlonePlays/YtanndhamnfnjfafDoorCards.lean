/-
  DERIVED. GIVEN WITH THE SEED: THE CARDS: each row of YtanndhamnfnjfafDoorRows.lean that lists a variable, with what it lists TIED to the program's text (the seventh form; the later family's looks); each row that meets fmt, with fmt's text TOLD by the authors' own Lean function (tested against real Go, not proved from fmt's source: count such statements apart). THE CARD IS WHAT COUNTS. Prove the row's statement (the work); the ties are given (YtanndhamnfnjfafDoorTie.lean); close each card by the builder's one call (the guide's Derived/Test/ToyasCard.lean, 'card_holds'). Laid BY PROGRAM, IN A SANDBOX (cutbox-door.mjs). By AI agents, Wed Nov 11 2026. No macro, syntax, notation, axiom, sorry.
-/
import Derived.Test.YtanndhamnfnjfafDoorRows
import GoSem.ClaimSeven
namespace Go.Proofs.YtanndhamnfnjfafDoor
namespace Rows

/-- THE TIED CARD OF 'framelaw2.AlonePlays'. -/
def alonePlaysCard : Claim7 := { stood := { row := alonePlaysRow, standIns := [], harness := (true, "ecb54383ed3b4033f1a8c864cd9ff17223e08c6204edfefdf0326050e7ac068f"), looks := true }, kinds := [], alts := [], laidByText := true, laidKinds := [.handle, .data], laidTests := true, laidLooks := .later }
def AlonePlaysCardSaid : Prop := Claim7.holds Tryd.pinned (.plain (OpenSpec.ofChange alonePlaysSpec)) alonePlaysCard

/-- THE SECOND FORM's CARD OF 'framelaw2.AlonePlays'. -/
def alonePlaysUptoCard : Claim7 := { stood := { row := alonePlaysUptoRow, standIns := [], harness := (true, "ecb54383ed3b4033f1a8c864cd9ff17223e08c6204edfefdf0326050e7ac068f"), looks := true }, kinds := [], alts := [], laidByText := true, laidKinds := [.handle, .data], laidTests := true, laidLooks := .later }
def AlonePlaysUptoCardSaid : Prop := Claim7.holds Tryd.pinned (.plain (OpenSpec.upto alonePlaysSpec)) alonePlaysUptoCard
end Rows
end Go.Proofs.YtanndhamnfnjfafDoor

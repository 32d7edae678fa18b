/-
  DERIVED. GIVEN WITH THE SEED: THE CARDS: each row of YtajfgmlockjmhadGreatDoorRows.lean that lists a variable, with what it lists TIED to the program's text (the seventh form; the later family's looks); each row that meets fmt, with fmt's text TOLD by the authors' own Lean function (tested against real Go, not proved from fmt's source: count such statements apart). THE CARD IS WHAT COUNTS. Prove the row's statement (the work); the ties are given (YtajfgmlockjmhadGreatDoorTie.lean); close each card by the builder's one call (the guide's Derived/Test/ToyasCard.lean, 'card_holds'). Laid BY PROGRAM, IN A SANDBOX (cutbox-door.mjs). By AI agents, Wed Nov 11 2026. No macro, syntax, notation, axiom, sorry.
-/
import Derived.Test.YtajfgmlockjmhadGreatDoorRows
import GoSem.ClaimSeven
namespace Go.Proofs.YtajfgmlockjmhadGreatDoor
namespace Rows

/-- THE TIED CARD OF 'framelaw1.KernelPlays'. -/
def kernelPlaysCard : Claim7 := { stood := { row := kernelPlaysRow, standIns := [], harness := (true, "24a431b08210a87d51cb1c9e524b62d69190345821900798b9f3b44a0ed587e1"), looks := true }, kinds := [], alts := [], laidByText := true, laidKinds := [.handle, .data], laidTests := true, laidLooks := .later }
def KernelPlaysCardSaid : Prop := Claim7.holds Tryz.pinned (.plain (OpenSpec.ofChange kernelPlaysSpec)) kernelPlaysCard

/-- THE TIED CARD OF 'framelaw1.SightTells'. -/
def sightTellsCard : Claim7 := { stood := { row := sightTellsRow, standIns := [], harness := (true, "24a431b08210a87d51cb1c9e524b62d69190345821900798b9f3b44a0ed587e1"), looks := true }, kinds := [], alts := [], laidByText := true, laidKinds := [.handle, .data], laidTests := true, laidLooks := .later }
def SightTellsCardSaid : Prop := Claim7.holds Tryz.pinned (.plain (OpenSpec.ofChange sightTellsSpec)) sightTellsCard

/-- THE SECOND FORM's CARD OF 'framelaw1.KernelPlays'. -/
def kernelPlaysUptoCard : Claim7 := { stood := { row := kernelPlaysUptoRow, standIns := [], harness := (true, "24a431b08210a87d51cb1c9e524b62d69190345821900798b9f3b44a0ed587e1"), looks := true }, kinds := [], alts := [], laidByText := true, laidKinds := [.handle, .data], laidTests := true, laidLooks := .later }
def KernelPlaysUptoCardSaid : Prop := Claim7.holds Tryz.pinned (.plain (OpenSpec.upto kernelPlaysSpec)) kernelPlaysUptoCard

/-- THE SECOND FORM's CARD OF 'framelaw1.SightTells'. -/
def sightTellsUptoCard : Claim7 := { stood := { row := sightTellsUptoRow, standIns := [], harness := (true, "24a431b08210a87d51cb1c9e524b62d69190345821900798b9f3b44a0ed587e1"), looks := true }, kinds := [], alts := [], laidByText := true, laidKinds := [.handle, .data], laidTests := true, laidLooks := .later }
def SightTellsUptoCardSaid : Prop := Claim7.holds Tryz.pinned (.plain (OpenSpec.upto sightTellsSpec)) sightTellsUptoCard
end Rows
end Go.Proofs.YtajfgmlockjmhadGreatDoor

/-
  DERIVED. GIVEN WITH THE SEED: THE CARDS: each row of YtajfgmlockjmhadDoorRows.lean that lists a variable, with what it lists TIED to the program's text (the seventh form; the later family's looks); each row that meets fmt, with fmt's text TOLD by the authors' own Lean function (tested against real Go, not proved from fmt's source: count such statements apart). THE CARD IS WHAT COUNTS. Prove the row's statement (the work); the ties are given (YtajfgmlockjmhadDoorTie.lean); close each card by the builder's one call (the guide's Derived/Test/ToyasCard.lean, 'card_holds'). Laid BY PROGRAM, IN A SANDBOX (cutbox-door.mjs). By AI agents, Wed Nov 11 2026. No macro, syntax, notation, axiom, sorry.
-/
import Derived.Test.YtajfgmlockjmhadDoorRows
import GoSem.ClaimSeven
namespace Go.Proofs.YtajfgmlockjmhadDoor
namespace Rows

/-- THE TIED CARD OF 'framelaw4.PlanPorts'. -/
def planPortsCard : Claim7 := { stood := { row := planPortsRow, standIns := [], harness := (true, "ee49ab467d2708b1d4c14ab6c5f62551e2a5a3637a017d2e8923597ce0fb57d0"), looks := true }, kinds := [], alts := [], laidByText := true, laidKinds := [.handle, .data], laidTests := true, laidLooks := .later }
def PlanPortsCardSaid : Prop := Claim7.holds Tryd.pinned (.plain (OpenSpec.ofChange planPortsSpec)) planPortsCard

/-- THE TIED CARD OF 'framelaw1.KernelTurns'. -/
def kernelTurnsCard : Claim7 := { stood := { row := kernelTurnsRow, standIns := [], harness := (true, "ee49ab467d2708b1d4c14ab6c5f62551e2a5a3637a017d2e8923597ce0fb57d0"), looks := true }, kinds := [], alts := [], laidByText := true, laidKinds := [.data], laidTests := true, laidLooks := .later }
def KernelTurnsCardSaid : Prop := Claim7.holds Tryd.pinned (.plain (OpenSpec.ofChange kernelTurnsSpec)) kernelTurnsCard

/-- THE TIED CARD OF 'framelaw4.KernelCounts'. -/
def kernelCountsCard : Claim7 := { stood := { row := kernelCountsRow, standIns := [], harness := (true, "ee49ab467d2708b1d4c14ab6c5f62551e2a5a3637a017d2e8923597ce0fb57d0"), looks := true }, kinds := [], alts := [], laidByText := true, laidKinds := [.data], laidTests := true, laidLooks := .later }
def KernelCountsCardSaid : Prop := Claim7.holds Tryd.pinned (.plain (OpenSpec.ofChange kernelCountsSpec)) kernelCountsCard

/-- THE TIED CARD OF 'framelaw1.SightSame'. -/
def sightSameCard : Claim7 := { stood := { row := sightSameRow, standIns := [], harness := (true, "ee49ab467d2708b1d4c14ab6c5f62551e2a5a3637a017d2e8923597ce0fb57d0"), looks := true }, kinds := [], alts := [], laidByText := true, laidKinds := [.data], laidTests := true, laidLooks := .later }
def SightSameCardSaid : Prop := Claim7.holds Tryd.pinned (.plain (OpenSpec.ofChange sightSameSpec)) sightSameCard

/-- THE SECOND FORM's CARD OF 'framelaw4.PlanPorts'. -/
def planPortsUptoCard : Claim7 := { stood := { row := planPortsUptoRow, standIns := [], harness := (true, "ee49ab467d2708b1d4c14ab6c5f62551e2a5a3637a017d2e8923597ce0fb57d0"), looks := true }, kinds := [], alts := [], laidByText := true, laidKinds := [.handle, .data], laidTests := true, laidLooks := .later }
def PlanPortsUptoCardSaid : Prop := Claim7.holds Tryd.pinned (.plain (OpenSpec.upto planPortsSpec)) planPortsUptoCard

/-- THE SECOND FORM's CARD OF 'framelaw1.KernelTurns'. -/
def kernelTurnsUptoCard : Claim7 := { stood := { row := kernelTurnsUptoRow, standIns := [], harness := (true, "ee49ab467d2708b1d4c14ab6c5f62551e2a5a3637a017d2e8923597ce0fb57d0"), looks := true }, kinds := [], alts := [], laidByText := true, laidKinds := [.data], laidTests := true, laidLooks := .later }
def KernelTurnsUptoCardSaid : Prop := Claim7.holds Tryd.pinned (.plain (OpenSpec.upto kernelTurnsSpec)) kernelTurnsUptoCard

/-- THE SECOND FORM's CARD OF 'framelaw4.KernelCounts'. -/
def kernelCountsUptoCard : Claim7 := { stood := { row := kernelCountsUptoRow, standIns := [], harness := (true, "ee49ab467d2708b1d4c14ab6c5f62551e2a5a3637a017d2e8923597ce0fb57d0"), looks := true }, kinds := [], alts := [], laidByText := true, laidKinds := [.data], laidTests := true, laidLooks := .later }
def KernelCountsUptoCardSaid : Prop := Claim7.holds Tryd.pinned (.plain (OpenSpec.upto kernelCountsSpec)) kernelCountsUptoCard

/-- THE SECOND FORM's CARD OF 'framelaw1.SightSame'. -/
def sightSameUptoCard : Claim7 := { stood := { row := sightSameUptoRow, standIns := [], harness := (true, "ee49ab467d2708b1d4c14ab6c5f62551e2a5a3637a017d2e8923597ce0fb57d0"), looks := true }, kinds := [], alts := [], laidByText := true, laidKinds := [.data], laidTests := true, laidLooks := .later }
def SightSameUptoCardSaid : Prop := Claim7.holds Tryd.pinned (.plain (OpenSpec.upto sightSameSpec)) sightSameUptoCard
end Rows
end Go.Proofs.YtajfgmlockjmhadDoor

/-
  DERIVED. GIVEN WITH THE SEED: THE CARDS: each row of YtkookoddhfdnpadDoorRows.lean that lists a variable, with what it lists TIED to the program's text (the seventh form; the later family's looks); each row that meets fmt, with fmt's text TOLD by the authors' own Lean function (tested against real Go, not proved from fmt's source: count such statements apart). THE CARD IS WHAT COUNTS. Prove the row's statement (the work); the ties are given (YtkookoddhfdnpadDoorTie.lean); close each card by the builder's one call (the guide's Derived/Test/ToyasCard.lean, 'card_holds'). Laid BY PROGRAM, IN A SANDBOX (cutbox-door.mjs). By AI agents, Wed Nov 11 2026. No macro, syntax, notation, axiom, sorry.
-/
import Derived.Test.YtkookoddhfdnpadDoorRows
import GoSem.ClaimSeven
namespace Go.Proofs.YtkookoddhfdnpadDoor
namespace Rows

/-- THE TIED CARD OF 'framelaw4.PlanPorts'. -/
def planPortsCard : Claim7 := { stood := { row := planPortsRow, standIns := [], harness := (true, "3ea3e2d513cfdc0bd756b102323cf64dd5256e6f3c4894bfafc0eb2090c92703"), looks := true }, kinds := [], alts := [], laidByText := true, laidKinds := [.handle, .data], laidTests := true, laidLooks := .later }
def PlanPortsCardSaid : Prop := Claim7.holds Tryd.pinned (.plain (OpenSpec.ofChange planPortsSpec)) planPortsCard

/-- THE TIED CARD OF 'framelaw1.KernelTurns'. -/
def kernelTurnsCard : Claim7 := { stood := { row := kernelTurnsRow, standIns := [], harness := (true, "3ea3e2d513cfdc0bd756b102323cf64dd5256e6f3c4894bfafc0eb2090c92703"), looks := true }, kinds := [], alts := [], laidByText := true, laidKinds := [.data], laidTests := true, laidLooks := .later }
def KernelTurnsCardSaid : Prop := Claim7.holds Tryd.pinned (.plain (OpenSpec.ofChange kernelTurnsSpec)) kernelTurnsCard

/-- THE TIED CARD OF 'framelaw4.KernelCounts'. -/
def kernelCountsCard : Claim7 := { stood := { row := kernelCountsRow, standIns := [], harness := (true, "3ea3e2d513cfdc0bd756b102323cf64dd5256e6f3c4894bfafc0eb2090c92703"), looks := true }, kinds := [], alts := [], laidByText := true, laidKinds := [.data], laidTests := true, laidLooks := .later }
def KernelCountsCardSaid : Prop := Claim7.holds Tryd.pinned (.plain (OpenSpec.ofChange kernelCountsSpec)) kernelCountsCard

/-- THE SECOND FORM's CARD OF 'framelaw4.PlanPorts'. -/
def planPortsUptoCard : Claim7 := { stood := { row := planPortsUptoRow, standIns := [], harness := (true, "3ea3e2d513cfdc0bd756b102323cf64dd5256e6f3c4894bfafc0eb2090c92703"), looks := true }, kinds := [], alts := [], laidByText := true, laidKinds := [.handle, .data], laidTests := true, laidLooks := .later }
def PlanPortsUptoCardSaid : Prop := Claim7.holds Tryd.pinned (.plain (OpenSpec.upto planPortsSpec)) planPortsUptoCard

/-- THE SECOND FORM's CARD OF 'framelaw1.KernelTurns'. -/
def kernelTurnsUptoCard : Claim7 := { stood := { row := kernelTurnsUptoRow, standIns := [], harness := (true, "3ea3e2d513cfdc0bd756b102323cf64dd5256e6f3c4894bfafc0eb2090c92703"), looks := true }, kinds := [], alts := [], laidByText := true, laidKinds := [.data], laidTests := true, laidLooks := .later }
def KernelTurnsUptoCardSaid : Prop := Claim7.holds Tryd.pinned (.plain (OpenSpec.upto kernelTurnsSpec)) kernelTurnsUptoCard

/-- THE SECOND FORM's CARD OF 'framelaw4.KernelCounts'. -/
def kernelCountsUptoCard : Claim7 := { stood := { row := kernelCountsUptoRow, standIns := [], harness := (true, "3ea3e2d513cfdc0bd756b102323cf64dd5256e6f3c4894bfafc0eb2090c92703"), looks := true }, kinds := [], alts := [], laidByText := true, laidKinds := [.data], laidTests := true, laidLooks := .later }
def KernelCountsUptoCardSaid : Prop := Claim7.holds Tryd.pinned (.plain (OpenSpec.upto kernelCountsSpec)) kernelCountsUptoCard
end Rows
end Go.Proofs.YtkookoddhfdnpadDoor

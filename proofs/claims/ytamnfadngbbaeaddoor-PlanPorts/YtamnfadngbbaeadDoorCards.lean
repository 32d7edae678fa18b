/-
  DERIVED. GIVEN WITH THE SEED: THE CARDS: each row of YtamnfadngbbaeadDoorRows.lean that lists a variable, with what it lists TIED to the program's text (the seventh form; the later family's looks); each row that meets fmt, with fmt's text TOLD by the authors' own Lean function (tested against real Go, not proved from fmt's source: count such statements apart). THE CARD IS WHAT COUNTS. Prove the row's statement (the work); the ties are given (YtamnfadngbbaeadDoorTie.lean); close each card by the builder's one call (the guide's Derived/Test/ToyasCard.lean, 'card_holds'). Laid BY PROGRAM, IN A SANDBOX (cutbox-door.mjs). By AI agents, Wed Nov 11 2026. No macro, syntax, notation, axiom, sorry.
-/
import Derived.Test.YtamnfadngbbaeadDoorRows
import GoSem.ClaimSeven
namespace Go.Proofs.YtamnfadngbbaeadDoor
namespace Rows

/-- THE TIED CARD OF 'framelaw4.PlanPorts'. -/
def planPortsCard : Claim7 := { stood := { row := planPortsRow, standIns := [], harness := (true, "31b13fe00ec35b2ce71e01c535aa7a74a469ed9d14bbc4a6c658146b0e2a437c"), looks := true }, kinds := [], alts := [], laidByText := true, laidKinds := [.handle, .data], laidTests := true, laidLooks := .later }
def PlanPortsCardSaid : Prop := Claim7.holds Tryd.pinned (.plain (OpenSpec.ofChange planPortsSpec)) planPortsCard

/-- THE SECOND FORM's CARD OF 'framelaw4.PlanPorts'. -/
def planPortsUptoCard : Claim7 := { stood := { row := planPortsUptoRow, standIns := [], harness := (true, "31b13fe00ec35b2ce71e01c535aa7a74a469ed9d14bbc4a6c658146b0e2a437c"), looks := true }, kinds := [], alts := [], laidByText := true, laidKinds := [.handle, .data], laidTests := true, laidLooks := .later }
def PlanPortsUptoCardSaid : Prop := Claim7.holds Tryd.pinned (.plain (OpenSpec.upto planPortsSpec)) planPortsUptoCard
end Rows
end Go.Proofs.YtamnfadngbbaeadDoor

/-
  DERIVED. GIVEN WITH THE SEED: THE CARDS: each row of YtfconbblnmbnpahDoorRows.lean that lists a variable, with what it lists TIED to the program's text (the seventh form; the later family's looks); each row that meets fmt, with fmt's text TOLD by the authors' own Lean function (tested against real Go, not proved from fmt's source: count such statements apart). THE CARD IS WHAT COUNTS. Prove the row's statement (the work); the ties are given (YtfconbblnmbnpahDoorTie.lean); close each card by the builder's one call (the guide's Derived/Test/ToyasCard.lean, 'card_holds'). Laid BY PROGRAM, IN A SANDBOX (cutbox-door.mjs). By AI agents, Wed Nov 11 2026. No macro, syntax, notation, axiom, sorry.
-/
import Derived.Test.YtfconbblnmbnpahDoorRows
import GoSem.ClaimSeven
namespace Go.Proofs.YtfconbblnmbnpahDoor
namespace Rows

/-- THE TIED CARD OF 'framelaw4.SupplyAll'. -/
def supplyAllCard : Claim7 := { stood := { row := supplyAllRow, standIns := [], harness := (true, "2b0539883c3d62fdb2dbcd9750f70ea69e8092b3aef9089580d76120297c7b46"), looks := true }, kinds := [], alts := [], laidByText := true, laidKinds := [.handle], laidTests := true, laidLooks := .later }
def SupplyAllCardSaid : Prop := Claim7.holds Tryd.pinned (.plain (OpenSpec.ofChange supplyAllSpec)) supplyAllCard

/-- THE TIED CARD OF 'framelaw4.TraceTurns'. -/
def traceTurnsCard : Claim7 := { stood := { row := traceTurnsRow, standIns := [], harness := (true, "2b0539883c3d62fdb2dbcd9750f70ea69e8092b3aef9089580d76120297c7b46"), looks := true }, kinds := [], alts := [], laidByText := true, laidKinds := [.handle, .data], laidTests := true, laidLooks := .later }
def TraceTurnsCardSaid : Prop := Claim7.holds Tryd.pinned (.plain (OpenSpec.ofChange traceTurnsSpec)) traceTurnsCard

/-- THE SECOND FORM's CARD OF 'framelaw4.SupplyAll'. -/
def supplyAllUptoCard : Claim7 := { stood := { row := supplyAllUptoRow, standIns := [], harness := (true, "2b0539883c3d62fdb2dbcd9750f70ea69e8092b3aef9089580d76120297c7b46"), looks := true }, kinds := [], alts := [], laidByText := true, laidKinds := [.handle], laidTests := true, laidLooks := .later }
def SupplyAllUptoCardSaid : Prop := Claim7.holds Tryd.pinned (.plain (OpenSpec.upto supplyAllSpec)) supplyAllUptoCard

/-- THE SECOND FORM's CARD OF 'framelaw4.TraceTurns'. -/
def traceTurnsUptoCard : Claim7 := { stood := { row := traceTurnsUptoRow, standIns := [], harness := (true, "2b0539883c3d62fdb2dbcd9750f70ea69e8092b3aef9089580d76120297c7b46"), looks := true }, kinds := [], alts := [], laidByText := true, laidKinds := [.handle, .data], laidTests := true, laidLooks := .later }
def TraceTurnsUptoCardSaid : Prop := Claim7.holds Tryd.pinned (.plain (OpenSpec.upto traceTurnsSpec)) traceTurnsUptoCard
end Rows
end Go.Proofs.YtfconbblnmbnpahDoor

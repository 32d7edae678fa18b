/-
  DERIVED. GIVEN WITH THE SEED: THE CARDS: each row of YtlegpedmfpbaiaeDoorRows.lean that lists a variable, with what it lists TIED to the program's text (the seventh form; the later family's looks); each row that meets fmt, with fmt's text TOLD by the authors' own Lean function (tested against real Go, not proved from fmt's source: count such statements apart). THE CARD IS WHAT COUNTS. Prove the row's statement (the work); the ties are given (YtlegpedmfpbaiaeDoorTie.lean); close each card by the builder's one call (the guide's Derived/Test/ToyasCard.lean, 'card_holds'). Laid BY PROGRAM, IN A SANDBOX (cutbox-door.mjs). By AI agents, Wed Nov 11 2026. No macro, syntax, notation, axiom, sorry.
-/
import Derived.Test.YtlegpedmfpbaiaeDoorRows
import GoSem.ClaimSeven
namespace Go.Proofs.YtlegpedmfpbaiaeDoor
namespace Rows

/-- THE TIED CARD OF 'framelaw4.SightLong'. -/
def sightLongCard : Claim7 := { stood := { row := sightLongRow, standIns := [], harness := (true, "e013c415a6c199fbc69c52924f85765543a27a0e8b7e5e8eb1c3f49ffcafac73"), looks := false }, kinds := [], alts := [], laidByText := true, laidKinds := [.data], laidTests := true, laidLooks := .later }
def SightLongCardSaid : Prop := Claim7.holds Tryd.pinned (.plain (OpenSpec.ofChange sightLongSpec)) sightLongCard

/-- THE SECOND FORM's CARD OF 'framelaw4.SightLong'. -/
def sightLongUptoCard : Claim7 := { stood := { row := sightLongUptoRow, standIns := [], harness := (true, "e013c415a6c199fbc69c52924f85765543a27a0e8b7e5e8eb1c3f49ffcafac73"), looks := false }, kinds := [], alts := [], laidByText := true, laidKinds := [.data], laidTests := true, laidLooks := .later }
def SightLongUptoCardSaid : Prop := Claim7.holds Tryd.pinned (.plain (OpenSpec.upto sightLongSpec)) sightLongUptoCard
end Rows
end Go.Proofs.YtlegpedmfpbaiaeDoor

/-
  DERIVED. GIVEN WITH THE SEED: THE CARDS: each row of YthbcbdedmillaabDoorRows.lean that lists a variable, with what it lists TIED to the program's text (the seventh form; the later family's looks); each row that meets fmt, with fmt's text TOLD by the authors' own Lean function (tested against real Go, not proved from fmt's source: count such statements apart). THE CARD IS WHAT COUNTS. Prove the row's statement (the work); the ties are given (YthbcbdedmillaabDoorTie.lean); close each card by the builder's one call (the guide's Derived/Test/ToyasCard.lean, 'card_holds'). Laid BY PROGRAM, IN A SANDBOX (cutbox-door.mjs). By AI agents, Wed Nov 11 2026. No macro, syntax, notation, axiom, sorry.
-/
import Derived.Test.YthbcbdedmillaabDoorRows
import GoSem.ClaimSeven
namespace Go.Proofs.YthbcbdedmillaabDoor
namespace Rows

/-- THE TIED CARD OF 'framelaw4.RoomCounts'. -/
def roomCountsCard : Claim7 := { stood := { row := roomCountsRow, standIns := [], harness := (true, "6c849360c3bea3995fb2e981095a7586c10e604fcc03584f2281f22b4c3a01fd"), looks := false }, kinds := [], alts := [], laidByText := true, laidKinds := [.data], laidTests := true, laidLooks := .later }
def RoomCountsCardSaid : Prop := Claim7.holds Tryd.pinned (.plain (OpenSpec.ofChange roomCountsSpec)) roomCountsCard

/-- THE SECOND FORM's CARD OF 'framelaw4.RoomCounts'. -/
def roomCountsUptoCard : Claim7 := { stood := { row := roomCountsUptoRow, standIns := [], harness := (true, "6c849360c3bea3995fb2e981095a7586c10e604fcc03584f2281f22b4c3a01fd"), looks := false }, kinds := [], alts := [], laidByText := true, laidKinds := [.data], laidTests := true, laidLooks := .later }
def RoomCountsUptoCardSaid : Prop := Claim7.holds Tryd.pinned (.plain (OpenSpec.upto roomCountsSpec)) roomCountsUptoCard
end Rows
end Go.Proofs.YthbcbdedmillaabDoor

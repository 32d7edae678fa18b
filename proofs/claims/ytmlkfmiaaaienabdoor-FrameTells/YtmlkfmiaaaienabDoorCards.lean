/-
  DERIVED. GIVEN WITH THE SEED: THE CARDS: each row of YtmlkfmiaaaienabDoorRows.lean that lists a variable, with what it lists TIED to the program's text (the seventh form; the later family's looks); each row that meets fmt, with fmt's text TOLD by the authors' own Lean function (tested against real Go, not proved from fmt's source: count such statements apart). THE CARD IS WHAT COUNTS. Prove the row's statement (the work); the ties are given (YtmlkfmiaaaienabDoorTie.lean); close each card by the builder's one call (the guide's Derived/Test/ToyasCard.lean, 'card_holds'). Laid BY PROGRAM, IN A SANDBOX (cutbox-door.mjs). By AI agents, Wed Nov 11 2026. No macro, syntax, notation, axiom, sorry.
-/
import Derived.Test.YtmlkfmiaaaienabDoorRows
import GoSem.ClaimSeven
namespace Go.Proofs.YtmlkfmiaaaienabDoor
namespace Rows

/-- THE TIED CARD OF 'framelaw4.RoomCounts'. -/
def roomCountsCard : Claim7 := { stood := { row := roomCountsRow, standIns := [], harness := (true, "af6c6f1573aafe3a6a75904e11b8b6c49dbfe71bea7398022e2c62511f7f3b05"), looks := true }, kinds := [], alts := [], laidByText := true, laidKinds := [.data], laidTests := true, laidLooks := .later }
def RoomCountsCardSaid : Prop := Claim7.holds Tryd.pinned (.plain (OpenSpec.ofChange roomCountsSpec)) roomCountsCard

/-- THE TIED CARD OF 'framelaw1.FrameTells'. -/
def frameTellsCard : Claim7 := { stood := { row := frameTellsRow, standIns := [], harness := (true, "af6c6f1573aafe3a6a75904e11b8b6c49dbfe71bea7398022e2c62511f7f3b05"), looks := true }, kinds := [], alts := [], laidByText := true, laidKinds := [.handle], laidTests := true, laidLooks := .later }
def FrameTellsCardSaid : Prop := Claim7.holds Tryd.pinned (.plain (OpenSpec.ofChange frameTellsSpec)) frameTellsCard

/-- THE TIED CARD OF 'framelaw1.FrameAgain'. -/
def frameAgainCard : Claim7 := { stood := { row := frameAgainRow, standIns := [], harness := (true, "af6c6f1573aafe3a6a75904e11b8b6c49dbfe71bea7398022e2c62511f7f3b05"), looks := true }, kinds := [], alts := [], laidByText := true, laidKinds := [.handle], laidTests := true, laidLooks := .later }
def FrameAgainCardSaid : Prop := Claim7.holds Tryd.pinned (.plain (OpenSpec.ofChange frameAgainSpec)) frameAgainCard

/-- THE SECOND FORM's CARD OF 'framelaw4.RoomCounts'. -/
def roomCountsUptoCard : Claim7 := { stood := { row := roomCountsUptoRow, standIns := [], harness := (true, "af6c6f1573aafe3a6a75904e11b8b6c49dbfe71bea7398022e2c62511f7f3b05"), looks := true }, kinds := [], alts := [], laidByText := true, laidKinds := [.data], laidTests := true, laidLooks := .later }
def RoomCountsUptoCardSaid : Prop := Claim7.holds Tryd.pinned (.plain (OpenSpec.upto roomCountsSpec)) roomCountsUptoCard

/-- THE SECOND FORM's CARD OF 'framelaw1.FrameTells'. -/
def frameTellsUptoCard : Claim7 := { stood := { row := frameTellsUptoRow, standIns := [], harness := (true, "af6c6f1573aafe3a6a75904e11b8b6c49dbfe71bea7398022e2c62511f7f3b05"), looks := true }, kinds := [], alts := [], laidByText := true, laidKinds := [.handle], laidTests := true, laidLooks := .later }
def FrameTellsUptoCardSaid : Prop := Claim7.holds Tryd.pinned (.plain (OpenSpec.upto frameTellsSpec)) frameTellsUptoCard

/-- THE SECOND FORM's CARD OF 'framelaw1.FrameAgain'. -/
def frameAgainUptoCard : Claim7 := { stood := { row := frameAgainUptoRow, standIns := [], harness := (true, "af6c6f1573aafe3a6a75904e11b8b6c49dbfe71bea7398022e2c62511f7f3b05"), looks := true }, kinds := [], alts := [], laidByText := true, laidKinds := [.handle], laidTests := true, laidLooks := .later }
def FrameAgainUptoCardSaid : Prop := Claim7.holds Tryd.pinned (.plain (OpenSpec.upto frameAgainSpec)) frameAgainUptoCard
end Rows
end Go.Proofs.YtmlkfmiaaaienabDoor

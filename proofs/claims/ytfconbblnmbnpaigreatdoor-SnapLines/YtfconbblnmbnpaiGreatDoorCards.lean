/-
  DERIVED. GIVEN WITH THE SEED: THE CARDS: each row of YtfconbblnmbnpaiGreatDoorRows.lean that lists a variable, with what it lists TIED to the program's text (the seventh form; the later family's looks); each row that meets fmt, with fmt's text TOLD by the authors' own Lean function (tested against real Go, not proved from fmt's source: count such statements apart). THE CARD IS WHAT COUNTS. Prove the row's statement (the work); the ties are given (YtfconbblnmbnpaiGreatDoorTie.lean); close each card by the builder's one call (the guide's Derived/Test/ToyasCard.lean, 'card_holds'). Laid BY PROGRAM, IN A SANDBOX (cutbox-door.mjs). By AI agents, Wed Nov 11 2026. No macro, syntax, notation, axiom, sorry.
-/
import Derived.Test.YtfconbblnmbnpaiGreatDoorRows
import GoSem.ClaimSeven
namespace Go.Proofs.YtfconbblnmbnpaiGreatDoor
namespace Rows

/-- THE TIED CARD OF 'framelaw3.SnapGoesOn'. -/
def snapGoesOnCard : Claim7 := { stood := { row := snapGoesOnRow, standIns := [], harness := (true, "b3744dab2a9b110b06c2e30897b0e9a63bbddda104d3cd87d52fe36395cc0729"), looks := true }, kinds := [], alts := [], laidByText := true, laidKinds := [.data, .data, .data, .data, .sentinel, .sentinel, .data, .pinned], laidTests := true, laidLooks := .later }
def SnapGoesOnCardSaid : Prop := Claim7.holds Tryz.pinned (.plain (OpenSpec.ofChange snapGoesOnSpec)) snapGoesOnCard

/-- THE TIED CARD OF 'framelaw4.SnapLines'. -/
def snapLinesCard : Claim7 := { stood := { row := snapLinesRow, standIns := [], harness := (true, "b3744dab2a9b110b06c2e30897b0e9a63bbddda104d3cd87d52fe36395cc0729"), looks := true }, kinds := [], alts := [], laidByText := true, laidKinds := [.data, .data, .data, .data, .handle, .sentinel, .sentinel, .data, .pinned], laidTests := true, laidLooks := .later }
def SnapLinesCardSaid : Prop := Claim7.holds Tryz.pinned (.plain (OpenSpec.ofChange snapLinesSpec)) snapLinesCard

/-- THE SECOND FORM's CARD OF 'framelaw3.SnapGoesOn'. -/
def snapGoesOnUptoCard : Claim7 := { stood := { row := snapGoesOnUptoRow, standIns := [], harness := (true, "b3744dab2a9b110b06c2e30897b0e9a63bbddda104d3cd87d52fe36395cc0729"), looks := true }, kinds := [], alts := [], laidByText := true, laidKinds := [.data, .data, .data, .data, .sentinel, .sentinel, .data, .pinned], laidTests := true, laidLooks := .later }
def SnapGoesOnUptoCardSaid : Prop := Claim7.holds Tryz.pinned (.plain (OpenSpec.upto snapGoesOnSpec)) snapGoesOnUptoCard

/-- THE SECOND FORM's CARD OF 'framelaw4.SnapLines'. -/
def snapLinesUptoCard : Claim7 := { stood := { row := snapLinesUptoRow, standIns := [], harness := (true, "b3744dab2a9b110b06c2e30897b0e9a63bbddda104d3cd87d52fe36395cc0729"), looks := true }, kinds := [], alts := [], laidByText := true, laidKinds := [.data, .data, .data, .data, .handle, .sentinel, .sentinel, .data, .pinned], laidTests := true, laidLooks := .later }
def SnapLinesUptoCardSaid : Prop := Claim7.holds Tryz.pinned (.plain (OpenSpec.upto snapLinesSpec)) snapLinesUptoCard
end Rows
end Go.Proofs.YtfconbblnmbnpaiGreatDoor

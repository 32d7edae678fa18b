/-
  DERIVED. GIVEN WITH THE SEED: THE CARDS: each row of YtajfgmlockjmhaeDoorRows.lean that lists a variable, with what it lists TIED to the program's text (the seventh form; the later family's looks); each row that meets fmt, with fmt's text TOLD by the authors' own Lean function (tested against real Go, not proved from fmt's source: count such statements apart). THE CARD IS WHAT COUNTS. Prove the row's statement (the work); the ties are given (YtajfgmlockjmhaeDoorTie.lean); close each card by the builder's one call (the guide's Derived/Test/ToyasCard.lean, 'card_holds'). Laid BY PROGRAM, IN A SANDBOX (cutbox-door.mjs). By AI agents, Wed Nov 11 2026. No macro, syntax, notation, axiom, sorry.
-/
import Derived.Test.YtajfgmlockjmhaeDoorRows
import GoSem.ClaimSeven
namespace Go.Proofs.YtajfgmlockjmhaeDoor
namespace Rows

/-- THE TIED CARD OF 'framelaw4.SightLong'. -/
def sightLongCard : Claim7 := { stood := { row := sightLongRow, standIns := [], harness := (true, "f1572df8c03f7ff13f89b1af687c4ec748ab544cabc04aa9c9f1d0382430f06b"), looks := true }, kinds := [], alts := [], laidByText := true, laidKinds := [.data], laidTests := true, laidLooks := .later }
def SightLongCardSaid : Prop := Claim7.holds Tryd.pinned (.plain (OpenSpec.ofChange sightLongSpec)) sightLongCard

/-- THE TIED CARD OF 'framelaw2.PurgeSame'. -/
def purgeSameCard : Claim7 := { stood := { row := purgeSameRow, standIns := [], harness := (true, "f1572df8c03f7ff13f89b1af687c4ec748ab544cabc04aa9c9f1d0382430f06b"), looks := true }, kinds := [], alts := [], laidByText := true, laidKinds := [.data], laidTests := true, laidLooks := .later }
def PurgeSameCardSaid : Prop := Claim7.holds Tryd.pinned (.plain (OpenSpec.ofChange purgeSameSpec)) purgeSameCard

/-- THE TIED CARD OF 'framelaw4.PurgeTwice'. -/
def purgeTwiceCard : Claim7 := { stood := { row := purgeTwiceRow, standIns := [], harness := (true, "f1572df8c03f7ff13f89b1af687c4ec748ab544cabc04aa9c9f1d0382430f06b"), looks := true }, kinds := [], alts := [], laidByText := true, laidKinds := [.data], laidTests := true, laidLooks := .later }
def PurgeTwiceCardSaid : Prop := Claim7.holds Tryd.pinned (.plain (OpenSpec.ofChange purgeTwiceSpec)) purgeTwiceCard

/-- THE TIED CARD OF 'framelaw2.AloneAgain'. -/
def aloneAgainCard : Claim7 := { stood := { row := aloneAgainRow, standIns := [], harness := (true, "f1572df8c03f7ff13f89b1af687c4ec748ab544cabc04aa9c9f1d0382430f06b"), looks := true }, kinds := [], alts := [], laidByText := true, laidKinds := [.handle, .data], laidTests := true, laidLooks := .later }
def AloneAgainCardSaid : Prop := Claim7.holds Tryd.pinned (.plain (OpenSpec.ofChange aloneAgainSpec)) aloneAgainCard

/-- THE TIED CARD OF 'framelaw4.AloneCounts'. -/
def aloneCountsCard : Claim7 := { stood := { row := aloneCountsRow, standIns := [], harness := (true, "f1572df8c03f7ff13f89b1af687c4ec748ab544cabc04aa9c9f1d0382430f06b"), looks := true }, kinds := [], alts := [], laidByText := true, laidKinds := [.data], laidTests := true, laidLooks := .later }
def AloneCountsCardSaid : Prop := Claim7.holds Tryd.pinned (.plain (OpenSpec.ofChange aloneCountsSpec)) aloneCountsCard

/-- THE SECOND FORM's CARD OF 'framelaw4.SightLong'. -/
def sightLongUptoCard : Claim7 := { stood := { row := sightLongUptoRow, standIns := [], harness := (true, "f1572df8c03f7ff13f89b1af687c4ec748ab544cabc04aa9c9f1d0382430f06b"), looks := true }, kinds := [], alts := [], laidByText := true, laidKinds := [.data], laidTests := true, laidLooks := .later }
def SightLongUptoCardSaid : Prop := Claim7.holds Tryd.pinned (.plain (OpenSpec.upto sightLongSpec)) sightLongUptoCard

/-- THE SECOND FORM's CARD OF 'framelaw2.PurgeSame'. -/
def purgeSameUptoCard : Claim7 := { stood := { row := purgeSameUptoRow, standIns := [], harness := (true, "f1572df8c03f7ff13f89b1af687c4ec748ab544cabc04aa9c9f1d0382430f06b"), looks := true }, kinds := [], alts := [], laidByText := true, laidKinds := [.data], laidTests := true, laidLooks := .later }
def PurgeSameUptoCardSaid : Prop := Claim7.holds Tryd.pinned (.plain (OpenSpec.upto purgeSameSpec)) purgeSameUptoCard

/-- THE SECOND FORM's CARD OF 'framelaw4.PurgeTwice'. -/
def purgeTwiceUptoCard : Claim7 := { stood := { row := purgeTwiceUptoRow, standIns := [], harness := (true, "f1572df8c03f7ff13f89b1af687c4ec748ab544cabc04aa9c9f1d0382430f06b"), looks := true }, kinds := [], alts := [], laidByText := true, laidKinds := [.data], laidTests := true, laidLooks := .later }
def PurgeTwiceUptoCardSaid : Prop := Claim7.holds Tryd.pinned (.plain (OpenSpec.upto purgeTwiceSpec)) purgeTwiceUptoCard

/-- THE SECOND FORM's CARD OF 'framelaw2.AloneAgain'. -/
def aloneAgainUptoCard : Claim7 := { stood := { row := aloneAgainUptoRow, standIns := [], harness := (true, "f1572df8c03f7ff13f89b1af687c4ec748ab544cabc04aa9c9f1d0382430f06b"), looks := true }, kinds := [], alts := [], laidByText := true, laidKinds := [.handle, .data], laidTests := true, laidLooks := .later }
def AloneAgainUptoCardSaid : Prop := Claim7.holds Tryd.pinned (.plain (OpenSpec.upto aloneAgainSpec)) aloneAgainUptoCard

/-- THE SECOND FORM's CARD OF 'framelaw4.AloneCounts'. -/
def aloneCountsUptoCard : Claim7 := { stood := { row := aloneCountsUptoRow, standIns := [], harness := (true, "f1572df8c03f7ff13f89b1af687c4ec748ab544cabc04aa9c9f1d0382430f06b"), looks := true }, kinds := [], alts := [], laidByText := true, laidKinds := [.data], laidTests := true, laidLooks := .later }
def AloneCountsUptoCardSaid : Prop := Claim7.holds Tryd.pinned (.plain (OpenSpec.upto aloneCountsSpec)) aloneCountsUptoCard
end Rows
end Go.Proofs.YtajfgmlockjmhaeDoor

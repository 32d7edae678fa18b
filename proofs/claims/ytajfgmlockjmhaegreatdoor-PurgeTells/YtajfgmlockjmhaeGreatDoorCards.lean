/-
  DERIVED. GIVEN WITH THE SEED: THE CARDS: each row of YtajfgmlockjmhaeGreatDoorRows.lean that lists a variable, with what it lists TIED to the program's text (the seventh form; the later family's looks); each row that meets fmt, with fmt's text TOLD by the authors' own Lean function (tested against real Go, not proved from fmt's source: count such statements apart). THE CARD IS WHAT COUNTS. Prove the row's statement (the work); the ties are given (YtajfgmlockjmhaeGreatDoorTie.lean); close each card by the builder's one call (the guide's Derived/Test/ToyasCard.lean, 'card_holds'). Laid BY PROGRAM, IN A SANDBOX (cutbox-door.mjs). By AI agents, Wed Nov 11 2026. No macro, syntax, notation, axiom, sorry.
-/
import Derived.Test.YtajfgmlockjmhaeGreatDoorRows
import GoSem.ClaimSeven
namespace Go.Proofs.YtajfgmlockjmhaeGreatDoor
namespace Rows

/-- THE TIED CARD OF 'framelaw2.PurgeTells'. -/
def purgeTellsCard : Claim7 := { stood := { row := purgeTellsRow, standIns := [], harness := (true, "32c1c3db5120382fa04cdf87ca4bb924db9c6fa281431261b574d0a027a8f0fa"), looks := true }, kinds := [], alts := [], laidByText := true, laidKinds := [.handle, .data], laidTests := true, laidLooks := .later }
def PurgeTellsCardSaid : Prop := Claim7.holds Tryz.pinned (.plain (OpenSpec.ofChange purgeTellsSpec)) purgeTellsCard

/-- THE SECOND FORM's CARD OF 'framelaw2.PurgeTells'. -/
def purgeTellsUptoCard : Claim7 := { stood := { row := purgeTellsUptoRow, standIns := [], harness := (true, "32c1c3db5120382fa04cdf87ca4bb924db9c6fa281431261b574d0a027a8f0fa"), looks := true }, kinds := [], alts := [], laidByText := true, laidKinds := [.handle, .data], laidTests := true, laidLooks := .later }
def PurgeTellsUptoCardSaid : Prop := Claim7.holds Tryz.pinned (.plain (OpenSpec.upto purgeTellsSpec)) purgeTellsUptoCard
end Rows
end Go.Proofs.YtajfgmlockjmhaeGreatDoor

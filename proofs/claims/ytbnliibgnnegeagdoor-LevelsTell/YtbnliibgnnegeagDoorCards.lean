/-
  DERIVED. GIVEN WITH THE SEED: THE CARDS: each row of YtbnliibgnnegeagDoorRows.lean that lists a variable, with what it lists TIED to the program's text (the seventh form; the later family's looks); each row that meets fmt, with fmt's text TOLD by the authors' own Lean function (tested against real Go, not proved from fmt's source: count such statements apart). THE CARD IS WHAT COUNTS. Prove the row's statement (the work); the ties are given (YtbnliibgnnegeagDoorTie.lean); close each card by the builder's one call (the guide's Derived/Test/ToyasCard.lean, 'card_holds'). Laid BY PROGRAM, IN A SANDBOX (cutbox-door.mjs). By AI agents, Wed Nov 11 2026. No macro, syntax, notation, axiom, sorry.
-/
import Derived.Test.YtbnliibgnnegeagDoorRows
import GoSem.ClaimSeven
namespace Go.Proofs.YtbnliibgnnegeagDoor
namespace Rows

/-- THE TIED CARD OF 'framelaw2.LevelsTell'. -/
def levelsTellCard : Claim7 := { stood := { row := levelsTellRow, standIns := [], harness := (true, "f3a6d8fc36342fa101efbcd61786fa3762005f3cc1b949febc2047b999d00d63"), looks := true }, kinds := [], alts := [], laidByText := true, laidKinds := [.handle], laidTests := true, laidLooks := .later }
def LevelsTellCardSaid : Prop := Claim7.holds Tryd.pinned (.plain (OpenSpec.ofChange levelsTellSpec)) levelsTellCard

/-- THE TIED CARD OF 'framelaw4.LevelsNone'. -/
def levelsNoneCard : Claim7 := { stood := { row := levelsNoneRow, standIns := [], harness := (true, "f3a6d8fc36342fa101efbcd61786fa3762005f3cc1b949febc2047b999d00d63"), looks := true }, kinds := [], alts := [], laidByText := true, laidKinds := [.handle], laidTests := true, laidLooks := .later }
def LevelsNoneCardSaid : Prop := Claim7.holds Tryd.pinned (.plain (OpenSpec.ofChange levelsNoneSpec)) levelsNoneCard

/-- THE SECOND FORM's CARD OF 'framelaw2.LevelsTell'. -/
def levelsTellUptoCard : Claim7 := { stood := { row := levelsTellUptoRow, standIns := [], harness := (true, "f3a6d8fc36342fa101efbcd61786fa3762005f3cc1b949febc2047b999d00d63"), looks := true }, kinds := [], alts := [], laidByText := true, laidKinds := [.handle], laidTests := true, laidLooks := .later }
def LevelsTellUptoCardSaid : Prop := Claim7.holds Tryd.pinned (.plain (OpenSpec.upto levelsTellSpec)) levelsTellUptoCard

/-- THE SECOND FORM's CARD OF 'framelaw4.LevelsNone'. -/
def levelsNoneUptoCard : Claim7 := { stood := { row := levelsNoneUptoRow, standIns := [], harness := (true, "f3a6d8fc36342fa101efbcd61786fa3762005f3cc1b949febc2047b999d00d63"), looks := true }, kinds := [], alts := [], laidByText := true, laidKinds := [.handle], laidTests := true, laidLooks := .later }
def LevelsNoneUptoCardSaid : Prop := Claim7.holds Tryd.pinned (.plain (OpenSpec.upto levelsNoneSpec)) levelsNoneUptoCard
end Rows
end Go.Proofs.YtbnliibgnnegeagDoor

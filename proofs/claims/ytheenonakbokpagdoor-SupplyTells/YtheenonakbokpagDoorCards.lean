/-
  DERIVED. GIVEN WITH THE SEED: THE CARDS: each row of YtheenonakbokpagDoorRows.lean that lists a variable, with what it lists TIED to the program's text (the seventh form; the later family's looks); each row that meets fmt, with fmt's text TOLD by the authors' own Lean function (tested against real Go, not proved from fmt's source: count such statements apart). THE CARD IS WHAT COUNTS. Prove the row's statement (the work); the ties are given (YtheenonakbokpagDoorTie.lean); close each card by the builder's one call (the guide's Derived/Test/ToyasCard.lean, 'card_holds'). Laid BY PROGRAM, IN A SANDBOX (cutbox-door.mjs). By AI agents, Wed Nov 11 2026. No macro, syntax, notation, axiom, sorry.
-/
import Derived.Test.YtheenonakbokpagDoorRows
import GoSem.ClaimSeven
namespace Go.Proofs.YtheenonakbokpagDoor
namespace Rows

/-- THE TIED CARD OF 'framelaw2.LevelsTell'. -/
def levelsTellCard : Claim7 := { stood := { row := levelsTellRow, standIns := [], harness := (true, "91fb05af8a6e5c1a2142d7160996d01ea545cbcd749db39cc0c0cc82953afd12"), looks := true }, kinds := [], alts := [], laidByText := true, laidKinds := [.handle], laidTests := true, laidLooks := .later }
def LevelsTellCardSaid : Prop := Claim7.holds Tryd.pinned (.plain (OpenSpec.ofChange levelsTellSpec)) levelsTellCard

/-- THE TIED CARD OF 'framelaw4.LevelsNone'. -/
def levelsNoneCard : Claim7 := { stood := { row := levelsNoneRow, standIns := [], harness := (true, "91fb05af8a6e5c1a2142d7160996d01ea545cbcd749db39cc0c0cc82953afd12"), looks := true }, kinds := [], alts := [], laidByText := true, laidKinds := [.handle], laidTests := true, laidLooks := .later }
def LevelsNoneCardSaid : Prop := Claim7.holds Tryd.pinned (.plain (OpenSpec.ofChange levelsNoneSpec)) levelsNoneCard

/-- THE TIED CARD OF 'framelaw3.SupplyTells'. -/
def supplyTellsCard : Claim7 := { stood := { row := supplyTellsRow, standIns := [], harness := (true, "91fb05af8a6e5c1a2142d7160996d01ea545cbcd749db39cc0c0cc82953afd12"), looks := true }, kinds := [], alts := [], laidByText := true, laidKinds := [.handle], laidTests := true, laidLooks := .later }
def SupplyTellsCardSaid : Prop := Claim7.holds Tryd.pinned (.plain (OpenSpec.ofChange supplyTellsSpec)) supplyTellsCard

/-- THE SECOND FORM's CARD OF 'framelaw2.LevelsTell'. -/
def levelsTellUptoCard : Claim7 := { stood := { row := levelsTellUptoRow, standIns := [], harness := (true, "91fb05af8a6e5c1a2142d7160996d01ea545cbcd749db39cc0c0cc82953afd12"), looks := true }, kinds := [], alts := [], laidByText := true, laidKinds := [.handle], laidTests := true, laidLooks := .later }
def LevelsTellUptoCardSaid : Prop := Claim7.holds Tryd.pinned (.plain (OpenSpec.upto levelsTellSpec)) levelsTellUptoCard

/-- THE SECOND FORM's CARD OF 'framelaw4.LevelsNone'. -/
def levelsNoneUptoCard : Claim7 := { stood := { row := levelsNoneUptoRow, standIns := [], harness := (true, "91fb05af8a6e5c1a2142d7160996d01ea545cbcd749db39cc0c0cc82953afd12"), looks := true }, kinds := [], alts := [], laidByText := true, laidKinds := [.handle], laidTests := true, laidLooks := .later }
def LevelsNoneUptoCardSaid : Prop := Claim7.holds Tryd.pinned (.plain (OpenSpec.upto levelsNoneSpec)) levelsNoneUptoCard

/-- THE SECOND FORM's CARD OF 'framelaw3.SupplyTells'. -/
def supplyTellsUptoCard : Claim7 := { stood := { row := supplyTellsUptoRow, standIns := [], harness := (true, "91fb05af8a6e5c1a2142d7160996d01ea545cbcd749db39cc0c0cc82953afd12"), looks := true }, kinds := [], alts := [], laidByText := true, laidKinds := [.handle], laidTests := true, laidLooks := .later }
def SupplyTellsUptoCardSaid : Prop := Claim7.holds Tryd.pinned (.plain (OpenSpec.upto supplyTellsSpec)) supplyTellsUptoCard
end Rows
end Go.Proofs.YtheenonakbokpagDoor

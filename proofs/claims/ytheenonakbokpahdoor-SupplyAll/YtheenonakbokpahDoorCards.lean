/-
  DERIVED. GIVEN WITH THE SEED: THE CARDS: each row of YtheenonakbokpahDoorRows.lean that lists a variable, with what it lists TIED to the program's text (the seventh form; the later family's looks); each row that meets fmt, with fmt's text TOLD by the authors' own Lean function (tested against real Go, not proved from fmt's source: count such statements apart). THE CARD IS WHAT COUNTS. Prove the row's statement (the work); the ties are given (YtheenonakbokpahDoorTie.lean); close each card by the builder's one call (the guide's Derived/Test/ToyasCard.lean, 'card_holds'). Laid BY PROGRAM, IN A SANDBOX (cutbox-door.mjs). By AI agents, Wed Nov 11 2026. No macro, syntax, notation, axiom, sorry.
-/
import Derived.Test.YtheenonakbokpahDoorRows
import GoSem.ClaimSeven
namespace Go.Proofs.YtheenonakbokpahDoor
namespace Rows

/-- THE TIED CARD OF 'framelaw4.SupplyAll'. -/
def supplyAllCard : Claim7 := { stood := { row := supplyAllRow, standIns := [], harness := (true, "f4de6807a0e705c8ce697a1d17f5c65426efd02f60a70574d20334051503dc59"), looks := true }, kinds := [], alts := [], laidByText := true, laidKinds := [.handle], laidTests := true, laidLooks := .later }
def SupplyAllCardSaid : Prop := Claim7.holds Tryd.pinned (.plain (OpenSpec.ofChange supplyAllSpec)) supplyAllCard

/-- THE TIED CARD OF 'frametop.TopWaits'. -/
def topWaitsCard : Claim7 := { stood := { row := topWaitsRow, standIns := [], harness := (true, "f4de6807a0e705c8ce697a1d17f5c65426efd02f60a70574d20334051503dc59"), looks := true }, kinds := [], alts := [], laidByText := true, laidKinds := [.data], laidTests := true, laidLooks := .later }
def TopWaitsCardSaid : Prop := Claim7.holds Tryd.pinned (.plain (OpenSpec.ofChange topWaitsSpec)) topWaitsCard

/-- THE SECOND FORM's CARD OF 'framelaw4.SupplyAll'. -/
def supplyAllUptoCard : Claim7 := { stood := { row := supplyAllUptoRow, standIns := [], harness := (true, "f4de6807a0e705c8ce697a1d17f5c65426efd02f60a70574d20334051503dc59"), looks := true }, kinds := [], alts := [], laidByText := true, laidKinds := [.handle], laidTests := true, laidLooks := .later }
def SupplyAllUptoCardSaid : Prop := Claim7.holds Tryd.pinned (.plain (OpenSpec.upto supplyAllSpec)) supplyAllUptoCard

/-- THE SECOND FORM's CARD OF 'frametop.TopWaits'. -/
def topWaitsUptoCard : Claim7 := { stood := { row := topWaitsUptoRow, standIns := [], harness := (true, "f4de6807a0e705c8ce697a1d17f5c65426efd02f60a70574d20334051503dc59"), looks := true }, kinds := [], alts := [], laidByText := true, laidKinds := [.data], laidTests := true, laidLooks := .later }
def TopWaitsUptoCardSaid : Prop := Claim7.holds Tryd.pinned (.plain (OpenSpec.upto topWaitsSpec)) topWaitsUptoCard
end Rows
end Go.Proofs.YtheenonakbokpahDoor

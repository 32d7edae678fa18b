/-
  DERIVED. GIVEN WITH THE SEED: THE CARDS: each row of YteoemcekkcnplafDoorRows.lean that lists a variable, with what it lists TIED to the program's text (the seventh form; the later family's looks); each row that meets fmt, with fmt's text TOLD by the authors' own Lean function (tested against real Go, not proved from fmt's source: count such statements apart). THE CARD IS WHAT COUNTS. Prove the row's statement (the work); the ties are given (YteoemcekkcnplafDoorTie.lean); close each card by the builder's one call (the guide's Derived/Test/ToyasCard.lean, 'card_holds'). Laid BY PROGRAM, IN A SANDBOX (cutbox-door.mjs). By AI agents, Wed Nov 11 2026. No macro, syntax, notation, axiom, sorry.
-/
import Derived.Test.YteoemcekkcnplafDoorRows
import GoSem.ClaimSeven
namespace Go.Proofs.YteoemcekkcnplafDoor
namespace Rows

/-- THE TIED CARD OF 'framelaw2.AlonePlays'. -/
def alonePlaysCard : Claim7 := { stood := { row := alonePlaysRow, standIns := [], harness := (true, "edd6e869bea72ba3d1ce2f3c182db0ffd248ffb70adc7c3b855d7e2d37fa075c"), looks := true }, kinds := [], alts := [], laidByText := true, laidKinds := [.handle, .data], laidTests := true, laidLooks := .later }
def AlonePlaysCardSaid : Prop := Claim7.holds Tryd.pinned (.plain (OpenSpec.ofChange alonePlaysSpec)) alonePlaysCard

/-- THE TIED CARD OF 'framelaw2.CareStays'. -/
def careStaysCard : Claim7 := { stood := { row := careStaysRow, standIns := [], harness := (true, "edd6e869bea72ba3d1ce2f3c182db0ffd248ffb70adc7c3b855d7e2d37fa075c"), looks := true }, kinds := [], alts := [], laidByText := true, laidKinds := [.data], laidTests := true, laidLooks := .later }
def CareStaysCardSaid : Prop := Claim7.holds Tryd.pinned (.plain (OpenSpec.ofChange careStaysSpec)) careStaysCard

/-- THE TIED CARD OF 'framelaw4.CareOn'. -/
def careOnCard : Claim7 := { stood := { row := careOnRow, standIns := [], harness := (true, "edd6e869bea72ba3d1ce2f3c182db0ffd248ffb70adc7c3b855d7e2d37fa075c"), looks := true }, kinds := [], alts := [], laidByText := true, laidKinds := [.data], laidTests := true, laidLooks := .later }
def CareOnCardSaid : Prop := Claim7.holds Tryd.pinned (.plain (OpenSpec.ofChange careOnSpec)) careOnCard

/-- THE SECOND FORM's CARD OF 'framelaw2.AlonePlays'. -/
def alonePlaysUptoCard : Claim7 := { stood := { row := alonePlaysUptoRow, standIns := [], harness := (true, "edd6e869bea72ba3d1ce2f3c182db0ffd248ffb70adc7c3b855d7e2d37fa075c"), looks := true }, kinds := [], alts := [], laidByText := true, laidKinds := [.handle, .data], laidTests := true, laidLooks := .later }
def AlonePlaysUptoCardSaid : Prop := Claim7.holds Tryd.pinned (.plain (OpenSpec.upto alonePlaysSpec)) alonePlaysUptoCard

/-- THE SECOND FORM's CARD OF 'framelaw2.CareStays'. -/
def careStaysUptoCard : Claim7 := { stood := { row := careStaysUptoRow, standIns := [], harness := (true, "edd6e869bea72ba3d1ce2f3c182db0ffd248ffb70adc7c3b855d7e2d37fa075c"), looks := true }, kinds := [], alts := [], laidByText := true, laidKinds := [.data], laidTests := true, laidLooks := .later }
def CareStaysUptoCardSaid : Prop := Claim7.holds Tryd.pinned (.plain (OpenSpec.upto careStaysSpec)) careStaysUptoCard

/-- THE SECOND FORM's CARD OF 'framelaw4.CareOn'. -/
def careOnUptoCard : Claim7 := { stood := { row := careOnUptoRow, standIns := [], harness := (true, "edd6e869bea72ba3d1ce2f3c182db0ffd248ffb70adc7c3b855d7e2d37fa075c"), looks := true }, kinds := [], alts := [], laidByText := true, laidKinds := [.data], laidTests := true, laidLooks := .later }
def CareOnUptoCardSaid : Prop := Claim7.holds Tryd.pinned (.plain (OpenSpec.upto careOnSpec)) careOnUptoCard
end Rows
end Go.Proofs.YteoemcekkcnplafDoor

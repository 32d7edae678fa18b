/-
  DERIVED. GIVEN WITH THE SEED: THE CARDS: each row of YtajfgmlockjmhafDoorRows.lean that lists a variable, with what it lists TIED to the program's text (the seventh form; the later family's looks); each row that meets fmt, with fmt's text TOLD by the authors' own Lean function (tested against real Go, not proved from fmt's source: count such statements apart). THE CARD IS WHAT COUNTS. Prove the row's statement (the work); the ties are given (YtajfgmlockjmhafDoorTie.lean); close each card by the builder's one call (the guide's Derived/Test/ToyasCard.lean, 'card_holds'). Laid BY PROGRAM, IN A SANDBOX (cutbox-door.mjs). By AI agents, Wed Nov 11 2026. No macro, syntax, notation, axiom, sorry.
-/
import Derived.Test.YtajfgmlockjmhafDoorRows
import GoSem.ClaimSeven
namespace Go.Proofs.YtajfgmlockjmhafDoor
namespace Rows

/-- THE TIED CARD OF 'framelaw2.AlonePlays'. -/
def alonePlaysCard : Claim7 := { stood := { row := alonePlaysRow, standIns := [], harness := (true, "5add3c21d58c5c21080f95fadfea1e2c640a18f539be1431e1fd474a5a958dbb"), looks := true }, kinds := [], alts := [], laidByText := true, laidKinds := [.handle, .data], laidTests := true, laidLooks := .later }
def AlonePlaysCardSaid : Prop := Claim7.holds Tryd.pinned (.plain (OpenSpec.ofChange alonePlaysSpec)) alonePlaysCard

/-- THE TIED CARD OF 'framelaw2.CareStays'. -/
def careStaysCard : Claim7 := { stood := { row := careStaysRow, standIns := [], harness := (true, "5add3c21d58c5c21080f95fadfea1e2c640a18f539be1431e1fd474a5a958dbb"), looks := true }, kinds := [], alts := [], laidByText := true, laidKinds := [.data], laidTests := true, laidLooks := .later }
def CareStaysCardSaid : Prop := Claim7.holds Tryd.pinned (.plain (OpenSpec.ofChange careStaysSpec)) careStaysCard

/-- THE TIED CARD OF 'framelaw4.CareOn'. -/
def careOnCard : Claim7 := { stood := { row := careOnRow, standIns := [], harness := (true, "5add3c21d58c5c21080f95fadfea1e2c640a18f539be1431e1fd474a5a958dbb"), looks := true }, kinds := [], alts := [], laidByText := true, laidKinds := [.data], laidTests := true, laidLooks := .later }
def CareOnCardSaid : Prop := Claim7.holds Tryd.pinned (.plain (OpenSpec.ofChange careOnSpec)) careOnCard

/-- THE TIED CARD OF 'framelaw2.TablesWhole'. -/
def tablesWholeCard : Claim7 := { stood := { row := tablesWholeRow, standIns := [], harness := (true, "5add3c21d58c5c21080f95fadfea1e2c640a18f539be1431e1fd474a5a958dbb"), looks := true }, kinds := [], alts := [], laidByText := true, laidKinds := [.data], laidTests := true, laidLooks := .later }
def TablesWholeCardSaid : Prop := Claim7.holds Tryd.pinned (.plain (OpenSpec.ofChange tablesWholeSpec)) tablesWholeCard

/-- THE TIED CARD OF 'framelaw4.TablesOne'. -/
def tablesOneCard : Claim7 := { stood := { row := tablesOneRow, standIns := [], harness := (true, "5add3c21d58c5c21080f95fadfea1e2c640a18f539be1431e1fd474a5a958dbb"), looks := true }, kinds := [], alts := [], laidByText := true, laidKinds := [.handle, .data], laidTests := true, laidLooks := .later }
def TablesOneCardSaid : Prop := Claim7.holds Tryd.pinned (.plain (OpenSpec.ofChange tablesOneSpec)) tablesOneCard

/-- THE SECOND FORM's CARD OF 'framelaw2.AlonePlays'. -/
def alonePlaysUptoCard : Claim7 := { stood := { row := alonePlaysUptoRow, standIns := [], harness := (true, "5add3c21d58c5c21080f95fadfea1e2c640a18f539be1431e1fd474a5a958dbb"), looks := true }, kinds := [], alts := [], laidByText := true, laidKinds := [.handle, .data], laidTests := true, laidLooks := .later }
def AlonePlaysUptoCardSaid : Prop := Claim7.holds Tryd.pinned (.plain (OpenSpec.upto alonePlaysSpec)) alonePlaysUptoCard

/-- THE SECOND FORM's CARD OF 'framelaw2.CareStays'. -/
def careStaysUptoCard : Claim7 := { stood := { row := careStaysUptoRow, standIns := [], harness := (true, "5add3c21d58c5c21080f95fadfea1e2c640a18f539be1431e1fd474a5a958dbb"), looks := true }, kinds := [], alts := [], laidByText := true, laidKinds := [.data], laidTests := true, laidLooks := .later }
def CareStaysUptoCardSaid : Prop := Claim7.holds Tryd.pinned (.plain (OpenSpec.upto careStaysSpec)) careStaysUptoCard

/-- THE SECOND FORM's CARD OF 'framelaw4.CareOn'. -/
def careOnUptoCard : Claim7 := { stood := { row := careOnUptoRow, standIns := [], harness := (true, "5add3c21d58c5c21080f95fadfea1e2c640a18f539be1431e1fd474a5a958dbb"), looks := true }, kinds := [], alts := [], laidByText := true, laidKinds := [.data], laidTests := true, laidLooks := .later }
def CareOnUptoCardSaid : Prop := Claim7.holds Tryd.pinned (.plain (OpenSpec.upto careOnSpec)) careOnUptoCard

/-- THE SECOND FORM's CARD OF 'framelaw2.TablesWhole'. -/
def tablesWholeUptoCard : Claim7 := { stood := { row := tablesWholeUptoRow, standIns := [], harness := (true, "5add3c21d58c5c21080f95fadfea1e2c640a18f539be1431e1fd474a5a958dbb"), looks := true }, kinds := [], alts := [], laidByText := true, laidKinds := [.data], laidTests := true, laidLooks := .later }
def TablesWholeUptoCardSaid : Prop := Claim7.holds Tryd.pinned (.plain (OpenSpec.upto tablesWholeSpec)) tablesWholeUptoCard

/-- THE SECOND FORM's CARD OF 'framelaw4.TablesOne'. -/
def tablesOneUptoCard : Claim7 := { stood := { row := tablesOneUptoRow, standIns := [], harness := (true, "5add3c21d58c5c21080f95fadfea1e2c640a18f539be1431e1fd474a5a958dbb"), looks := true }, kinds := [], alts := [], laidByText := true, laidKinds := [.handle, .data], laidTests := true, laidLooks := .later }
def TablesOneUptoCardSaid : Prop := Claim7.holds Tryd.pinned (.plain (OpenSpec.upto tablesOneSpec)) tablesOneUptoCard
end Rows
end Go.Proofs.YtajfgmlockjmhafDoor

/-
  NARROWER THAN 'FOR EVERY INPUT', by the rows' own cells (each row's printed sentence says how): AlonePlays: laid · CareStays: laid · CareOn: laid · TablesWhole: laid · TablesOne: laid.
  DERIVED. THE GIVEN ROWS OF THIS SEAT. 5 by the template 'for every input the law returns true; each argument reads behind the call as it read before'; 0 by the template 'total and deterministic' (their statements: YtajfgmlockjmhafDoorTotals.lean).
  GIVEN WITH THE SEED: the statements are not yours to turn. If you find one false, say at which input.
  Laid BY PROGRAM, IN A SANDBOX (cutbox-rows.mjs): the forced cells as the released guide's own fill.sh prints them over the translation 5ec00e4567774b5f… (all of the seat's roots in one cut). By AI agents, Wed Nov 11 2026. No macro, syntax, notation, axiom, sorry.
-/
import Derived.Test.YtajfgmlockjmhafDoorChecked
import GoSem.Claim
import GoSem.ClaimJoined
import GoSem.ClaimMapViews
import Derived.JoinedTies
import Derived.KernelRfl
namespace Go.Proofs.YtajfgmlockjmhafDoor
/- THE CELL 'sum', in the pinned program and in every row, IS THE sha256 OF THE DUMP (.gsa) THAT YtajfgmlockjmhafDoorProg.lean LOADS. Nothing in Lean hashes anything: it is a label: what it is worth is what the hold of that sum in a sandbox is worth. -/
noncomputable def Tryd.pinned : Pinned := { name := "ytajfgmlockjmhafdoor", sum := "5ec00e4567774b5ffd37cd4b099828b5e6b87ca940e57d57a1d159ee57a77d85", checked := Tryd.checked }
namespace Rows
def none {H : Type} : Left H := { results := [], args := [] }

/- WHAT THE LISTED PACKAGE-LEVEL VARIABLES READ AS WHEN THE CALL BEGINS. Each datum BY PROGRAM (the guide's laid-datum.mjs) off the statement by which the dump's own 'gosem.cut.vars' lays the variable. In a bare row this is a premise. The card (YtajfgmlockjmhafDoorCards.lean) ties it to the program's text. -/
def laid_errors_errorType {H : Type} : DataW H := .iface "internal/reflectlite.rtype" (.agg [.ptr (.lit (.string [101, 114, 114, 111, 114]))])
def laid_framekeep_code_forms {H : Type} : DataW H := .agg [.agg [.lit (.string []), .agg [.lit (.int .i64 0), .lit (.int .i64 0)]], .agg [.lit (.string [115, 101, 116]), .agg [.lit (.int .i64 6), .lit (.int .i64 1000)]], .agg [.lit (.string [99, 111, 112, 121]), .agg [.lit (.int .i64 6), .lit (.int .i64 6)]], .agg [.lit (.string [97, 100, 100]), .agg [.lit (.int .i64 6), .lit (.int .i64 6)]], .agg [.lit (.string [115, 117, 98]), .agg [.lit (.int .i64 6), .lit (.int .i64 6)]], .agg [.lit (.string [109, 117, 108]), .agg [.lit (.int .i64 6), .lit (.int .i64 6)]], .agg [.lit (.string [122, 101, 114, 111]), .agg [.lit (.int .i64 6), .lit (.int .i64 0)]], .agg [.lit (.string [106, 117, 109, 112]), .agg [.lit (.int .i64 1), .lit (.int .i64 0)]], .agg [.lit (.string [115, 101, 110, 100]), .agg [.lit (.int .i64 6), .lit (.int .i64 12)]], .agg [.lit (.string [116, 97, 107, 101]), .agg [.lit (.int .i64 6), .lit (.int .i64 12)]], .agg [.lit (.string [114, 101, 115, 116]), .agg [.lit (.int .i64 1), .lit (.int .i64 1)]], .agg [.lit (.string [102, 97, 105, 108]), .agg [.lit (.int .i64 1), .lit (.int .i64 1)]]]

/-- 'framelaw2.AlonePlays': WHATEVER THE INPUT: true; the input reads as it did. -/
def alonePlaysSpec : ChangeSpec := { name := "alonePlays", fn := fun _ => fun
  | [d1, d2, d3] => { results := [.lit (.bool true)], args := [d1, d2, d3] }
  | _ => none }
def alonePlaysRow : OpenClaim := { program := "ytajfgmlockjmhafdoor", sum := "5ec00e4567774b5ffd37cd4b099828b5e6b87ca940e57d57a1d159ee57a77d85", func := "framekeep/framelaw2.AlonePlays", spec := "alonePlays", inPlace := ["internal/reflectlite.ValueOf", "(internal/reflectlite.Value).Type", "(internal/reflectlite.Value).IsNil", "internal/reflectlite.TypeOf", "(internal/reflectlite.Value).Elem", "(internal/reflectlite.Value).Set"], unfollowed := true, recurses := true, named := ["framekeep/code.forms", "errors.errorType"], apart := false, laid := [("errors.errorType", laid_errors_errorType), ("framekeep/code.forms", laid_framekeep_code_forms)] }
def AlonePlaysSaid : Prop := alonePlaysRow.holds Tryd.pinned (OpenSpec.ofChange alonePlaysSpec)

/-- ITS FALSE NEIGHBOUR: 'it returns false'. Refute it at one input. -/
def alonePlaysWrong : ChangeSpec := { name := "alonePlays", fn := fun _ => fun
  | [d1, d2, d3] => { results := [.lit (.bool false)], args := [d1, d2, d3] }
  | _ => none }
def AlonePlaysWrongFalsely : Prop := alonePlaysRow.holds Tryd.pinned (OpenSpec.ofChange alonePlaysWrong)

/-- 'framelaw2.CareStays': WHATEVER THE INPUT: true; the input reads as it did. -/
def careStaysSpec : ChangeSpec := { name := "careStays", fn := fun _ => fun
  | [d1, d2, d3, d4, d5] => { results := [.lit (.bool true)], args := [d1, d2, d3, d4, d5] }
  | _ => none }
def careStaysRow : OpenClaim := { program := "ytajfgmlockjmhafdoor", sum := "5ec00e4567774b5ffd37cd4b099828b5e6b87ca940e57d57a1d159ee57a77d85", func := "framekeep/framelaw2.CareStays", spec := "careStays", unfollowed := true, recurses := true, named := ["framekeep/code.forms"], apart := false, laid := [("framekeep/code.forms", laid_framekeep_code_forms)] }
def CareStaysSaid : Prop := careStaysRow.holds Tryd.pinned (OpenSpec.ofChange careStaysSpec)

/-- ITS FALSE NEIGHBOUR: 'it returns false'. Refute it at one input. -/
def careStaysWrong : ChangeSpec := { name := "careStays", fn := fun _ => fun
  | [d1, d2, d3, d4, d5] => { results := [.lit (.bool false)], args := [d1, d2, d3, d4, d5] }
  | _ => none }
def CareStaysWrongFalsely : Prop := careStaysRow.holds Tryd.pinned (OpenSpec.ofChange careStaysWrong)

/-- 'framelaw4.CareOn': WHATEVER THE INPUT: true; the input reads as it did. -/
def careOnSpec : ChangeSpec := { name := "careOn", fn := fun _ => fun
  | [d1, d2] => { results := [.lit (.bool true)], args := [d1, d2] }
  | _ => none }
def careOnRow : OpenClaim := { program := "ytajfgmlockjmhafdoor", sum := "5ec00e4567774b5ffd37cd4b099828b5e6b87ca940e57d57a1d159ee57a77d85", func := "framekeep/framelaw4.CareOn", spec := "careOn", unfollowed := true, recurses := true, named := ["framekeep/code.forms"], apart := false, laid := [("framekeep/code.forms", laid_framekeep_code_forms)] }
def CareOnSaid : Prop := careOnRow.holds Tryd.pinned (OpenSpec.ofChange careOnSpec)

/-- ITS FALSE NEIGHBOUR: 'it returns false'. Refute it at one input. -/
def careOnWrong : ChangeSpec := { name := "careOn", fn := fun _ => fun
  | [d1, d2] => { results := [.lit (.bool false)], args := [d1, d2] }
  | _ => none }
def CareOnWrongFalsely : Prop := careOnRow.holds Tryd.pinned (OpenSpec.ofChange careOnWrong)

/-- 'framelaw2.TablesWhole': WHATEVER THE INPUT: true; the input reads as it did. -/
def tablesWholeSpec : ChangeSpec := { name := "tablesWhole", fn := fun _ => fun
  | [d1, d2, d3] => { results := [.lit (.bool true)], args := [d1, d2, d3] }
  | _ => none }
def tablesWholeRow : OpenClaim := { program := "ytajfgmlockjmhafdoor", sum := "5ec00e4567774b5ffd37cd4b099828b5e6b87ca940e57d57a1d159ee57a77d85", func := "framekeep/framelaw2.TablesWhole", spec := "tablesWhole", unfollowed := true, recurses := true, named := ["framekeep/code.forms"], apart := false, laid := [("framekeep/code.forms", laid_framekeep_code_forms)] }
def TablesWholeSaid : Prop := tablesWholeRow.holds Tryd.pinned (OpenSpec.ofChange tablesWholeSpec)

/-- ITS FALSE NEIGHBOUR: 'it returns false'. Refute it at one input. -/
def tablesWholeWrong : ChangeSpec := { name := "tablesWhole", fn := fun _ => fun
  | [d1, d2, d3] => { results := [.lit (.bool false)], args := [d1, d2, d3] }
  | _ => none }
def TablesWholeWrongFalsely : Prop := tablesWholeRow.holds Tryd.pinned (OpenSpec.ofChange tablesWholeWrong)

/-- 'framelaw4.TablesOne': WHATEVER THE INPUT: true; the input reads as it did. -/
def tablesOneSpec : ChangeSpec := { name := "tablesOne", fn := fun _ => fun
  | [d1, d2, d3] => { results := [.lit (.bool true)], args := [d1, d2, d3] }
  | _ => none }
def tablesOneRow : OpenClaim := { program := "ytajfgmlockjmhafdoor", sum := "5ec00e4567774b5ffd37cd4b099828b5e6b87ca940e57d57a1d159ee57a77d85", func := "framekeep/framelaw4.TablesOne", spec := "tablesOne", inPlace := ["internal/reflectlite.ValueOf", "(internal/reflectlite.Value).Type", "(internal/reflectlite.Value).IsNil", "internal/reflectlite.TypeOf", "(internal/reflectlite.Value).Elem", "(internal/reflectlite.Value).Set"], unfollowed := true, recurses := true, named := ["framekeep/code.forms", "errors.errorType"], apart := false, laid := [("errors.errorType", laid_errors_errorType), ("framekeep/code.forms", laid_framekeep_code_forms)] }
def TablesOneSaid : Prop := tablesOneRow.holds Tryd.pinned (OpenSpec.ofChange tablesOneSpec)

/-- ITS FALSE NEIGHBOUR: 'it returns false'. Refute it at one input. -/
def tablesOneWrong : ChangeSpec := { name := "tablesOne", fn := fun _ => fun
  | [d1, d2, d3] => { results := [.lit (.bool false)], args := [d1, d2, d3] }
  | _ => none }
def TablesOneWrongFalsely : Prop := tablesOneRow.holds Tryd.pinned (OpenSpec.ofChange tablesOneWrong)

/- THE SECOND FORM. 'bulk': how many values and letters a reading holds, each counted each time it is reached (what is shared counts as often as it is met; a slice's spare places count too). A statement '..UptoSaid' is the law's where the arguments, and the package variables that the reading takes, are together of bulk at most 1048576: NARROWER than '..Said'. Prove '..Said' where nothing that the law and all that it calls make is longer than what came in: it says more and counts as full. Else prove '..UptoSaid'. A law counts once. -/
mutual
def uptoBulk {H : Type} : DataW H → Nat
  | .lit (.string bytes) => bytes.length + 1
  | .lit _ => 1
  | .nil => 1
  | .ptr d => uptoBulk d + 1
  | .slice elems spare => uptoBulkAll elems + uptoBulkAll spare + 1
  | .agg parts => uptoBulkAll parts + 1
  | .iface _ d => uptoBulk d + 1
  | .map entries => uptoBulkEntries entries + 1
  | .held _ => 1
def uptoBulkAll {H : Type} : List (DataW H) → Nat
  | [] => 0
  | d :: r => uptoBulk d + uptoBulkAll r
def uptoBulkEntries {H : Type} : List (Lit × DataW H) → Nat
  | [] => 0
  | x :: r => uptoBulkEntry x + uptoBulkEntries r
def uptoBulkEntry {H : Type} : Lit × DataW H → Nat
  | (.string bytes, d) => bytes.length + uptoBulk d + 1
  | (_, d) => uptoBulk d + 1
 end
def uptoSmall : (H : Type) → List (DataW H) → Bool := fun _ ds => decide (uptoBulkAll ds ≤ 1048576)
def OpenSpec.upto (s : _root_.Go.ChangeSpec) : _root_.Go.OpenSpec := { _root_.Go.OpenSpec.ofChange s with cond := some uptoSmall }

/-- 'framelaw2.AlonePlays', WHERE WHAT IT READS IS OF BULK AT MOST 1048576: true; the input reads as it did. -/
def alonePlaysUptoRow : OpenClaim := { program := "ytajfgmlockjmhafdoor", sum := "5ec00e4567774b5ffd37cd4b099828b5e6b87ca940e57d57a1d159ee57a77d85", func := "framekeep/framelaw2.AlonePlays", spec := "alonePlays", inPlace := ["internal/reflectlite.ValueOf", "(internal/reflectlite.Value).Type", "(internal/reflectlite.Value).IsNil", "internal/reflectlite.TypeOf", "(internal/reflectlite.Value).Elem", "(internal/reflectlite.Value).Set"], unfollowed := true, recurses := true, named := ["framekeep/code.forms", "errors.errorType"], apart := false, laid := [("errors.errorType", laid_errors_errorType), ("framekeep/code.forms", laid_framekeep_code_forms)], narrowed := true }
def AlonePlaysUptoSaid : Prop := alonePlaysUptoRow.holds Tryd.pinned (OpenSpec.upto alonePlaysSpec)

/-- 'framelaw2.CareStays', WHERE WHAT IT READS IS OF BULK AT MOST 1048576: true; the input reads as it did. -/
def careStaysUptoRow : OpenClaim := { program := "ytajfgmlockjmhafdoor", sum := "5ec00e4567774b5ffd37cd4b099828b5e6b87ca940e57d57a1d159ee57a77d85", func := "framekeep/framelaw2.CareStays", spec := "careStays", unfollowed := true, recurses := true, named := ["framekeep/code.forms"], apart := false, laid := [("framekeep/code.forms", laid_framekeep_code_forms)], narrowed := true }
def CareStaysUptoSaid : Prop := careStaysUptoRow.holds Tryd.pinned (OpenSpec.upto careStaysSpec)

/-- 'framelaw4.CareOn', WHERE WHAT IT READS IS OF BULK AT MOST 1048576: true; the input reads as it did. -/
def careOnUptoRow : OpenClaim := { program := "ytajfgmlockjmhafdoor", sum := "5ec00e4567774b5ffd37cd4b099828b5e6b87ca940e57d57a1d159ee57a77d85", func := "framekeep/framelaw4.CareOn", spec := "careOn", unfollowed := true, recurses := true, named := ["framekeep/code.forms"], apart := false, laid := [("framekeep/code.forms", laid_framekeep_code_forms)], narrowed := true }
def CareOnUptoSaid : Prop := careOnUptoRow.holds Tryd.pinned (OpenSpec.upto careOnSpec)

/-- 'framelaw2.TablesWhole', WHERE WHAT IT READS IS OF BULK AT MOST 1048576: true; the input reads as it did. -/
def tablesWholeUptoRow : OpenClaim := { program := "ytajfgmlockjmhafdoor", sum := "5ec00e4567774b5ffd37cd4b099828b5e6b87ca940e57d57a1d159ee57a77d85", func := "framekeep/framelaw2.TablesWhole", spec := "tablesWhole", unfollowed := true, recurses := true, named := ["framekeep/code.forms"], apart := false, laid := [("framekeep/code.forms", laid_framekeep_code_forms)], narrowed := true }
def TablesWholeUptoSaid : Prop := tablesWholeUptoRow.holds Tryd.pinned (OpenSpec.upto tablesWholeSpec)

/-- 'framelaw4.TablesOne', WHERE WHAT IT READS IS OF BULK AT MOST 1048576: true; the input reads as it did. -/
def tablesOneUptoRow : OpenClaim := { program := "ytajfgmlockjmhafdoor", sum := "5ec00e4567774b5ffd37cd4b099828b5e6b87ca940e57d57a1d159ee57a77d85", func := "framekeep/framelaw4.TablesOne", spec := "tablesOne", inPlace := ["internal/reflectlite.ValueOf", "(internal/reflectlite.Value).Type", "(internal/reflectlite.Value).IsNil", "internal/reflectlite.TypeOf", "(internal/reflectlite.Value).Elem", "(internal/reflectlite.Value).Set"], unfollowed := true, recurses := true, named := ["framekeep/code.forms", "errors.errorType"], apart := false, laid := [("errors.errorType", laid_errors_errorType), ("framekeep/code.forms", laid_framekeep_code_forms)], narrowed := true }
def TablesOneUptoSaid : Prop := tablesOneUptoRow.holds Tryd.pinned (OpenSpec.upto tablesOneSpec)

end Rows
end Go.Proofs.YtajfgmlockjmhafDoor

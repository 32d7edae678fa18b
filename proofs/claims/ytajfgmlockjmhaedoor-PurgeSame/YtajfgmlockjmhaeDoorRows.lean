/-
  NARROWER THAN 'FOR EVERY INPUT', by the rows' own cells (each row's printed sentence says how): SightLong: laid · PurgeSame: laid · PurgeTwice: laid · AloneAgain: laid · AloneCounts: laid.
  DERIVED. THE GIVEN ROWS OF THIS SEAT. 5 by the template 'for every input the law returns true; each argument reads behind the call as it read before'; 0 by the template 'total and deterministic' (their statements: YtajfgmlockjmhaeDoorTotals.lean).
  GIVEN WITH THE SEED: the statements are not yours to turn. If you find one false, say at which input.
  Laid BY PROGRAM, IN A SANDBOX (cutbox-rows.mjs): the forced cells as the released guide's own fill.sh prints them over the translation 9d19e279cf324bbe… (all of the seat's roots in one cut). By AI agents, Wed Nov 11 2026. No macro, syntax, notation, axiom, sorry.
-/
import Derived.Test.YtajfgmlockjmhaeDoorChecked
import GoSem.Claim
import GoSem.ClaimJoined
import GoSem.ClaimMapViews
import Derived.JoinedTies
import Derived.KernelRfl
namespace Go.Proofs.YtajfgmlockjmhaeDoor
/- THE CELL 'sum', in the pinned program and in every row, IS THE sha256 OF THE DUMP (.gsa) THAT YtajfgmlockjmhaeDoorProg.lean LOADS. Nothing in Lean hashes anything: it is a label: what it is worth is what the hold of that sum in a sandbox is worth. -/
noncomputable def Tryd.pinned : Pinned := { name := "ytajfgmlockjmhaedoor", sum := "9d19e279cf324bbe50ada1607cfb6455125e15bfb80df55354b5602f1702d639", checked := Tryd.checked }
namespace Rows
def none {H : Type} : Left H := { results := [], args := [] }

/- WHAT THE LISTED PACKAGE-LEVEL VARIABLES READ AS WHEN THE CALL BEGINS. Each datum BY PROGRAM (the guide's laid-datum.mjs) off the statement by which the dump's own 'gosem.cut.vars' lays the variable. In a bare row this is a premise. The card (YtajfgmlockjmhaeDoorCards.lean) ties it to the program's text. -/
def laid_framekeep_code_forms {H : Type} : DataW H := .agg [.agg [.lit (.string []), .agg [.lit (.int .i64 0), .lit (.int .i64 0)]], .agg [.lit (.string [115, 101, 116]), .agg [.lit (.int .i64 6), .lit (.int .i64 1000)]], .agg [.lit (.string [99, 111, 112, 121]), .agg [.lit (.int .i64 6), .lit (.int .i64 6)]], .agg [.lit (.string [97, 100, 100]), .agg [.lit (.int .i64 6), .lit (.int .i64 6)]], .agg [.lit (.string [115, 117, 98]), .agg [.lit (.int .i64 6), .lit (.int .i64 6)]], .agg [.lit (.string [109, 117, 108]), .agg [.lit (.int .i64 6), .lit (.int .i64 6)]], .agg [.lit (.string [122, 101, 114, 111]), .agg [.lit (.int .i64 6), .lit (.int .i64 0)]], .agg [.lit (.string [106, 117, 109, 112]), .agg [.lit (.int .i64 1), .lit (.int .i64 0)]], .agg [.lit (.string [115, 101, 110, 100]), .agg [.lit (.int .i64 6), .lit (.int .i64 12)]], .agg [.lit (.string [116, 97, 107, 101]), .agg [.lit (.int .i64 6), .lit (.int .i64 12)]], .agg [.lit (.string [114, 101, 115, 116]), .agg [.lit (.int .i64 1), .lit (.int .i64 1)]], .agg [.lit (.string [102, 97, 105, 108]), .agg [.lit (.int .i64 1), .lit (.int .i64 1)]]]
def laid_errors_errorType {H : Type} : DataW H := .iface "internal/reflectlite.rtype" (.agg [.ptr (.lit (.string [101, 114, 114, 111, 114]))])

/-- 'framelaw4.SightLong': WHATEVER THE INPUT: true; the input reads as it did. -/
def sightLongSpec : ChangeSpec := { name := "sightLong", fn := fun _ => fun
  | [d1, d2, d3] => { results := [.lit (.bool true)], args := [d1, d2, d3] }
  | _ => none }
def sightLongRow : OpenClaim := { program := "ytajfgmlockjmhaedoor", sum := "9d19e279cf324bbe50ada1607cfb6455125e15bfb80df55354b5602f1702d639", func := "framekeep/framelaw4.SightLong", spec := "sightLong", unfollowed := true, recurses := true, named := ["framekeep/code.forms"], apart := false, laid := [("framekeep/code.forms", laid_framekeep_code_forms)] }
def SightLongSaid : Prop := sightLongRow.holds Tryd.pinned (OpenSpec.ofChange sightLongSpec)

/-- ITS FALSE NEIGHBOUR: 'it returns false'. Refute it at one input. -/
def sightLongWrong : ChangeSpec := { name := "sightLong", fn := fun _ => fun
  | [d1, d2, d3] => { results := [.lit (.bool false)], args := [d1, d2, d3] }
  | _ => none }
def SightLongWrongFalsely : Prop := sightLongRow.holds Tryd.pinned (OpenSpec.ofChange sightLongWrong)

/-- 'framelaw2.PurgeSame': WHATEVER THE INPUT: true; the input reads as it did. -/
def purgeSameSpec : ChangeSpec := { name := "purgeSame", fn := fun _ => fun
  | [d1, d2, d3] => { results := [.lit (.bool true)], args := [d1, d2, d3] }
  | _ => none }
def purgeSameRow : OpenClaim := { program := "ytajfgmlockjmhaedoor", sum := "9d19e279cf324bbe50ada1607cfb6455125e15bfb80df55354b5602f1702d639", func := "framekeep/framelaw2.PurgeSame", spec := "purgeSame", unfollowed := true, recurses := true, named := ["framekeep/code.forms"], apart := false, laid := [("framekeep/code.forms", laid_framekeep_code_forms)] }
def PurgeSameSaid : Prop := purgeSameRow.holds Tryd.pinned (OpenSpec.ofChange purgeSameSpec)

/-- ITS FALSE NEIGHBOUR: 'it returns false'. Refute it at one input. -/
def purgeSameWrong : ChangeSpec := { name := "purgeSame", fn := fun _ => fun
  | [d1, d2, d3] => { results := [.lit (.bool false)], args := [d1, d2, d3] }
  | _ => none }
def PurgeSameWrongFalsely : Prop := purgeSameRow.holds Tryd.pinned (OpenSpec.ofChange purgeSameWrong)

/-- 'framelaw4.PurgeTwice': WHATEVER THE INPUT: true; the input reads as it did. -/
def purgeTwiceSpec : ChangeSpec := { name := "purgeTwice", fn := fun _ => fun
  | [d1, d2] => { results := [.lit (.bool true)], args := [d1, d2] }
  | _ => none }
def purgeTwiceRow : OpenClaim := { program := "ytajfgmlockjmhaedoor", sum := "9d19e279cf324bbe50ada1607cfb6455125e15bfb80df55354b5602f1702d639", func := "framekeep/framelaw4.PurgeTwice", spec := "purgeTwice", unfollowed := true, recurses := true, named := ["framekeep/code.forms"], apart := false, laid := [("framekeep/code.forms", laid_framekeep_code_forms)] }
def PurgeTwiceSaid : Prop := purgeTwiceRow.holds Tryd.pinned (OpenSpec.ofChange purgeTwiceSpec)

/-- ITS FALSE NEIGHBOUR: 'it returns false'. Refute it at one input. -/
def purgeTwiceWrong : ChangeSpec := { name := "purgeTwice", fn := fun _ => fun
  | [d1, d2] => { results := [.lit (.bool false)], args := [d1, d2] }
  | _ => none }
def PurgeTwiceWrongFalsely : Prop := purgeTwiceRow.holds Tryd.pinned (OpenSpec.ofChange purgeTwiceWrong)

/-- 'framelaw2.AloneAgain': WHATEVER THE INPUT: true; the input reads as it did. -/
def aloneAgainSpec : ChangeSpec := { name := "aloneAgain", fn := fun _ => fun
  | [d1, d2, d3] => { results := [.lit (.bool true)], args := [d1, d2, d3] }
  | _ => none }
def aloneAgainRow : OpenClaim := { program := "ytajfgmlockjmhaedoor", sum := "9d19e279cf324bbe50ada1607cfb6455125e15bfb80df55354b5602f1702d639", func := "framekeep/framelaw2.AloneAgain", spec := "aloneAgain", inPlace := ["internal/reflectlite.ValueOf", "(internal/reflectlite.Value).Type", "(internal/reflectlite.Value).IsNil", "internal/reflectlite.TypeOf", "(internal/reflectlite.Value).Elem", "(internal/reflectlite.Value).Set"], unfollowed := true, recurses := true, named := ["framekeep/code.forms", "errors.errorType"], apart := false, laid := [("errors.errorType", laid_errors_errorType), ("framekeep/code.forms", laid_framekeep_code_forms)] }
def AloneAgainSaid : Prop := aloneAgainRow.holds Tryd.pinned (OpenSpec.ofChange aloneAgainSpec)

/-- ITS FALSE NEIGHBOUR: 'it returns false'. Refute it at one input. -/
def aloneAgainWrong : ChangeSpec := { name := "aloneAgain", fn := fun _ => fun
  | [d1, d2, d3] => { results := [.lit (.bool false)], args := [d1, d2, d3] }
  | _ => none }
def AloneAgainWrongFalsely : Prop := aloneAgainRow.holds Tryd.pinned (OpenSpec.ofChange aloneAgainWrong)

/-- 'framelaw4.AloneCounts': WHATEVER THE INPUT: true; the input reads as it did. -/
def aloneCountsSpec : ChangeSpec := { name := "aloneCounts", fn := fun _ => fun
  | [d] => { results := [.lit (.bool true)], args := [d] }
  | _ => none }
def aloneCountsRow : OpenClaim := { program := "ytajfgmlockjmhaedoor", sum := "9d19e279cf324bbe50ada1607cfb6455125e15bfb80df55354b5602f1702d639", func := "framekeep/framelaw4.AloneCounts", spec := "aloneCounts", unfollowed := true, recurses := true, named := ["framekeep/code.forms"], apart := false, laid := [("framekeep/code.forms", laid_framekeep_code_forms)] }
def AloneCountsSaid : Prop := aloneCountsRow.holds Tryd.pinned (OpenSpec.ofChange aloneCountsSpec)

/-- ITS FALSE NEIGHBOUR: 'it returns false'. Refute it at one input. -/
def aloneCountsWrong : ChangeSpec := { name := "aloneCounts", fn := fun _ => fun
  | [d] => { results := [.lit (.bool false)], args := [d] }
  | _ => none }
def AloneCountsWrongFalsely : Prop := aloneCountsRow.holds Tryd.pinned (OpenSpec.ofChange aloneCountsWrong)

/- THE SECOND FORM. 'bulk': how many values and letters a reading holds, each counted each time it is reached (what is shared counts as often as it is met; a slice's spare places count too). A statement '..UptoSaid' is the law's where the arguments, and the package variables that the reading takes, are together of bulk at most 1048576: NARROWER than '..Said'. Prove '..Said' where nothing that the law and all that it calls make is longer than what came in: it says more and counts as full. Else prove '..UptoSaid'. A law counts once. -/
mutual
def uptoBulk {H : Type} : DataW H → Nat
  | .lit (.string bytes) => bytes.length + 1
  | .lit _ => 1
  | .nil => 1
  | .ptr d => uptoBulk d + 1
  | .slice elems spare => uptoBulkAll elems + uptoBulkAll spare + 1
  | .agg parts => uptoBulkAll parts + 1
  | .iface _ d => uptoBulk d + 1
  | .map entries => uptoBulkEntries entries + 1
  | .held _ => 1
def uptoBulkAll {H : Type} : List (DataW H) → Nat
  | [] => 0
  | d :: r => uptoBulk d + uptoBulkAll r
def uptoBulkEntries {H : Type} : List (Lit × DataW H) → Nat
  | [] => 0
  | x :: r => uptoBulkEntry x + uptoBulkEntries r
def uptoBulkEntry {H : Type} : Lit × DataW H → Nat
  | (.string bytes, d) => bytes.length + uptoBulk d + 1
  | (_, d) => uptoBulk d + 1
 end
def uptoSmall : (H : Type) → List (DataW H) → Bool := fun _ ds => decide (uptoBulkAll ds ≤ 1048576)
def OpenSpec.upto (s : _root_.Go.ChangeSpec) : _root_.Go.OpenSpec := { _root_.Go.OpenSpec.ofChange s with cond := some uptoSmall }

/-- 'framelaw4.SightLong', WHERE WHAT IT READS IS OF BULK AT MOST 1048576: true; the input reads as it did. -/
def sightLongUptoRow : OpenClaim := { program := "ytajfgmlockjmhaedoor", sum := "9d19e279cf324bbe50ada1607cfb6455125e15bfb80df55354b5602f1702d639", func := "framekeep/framelaw4.SightLong", spec := "sightLong", unfollowed := true, recurses := true, named := ["framekeep/code.forms"], apart := false, laid := [("framekeep/code.forms", laid_framekeep_code_forms)], narrowed := true }
def SightLongUptoSaid : Prop := sightLongUptoRow.holds Tryd.pinned (OpenSpec.upto sightLongSpec)

/-- 'framelaw2.PurgeSame', WHERE WHAT IT READS IS OF BULK AT MOST 1048576: true; the input reads as it did. -/
def purgeSameUptoRow : OpenClaim := { program := "ytajfgmlockjmhaedoor", sum := "9d19e279cf324bbe50ada1607cfb6455125e15bfb80df55354b5602f1702d639", func := "framekeep/framelaw2.PurgeSame", spec := "purgeSame", unfollowed := true, recurses := true, named := ["framekeep/code.forms"], apart := false, laid := [("framekeep/code.forms", laid_framekeep_code_forms)], narrowed := true }
def PurgeSameUptoSaid : Prop := purgeSameUptoRow.holds Tryd.pinned (OpenSpec.upto purgeSameSpec)

/-- 'framelaw4.PurgeTwice', WHERE WHAT IT READS IS OF BULK AT MOST 1048576: true; the input reads as it did. -/
def purgeTwiceUptoRow : OpenClaim := { program := "ytajfgmlockjmhaedoor", sum := "9d19e279cf324bbe50ada1607cfb6455125e15bfb80df55354b5602f1702d639", func := "framekeep/framelaw4.PurgeTwice", spec := "purgeTwice", unfollowed := true, recurses := true, named := ["framekeep/code.forms"], apart := false, laid := [("framekeep/code.forms", laid_framekeep_code_forms)], narrowed := true }
def PurgeTwiceUptoSaid : Prop := purgeTwiceUptoRow.holds Tryd.pinned (OpenSpec.upto purgeTwiceSpec)

/-- 'framelaw2.AloneAgain', WHERE WHAT IT READS IS OF BULK AT MOST 1048576: true; the input reads as it did. -/
def aloneAgainUptoRow : OpenClaim := { program := "ytajfgmlockjmhaedoor", sum := "9d19e279cf324bbe50ada1607cfb6455125e15bfb80df55354b5602f1702d639", func := "framekeep/framelaw2.AloneAgain", spec := "aloneAgain", inPlace := ["internal/reflectlite.ValueOf", "(internal/reflectlite.Value).Type", "(internal/reflectlite.Value).IsNil", "internal/reflectlite.TypeOf", "(internal/reflectlite.Value).Elem", "(internal/reflectlite.Value).Set"], unfollowed := true, recurses := true, named := ["framekeep/code.forms", "errors.errorType"], apart := false, laid := [("errors.errorType", laid_errors_errorType), ("framekeep/code.forms", laid_framekeep_code_forms)], narrowed := true }
def AloneAgainUptoSaid : Prop := aloneAgainUptoRow.holds Tryd.pinned (OpenSpec.upto aloneAgainSpec)

/-- 'framelaw4.AloneCounts', WHERE WHAT IT READS IS OF BULK AT MOST 1048576: true; the input reads as it did. -/
def aloneCountsUptoRow : OpenClaim := { program := "ytajfgmlockjmhaedoor", sum := "9d19e279cf324bbe50ada1607cfb6455125e15bfb80df55354b5602f1702d639", func := "framekeep/framelaw4.AloneCounts", spec := "aloneCounts", unfollowed := true, recurses := true, named := ["framekeep/code.forms"], apart := false, laid := [("framekeep/code.forms", laid_framekeep_code_forms)], narrowed := true }
def AloneCountsUptoSaid : Prop := aloneCountsUptoRow.holds Tryd.pinned (OpenSpec.upto aloneCountsSpec)

end Rows
end Go.Proofs.YtajfgmlockjmhaeDoor

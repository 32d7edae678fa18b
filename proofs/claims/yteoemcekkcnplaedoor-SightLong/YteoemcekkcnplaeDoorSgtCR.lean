/-
  What the laws of sight ask of Run: a contract, to be shown where the code lies.
-/
import Derived.Test.YteoemcekkcnplaeDoorJd3
import Derived.Test.YteoemcekkcnplaeDoorSgtMath
namespace Go.Proofs.YteoemcekkcnplaeDoor
open Go.RowKit

/-- Run: the states of a room of a new kernel. -/
def SgtRun (G : World → Prop) : Prop := ∀ (p : PD) (vc vs vw : Value) (n r : Int) (W : World), G W → Pln W vc vs vw p → Calls Tryd.prog 8 #[plV vc p.ticks vs vw, .int .i64 n, .int .i64 r] W fun e w' => ∃ v, e = .returned (.tuple #[v, wErr (runE p n r)]) ∧ StL w' v (if runE p n r = 0 then statesK p n.toNat r.toNat else []) ∧ Below W.heap.size W w'
end Go.Proofs.YteoemcekkcnplaeDoor

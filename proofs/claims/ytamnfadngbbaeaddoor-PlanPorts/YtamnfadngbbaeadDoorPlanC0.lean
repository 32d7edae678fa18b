/-
  What the laws of plans ask of plan.Check and of framesame.Error: contracts, each to be shown where the code lies.
-/
import Derived.Test.YtamnfadngbbaeadDoorPlanBase
namespace Go.Proofs.YtamnfadngbbaeadDoor
open Go.RowKit

/-- What plan.Check, and framesame.Error, do in every world of a kind. -/
structure PlanC0 (G : World → Prop) : Prop where
  all : ∀ w w', G w → Below w.heap.size w w' → G w'
  chk : ∀ (p : PD) (vc vs vw : Value) (W : World), G W → Pln W vc vs vw p → Calls Tryd.prog 4 #[plV vc p.ticks vs vw] W fun e w' => e = .returned (wErr (plchk p)) ∧ Below W.heap.size W w'
  err : ∀ (e : Int) (W : World), G W → Calls Tryd.prog 6 #[wErr e, .int .i64 e] W fun r w' => r = .returned (.bool true) ∧ Below W.heap.size W w'
end Go.Proofs.YtamnfadngbbaeadDoor

/-
  What the laws of plans ask of package plan and of framesame.Error: contracts, each to be shown where the code lies.
-/
import Derived.Test.YtamnfadngbbaeacGreatDoorReadPlA
import Derived.Test.YtamnfadngbbaeacGreatDoorRefPlanText
import Derived.Test.YtamnfadngbbaeacGreatDoorSamePlan
namespace Go.Proofs.YtamnfadngbbaeacGreatDoor
open Go.RowKit

/-- The text that Print answers. -/
def prtB (p : PD) : List UInt8 := if plchk p = 0 then planB p else []
/-- What package plan does in every world of a kind. -/
structure PlanCb (G : World → Prop) : Prop where
  all : ∀ w w', G w → Below w.heap.size w w' → G w'
  chk : ∀ (p : PD) (vc vs vw : Value) (W : World), G W → Pln W vc vs vw p → Calls Tryz.prog 7 #[plV vc p.ticks vs vw] W fun e w' => e = .returned (wErr (plchk p)) ∧ Below W.heap.size W w'
  prt : ∀ (p : PD) (vc vs vw : Value) (W : World), G W → Pln W vc vs vw p → Calls Tryz.prog 9 #[plV vc p.ticks vs vw] W fun e w' => e = .returned (.tuple #[.string ⟨(prtB p).toArray⟩, wErr (plchk p)]) ∧ Below W.heap.size W w'
  prs : ∀ (t : ByteArray) (W : World), G W → t.size ≤ 1099511627776 → Calls Tryz.prog 11 #[.string t] W fun e w' => ∃ vc vs vw, e = .returned (.tuple #[plV vc (planP t.data.toList).1.ticks vs vw, wErr (planP t.data.toList).2]) ∧ Pln w' vc vs vw (planP t.data.toList).1 ∧ Below W.heap.size W w'
/-- .. and framesame.Error. -/
structure PlanCs (G : World → Prop) : Prop extends PlanCb G where
  err : ∀ (e : Int) (W : World), G W → Calls Tryz.prog 6 #[wErr e, .int .i64 e] W fun r w' => r = .returned (.bool true) ∧ Below W.heap.size W w'
/-- What is read is small. -/
theorem planP_small (t : List UInt8) : (planP t).1.code.length ≤ 1000 ∧ (planP t).1.spans.length ≤ 1000 ∧ (planP t).1.wires.length ≤ 1000 ∧ ∀ c ∈ (planP t).1.code, c.length ≤ 1000 := by
  have key : ∀ p : PD, plchk p = 0 → p.code.length ≤ 1000 ∧ p.spans.length ≤ 1000 ∧ p.wires.length ≤ 1000 ∧ ∀ c ∈ p.code, c.length ≤ 1000 := fun p h => by
    obtain ⟨h1, _, h3, h4, _, _, h7, _⟩ := plchk_zero h
    have := (fchk_zero h3).2.2.1
    have := (wschk_ok h4).1
    refine ⟨by omega, by omega, by omega, fun c hc => ?_⟩
    have := (chk_zero (codesE_zero h7 c hc)).2.1
    omega
  have none : ∀ z : Int, ((PD.none, z) : PD × Int).1.code.length ≤ 1000 ∧ ((PD.none, z) : PD × Int).1.spans.length ≤ 1000 ∧ ((PD.none, z) : PD × Int).1.wires.length ≤ 1000 ∧ ∀ c ∈ ((PD.none, z) : PD × Int).1.code, c.length ≤ 1000 := fun z => ⟨by simp [PD.none], by simp [PD.none], by simp [PD.none], fun c hc => by simp [PD.none] at hc⟩
  unfold planP
  split
  · cases ho : planOf (cutB 10 t).dropLast with
    | none => rw [planR_none]; exact none 2
    | some p =>
      by_cases hk : plchk p = 0
      · rw [planR_ok hk]; exact key p hk
      · rw [planR_bad hk]; exact none _
  · exact none 2
theorem prtB_len (p : PD) : (prtB p).length ≤ 20000 := by
  unfold prtB
  split
  · rename_i h
    have := (tx_len h).2.2.2 p.code.length
    rw [txC_all] at this
    exact this
  · simp
end Go.Proofs.YtamnfadngbbaeacGreatDoor

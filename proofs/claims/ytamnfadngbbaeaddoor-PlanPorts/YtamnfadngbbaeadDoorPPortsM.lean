/-
  The plans of the law PlanPorts: plain mathematics.
-/
import Derived.Test.YtamnfadngbbaeadDoorPlanMath
namespace Go.Proofs.YtamnfadngbbaeadDoor

/-- Two rooms, the second one sends; one wire. -/
def ptP (f t k d : Int) : PD := ⟨[[(10, 0, 0)], [(8, 0, 0)]], 1, [], [(f, t, k, d)]⟩
theorem pt_bad {k d : Int} (h : wchk 0 1 k d ≠ 0) : plchk (ptP 0 1 k d) ≠ 0 := fun h0 => h ((wschk_ok (plchk_zero h0).2.2.2.1).2 (0, 1, k, d) (by simp [ptP]))
theorem pt_kinds {k d : Int} (h : wchk 0 1 k d = 0) : (k = 1 ∧ d = 1) ∨ (k = 2 ∧ (d = 1 ∨ d = 2 ∨ d = 3 ∨ d = 4 ∨ d = 5 ∨ d = 6)) := by
  rcases wchk_kind h with h | ⟨h1, h2, h3⟩
  · exact Or.inl h
  · exact Or.inr ⟨h1, by omega⟩
theorem pt_not {k d : Int} (h : wchk 0 1 k d = 0) : plchk (ptP 0 1 k d) = 3 := by
  rcases pt_kinds h with ⟨rfl, rfl⟩ | ⟨rfl, rfl | rfl | rfl | rfl | rfl | rfl⟩ <;> decide
theorem pt_own {k d : Int} (h : wchk 0 1 k d = 0) : plchk (ptP 1 0 k d) = 0 := by
  rcases pt_kinds h with ⟨rfl, rfl⟩ | ⟨rfl, rfl | rfl | rfl | rfl | rfl | rfl⟩ <;> decide
end Go.Proofs.YtamnfadngbbaeadDoor

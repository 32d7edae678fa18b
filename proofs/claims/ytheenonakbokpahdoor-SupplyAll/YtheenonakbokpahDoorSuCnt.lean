/-
  supply.isCount.
-/
import Derived.Test.YtheenonakbokpahDoorFBase
import Derived.Test.YtheenonakbokpahDoorEBase
namespace Go.Proofs.YtheenonakbokpahDoor
open Go.RowKit

set_option maxRecDepth 100000 in
set_option maxHeartbeats 1000000 in
theorem sucnt_any (m : Int) (w : World) : Calls Tryd.prog 16 #[.int .i64 m] w fun e w' => e = .returned (.bool (decide (0 ≤ m) && decide (m ≤ 2000))) ∧ w' = w := by
  by_cases h : 0 ≤ m
  · by_cases h2 : m ≤ 2000
    · go_enter Tryd.func16, Tryd.ntmps16
      go_wp2
      go_ret
      exact ⟨retB (by simp <;> omega), rfl⟩
    · have h2' : decide (m ≤ 2000) = false := by simpa using h2
      go_enter Tryd.func16, Tryd.ntmps16
      go_wp2
      go_ret
      exact ⟨retB (by simp <;> omega), rfl⟩
  · have h' : decide (0 ≤ m) = false := by simpa using h
    go_enter Tryd.func16, Tryd.ntmps16
    go_wp2
    go_ret
    exact ⟨retB (by simp <;> omega), rfl⟩
end Go.Proofs.YtheenonakbokpahDoor

/-
  flow.isRoom.
-/
import Derived.Test.YtbnliibgnnegeagDoorFlCheck
namespace Go.Proofs.YtbnliibgnnegeagDoor
open Go.RowKit

set_option maxRecDepth 100000 in
set_option maxHeartbeats 1000000 in
theorem flroom_yes (r : Int) (w : World) (h0 : 0 ≤ r) (h1 : r < 5) : Calls Tryd.prog 25 #[.int .i64 r] w fun e w' => e = .returned (.bool true) ∧ w' = w := by
  go_enter Tryd.func25, Tryd.ntmps25
  go_wp2
  go_ret
  exact ⟨rfl, rfl⟩
set_option maxRecDepth 100000 in
set_option maxHeartbeats 1000000 in
theorem flroom_no (r : Int) (w : World) (h : ¬ (0 ≤ r ∧ r < 5)) : Calls Tryd.prog 25 #[.int .i64 r] w fun e w' => e = .returned (.bool false) ∧ w' = w := by
  by_cases h0 : 0 ≤ r
  · have h1 : decide (r < 5) = false := by simp; omega
    clear h
    go_enter Tryd.func25, Tryd.ntmps25
    go_wp2
    go_ret
    exact ⟨rfl, rfl⟩
  · have h0' : decide (0 ≤ r) = false := by simp; omega
    clear h
    go_enter Tryd.func25, Tryd.ntmps25
    go_wp2
    go_ret
    exact ⟨rfl, rfl⟩
end Go.Proofs.YtbnliibgnnegeagDoor

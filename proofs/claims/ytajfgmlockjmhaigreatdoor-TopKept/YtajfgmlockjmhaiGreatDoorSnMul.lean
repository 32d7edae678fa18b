/-
  math/bits.Mul of one and a few.
-/
import Derived.Test.YtajfgmlockjmhaiGreatDoorJt1
import Derived.RangeFuncNested
namespace Go.Proofs.YtajfgmlockjmhaiGreatDoor
open Go.RowKit

set_option maxRecDepth 100000 in
set_option maxHeartbeats 4000000 in
theorem mul64_few (n : Nat) (hn : n ≤ 12) (w : World) : Calls Tryz.prog 147 #[.int .u64 1, .int .u64 n] w fun e w' => e = .returned (.tuple #[.int .u64 0, .int .u64 n]) ∧ w' = w := by
  have h : n = 0 ∨ n = 1 ∨ n = 2 ∨ n = 3 ∨ n = 4 ∨ n = 5 ∨ n = 6 ∨ n = 7 ∨ n = 8 ∨ n = 9 ∨ n = 10 ∨ n = 11 ∨ n = 12 := by omega
  clear hn
  rcases h with rfl | rfl | rfl | rfl | rfl | rfl | rfl | rfl | rfl | rfl | rfl | rfl | rfl <;>
  · go_enter Tryz.func147, Tryz.ntmps147
    go_wp2
    go_ret2
    exact ⟨rfl, rfl⟩
set_option maxRecDepth 100000 in
set_option maxHeartbeats 4000000 in
theorem mul_few (n : Nat) (hn : n ≤ 12) (w : World) : Calls Tryz.prog 108 #[.int .u64 1, .int .u64 n] w fun e w' => e = .returned (.tuple #[.int .u64 0, .int .u64 n]) ∧ w' = w := by
  have q := mul64_few n hn w
  clear hn
  go_enter Tryz.func108, Tryz.ntmps108
  go_wp2_with (go_at_call 147; refine q.mono ?_; rintro e w1 ⟨rfl, hw1⟩; subst w1; clear q)
  go_ret2
  exact ⟨rfl, rfl⟩
end Go.Proofs.YtajfgmlockjmhaiGreatDoor

/-
  wire.outside: may a number not be sent?
-/
import Derived.Test.YtfconbblnmbnpabWLine
namespace Go.Proofs.Ytfconbblnmbnpab
open Go.RowKit

def woutB (n : Int) : Bool := decide (n < 0) || decide (999 < n)
set_option maxRecDepth 100000 in
set_option maxHeartbeats 1000000 in
theorem wout_yes (n : Int) (w : World) (h : n < 0 ∨ 1000 ≤ n) : Calls Try.prog 19 #[.int .i64 n] w fun e w' => e = .returned (.bool true) ∧ w' = w := by
  by_cases h0 : n < 0
  · clear h
    go_enter Try.func19, Try.ntmps19
    go_wp2
    go_ret
    exact ⟨rfl, rfl⟩
  · have h0' : decide (n < 0) = false := by simpa using h0
    have h1 : 1000 ≤ n := by omega
    clear h
    go_enter Try.func19, Try.ntmps19
    go_wp2
    go_ret
    exact ⟨rfl, rfl⟩
set_option maxRecDepth 100000 in
set_option maxHeartbeats 1000000 in
theorem wout_no (n : Int) (w : World) (h0 : 0 ≤ n) (h1 : n < 1000) : Calls Try.prog 19 #[.int .i64 n] w fun e w' => e = .returned (.bool false) ∧ w' = w := by
  have h0' : decide (n < 0) = false := by simpa using h0
  have h1' : decide (1000 ≤ n) = false := by simpa using h1
  go_enter Try.func19, Try.ntmps19
  go_wp2
  go_ret
  exact ⟨rfl, rfl⟩
theorem wout_any (n : Int) (w : World) : Calls Try.prog 19 #[.int .i64 n] w fun e w' => e = .returned (.bool (woutB n)) ∧ w' = w := by
  by_cases h : n < 0 ∨ 1000 ≤ n
  · have e : woutB n = true := by unfold woutB; rw [Bool.or_eq_true]; rcases h with h | h; exact Or.inl (decide_eq_true h); exact Or.inr (decide_eq_true (by omega))
    rw [e]; exact wout_yes n w h
  · have e : woutB n = false := by unfold woutB; rw [Bool.or_eq_false_iff]; exact ⟨decide_eq_false (by omega), decide_eq_false (by omega)⟩
    rw [e]; exact wout_no n w (by omega) (by omega)
end Go.Proofs.Ytfconbblnmbnpab

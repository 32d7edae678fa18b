/-
  frameref1.Step: op by op.
-/
import Derived.Test.YtajfgmlockjmhaiGreatDoorJk9
namespace Go.Proofs.YtajfgmlockjmhaiGreatDoor
open Go.RowKit

set_option maxRecDepth 100000 in
set_option maxHeartbeats 8000000 in
theorem rs_9_true (b off n cap k : Nat) (a : Int) (bb : Int) (got : Int) (c : Nat → Int) (w : World) (hk : k < n) (hn : n ≤ 20) (hblt : b < w.heap.size) (ha : 0 ≤ a ∧ a ≤ 5)
    (hc0 : w.cell? ⟨b, off + k * 3, none⟩ = some (.int .i64 9)) (hc1 : w.cell? ⟨b, off + k * 3 + 1, none⟩ = some (.int .i64 a)) (hc2 : w.cell? ⟨b, off + k * 3 + 2, none⟩ = some (.int .i64 bb)) :
    Calls Tryz.prog 132 #[.slice (some ⟨b, off, none⟩) n cap, .agg #[.int .i64 k, .int .i64 (c 0), .int .i64 (c 1), .int .i64 (c 2), .int .i64 (c 3), .int .i64 (c 4), .int .i64 (c 5), .bool false], .int .i64 got, .bool true] w fun e w' => (∃ q : Int, q = 2 ∧ e = .returned (.tuple #[stV ⟨goOn k n, upd c a.toNat (got), false⟩, .int .i64 (-1), .int .i64 q])) ∧ Below w.heap.size w w' := by
  have hki : (k : Int) < (n : Int) := by omega
  have h : a = 0 ∨ a = 1 ∨ a = 2 ∨ a = 3 ∨ a = 4 ∨ a = 5 := by omega
  clear ha
  by_cases hl : (k : Int) + 1 = n
  all_goals rcases h with rfl | rfl | rfl | rfl | rfl | rfl
  all_goals
    first | (have hl' : ((k : Int) + 1 == n) = true := by simpa using hl) | (have hl' : ((k : Int) + 1 == n) = false := by simpa using hl)
    try (have hg1 : goOn k n = 0 := if_pos hl; rw [hg1]; clear hg1)
    try (have hg2 : goOn k n = (k : Int) + 1 := if_neg hl; rw [hg2]; clear hg2)
    clear hl
    go_enter Tryz.func132, Tryz.ntmps132
    go_wp2
    try (go_region; all_goals go_wp2)
    refine bodyPost_ret (v := .tuple #[_, _, .int .i64 2]) ?_ rfl ⟨⟨_, rfl, rfl⟩, ?_⟩
    · simp [results, Tryz.results132, go_sem, stV, upd]
    · repeat' first | exact Below.refl _ _ | refine Below.drew ?_ | refine Below.alloc ?_ (by simp <;> omega) _ | refine Below.setCell ?_ (by simp <;> omega) _
set_option maxRecDepth 100000 in
set_option maxHeartbeats 8000000 in
theorem rs_9_false (b off n cap k : Nat) (a : Int) (bb : Int) (got : Int) (c : Nat → Int) (w : World) (hk : k < n) (hn : n ≤ 20) (hblt : b < w.heap.size) (ha : 0 ≤ a ∧ a ≤ 5)
    (hc0 : w.cell? ⟨b, off + k * 3, none⟩ = some (.int .i64 9)) (hc1 : w.cell? ⟨b, off + k * 3 + 1, none⟩ = some (.int .i64 a)) (hc2 : w.cell? ⟨b, off + k * 3 + 2, none⟩ = some (.int .i64 bb)) :
    Calls Tryz.prog 132 #[.slice (some ⟨b, off, none⟩) n cap, .agg #[.int .i64 k, .int .i64 (c 0), .int .i64 (c 1), .int .i64 (c 2), .int .i64 (c 3), .int .i64 (c 4), .int .i64 (c 5), .bool false], .int .i64 got, .bool false] w fun e w' => (∃ q : Int, q = 3 ∧ e = .returned (.tuple #[stV ⟨k, c, false⟩, .int .i64 (-1), .int .i64 q])) ∧ Below w.heap.size w w' := by
  have hki : (k : Int) < (n : Int) := by omega
  have h : a = 0 ∨ a = 1 ∨ a = 2 ∨ a = 3 ∨ a = 4 ∨ a = 5 := by omega
  clear ha
  by_cases hl : (k : Int) + 1 = n
  all_goals rcases h with rfl | rfl | rfl | rfl | rfl | rfl
  all_goals
    first | (have hl' : ((k : Int) + 1 == n) = true := by simpa using hl) | (have hl' : ((k : Int) + 1 == n) = false := by simpa using hl)
    try (have hg1 : goOn k n = 0 := if_pos hl; rw [hg1]; clear hg1)
    try (have hg2 : goOn k n = (k : Int) + 1 := if_neg hl; rw [hg2]; clear hg2)
    clear hl
    go_enter Tryz.func132, Tryz.ntmps132
    go_wp2
    try (go_region; all_goals go_wp2)
    refine bodyPost_ret (v := .tuple #[_, _, .int .i64 3]) ?_ rfl ⟨⟨_, rfl, rfl⟩, ?_⟩
    · simp [results, Tryz.results132, go_sem, stV]
    · repeat' first | exact Below.refl _ _ | refine Below.drew ?_ | refine Below.alloc ?_ (by simp <;> omega) _ | refine Below.setCell ?_ (by simp <;> omega) _
end Go.Proofs.YtajfgmlockjmhaiGreatDoor

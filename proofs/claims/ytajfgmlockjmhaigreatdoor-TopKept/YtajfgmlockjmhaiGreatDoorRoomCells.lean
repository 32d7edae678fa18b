/-
  room.cells: of an op that fits, and cells that are right.
-/
import Derived.Test.YtajfgmlockjmhaiGreatDoorJt12
namespace Go.Proofs.YtajfgmlockjmhaiGreatDoor
open Go.RowKit

def cv (c : Nat → Int) : Value := .agg #[.int .i64 (c 0), .int .i64 (c 1), .int .i64 (c 2), .int .i64 (c 3), .int .i64 (c 4), .int .i64 (c 5)]
theorem six_at (c : Nat → Int) (w : World) (t : TypeId) (b : Nat) (hb : b ≤ 5) : (w.alloc (.cells #[.int .i64 (c 0), .int .i64 (c 1), .int .i64 (c 2), .int .i64 (c 3), .int .i64 (c 4), .int .i64 (c 5)] t)).cell? ⟨w.heap.size, b, none⟩ = some (.int .i64 (c b)) := by
  have h : b = 0 ∨ b = 1 ∨ b = 2 ∨ b = 3 ∨ b = 4 ∨ b = 5 := by omega
  rcases h with rfl | rfl | rfl | rfl | rfl | rfl <;> simp
set_option maxRecDepth 100000 in
set_option maxHeartbeats 1000000 in
theorem cells_none (n a b got : Int) (c : Nat → Int) (is : Bool) (w : World) (h1 : (n == 1) = false) (h2 : (n == 2) = false) (h3 : (n == 3) = false) (h4 : (n == 4) = false) (h5 : (n == 5) = false) (h9 : (n == 9) = false) :
    Calls Tryz.prog 121 #[.agg #[.int .i64 n, .int .i64 a, .int .i64 b], cv c, .int .i64 got, .bool is] w fun e w' => e = .returned (cv c) ∧ Below w.heap.size w w' := by
  unfold cv
  go_enter Tryz.func121, Tryz.ntmps121
  go_wp2
  refine bodyPost_ret (v := cv c) ?_ rfl ⟨rfl, ?_⟩
  · simp [results, Tryz.results121, go_sem, cv]
  · repeat' first | exact Below.refl _ _ | refine Below.alloc ?_ (by simp <;> omega) _ | refine Below.setCell ?_ (by simp <;> omega) _
set_option maxRecDepth 100000 in
set_option maxHeartbeats 1000000 in
theorem cells_wait (a b got : Int) (c : Nat → Int) (w : World) :
    Calls Tryz.prog 121 #[.agg #[.int .i64 9, .int .i64 a, .int .i64 b], cv c, .int .i64 got, .bool false] w fun e w' => e = .returned (cv c) ∧ Below w.heap.size w w' := by
  unfold cv
  go_enter Tryz.func121, Tryz.ntmps121
  go_wp2
  refine bodyPost_ret (v := cv c) ?_ rfl ⟨rfl, ?_⟩
  · simp [results, Tryz.results121, go_sem, cv]
  · repeat' first | exact Below.refl _ _ | refine Below.alloc ?_ (by simp <;> omega) _ | refine Below.setCell ?_ (by simp <;> omega) _
set_option maxRecDepth 100000 in
set_option maxHeartbeats 1000000 in
theorem cells_set (a : Nat) (b got : Int) (c : Nat → Int) (is : Bool) (w : World) (ha : a ≤ 5) :
    Calls Tryz.prog 121 #[.agg #[.int .i64 1, .int .i64 a, .int .i64 b], cv c, .int .i64 got, .bool is] w fun e w' => e = .returned (cv (upd c a b)) ∧ Below w.heap.size w w' := by
  unfold cv
  have h : a = 0 ∨ a = 1 ∨ a = 2 ∨ a = 3 ∨ a = 4 ∨ a = 5 := by omega
  rcases h with rfl | rfl | rfl | rfl | rfl | rfl
  all_goals
    go_enter Tryz.func121, Tryz.ntmps121
    go_wp2
    refine bodyPost_ret (v := cv (upd c _ b)) ?_ rfl ⟨rfl, ?_⟩
    · simp [results, Tryz.results121, go_sem, cv, upd]
    · repeat' first | exact Below.refl _ _ | refine Below.alloc ?_ (by simp <;> omega) _ | refine Below.setCell ?_ (by simp <;> omega) _
set_option maxRecDepth 100000 in
set_option maxHeartbeats 1000000 in
theorem cells_take (a : Nat) (b got : Int) (c : Nat → Int) (w : World) (ha : a ≤ 5) :
    Calls Tryz.prog 121 #[.agg #[.int .i64 9, .int .i64 a, .int .i64 b], cv c, .int .i64 got, .bool true] w fun e w' => e = .returned (cv (upd c a got)) ∧ Below w.heap.size w w' := by
  unfold cv
  have h : a = 0 ∨ a = 1 ∨ a = 2 ∨ a = 3 ∨ a = 4 ∨ a = 5 := by omega
  rcases h with rfl | rfl | rfl | rfl | rfl | rfl
  all_goals
    go_enter Tryz.func121, Tryz.ntmps121
    go_wp2
    refine bodyPost_ret (v := cv (upd c _ got)) ?_ rfl ⟨rfl, ?_⟩
    · simp [results, Tryz.results121, go_sem, cv, upd]
    · repeat' first | exact Below.refl _ _ | refine Below.alloc ?_ (by simp <;> omega) _ | refine Below.setCell ?_ (by simp <;> omega) _
end Go.Proofs.YtajfgmlockjmhaiGreatDoor

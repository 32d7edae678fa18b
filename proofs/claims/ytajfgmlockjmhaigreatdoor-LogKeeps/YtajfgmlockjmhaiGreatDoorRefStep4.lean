/-
  frameref1.Step: op by op.
-/
import Derived.Test.YtajfgmlockjmhaiGreatDoorJk9
namespace Go.Proofs.YtajfgmlockjmhaiGreatDoor
open Go.RowKit

set_option maxRecDepth 100000 in
set_option maxHeartbeats 8000000 in
theorem rs_6_z (b off n cap k : Nat) (a : Int) (bb : Int) (got : Int) (is : Bool) (c : Nat → Int) (w : World) (hk : k < n) (hn : n ≤ 20) (hblt : b < w.heap.size) (ha : 0 ≤ a ∧ a ≤ 5) (hz : (c a.toNat == 0) = true)
    (hc0 : w.cell? ⟨b, off + k * 3, none⟩ = some (.int .i64 6)) (hc1 : w.cell? ⟨b, off + k * 3 + 1, none⟩ = some (.int .i64 a)) (hc2 : w.cell? ⟨b, off + k * 3 + 2, none⟩ = some (.int .i64 bb)) :
    Calls Tryz.prog 132 #[.slice (some ⟨b, off, none⟩) n cap, .agg #[.int .i64 k, .int .i64 (c 0), .int .i64 (c 1), .int .i64 (c 2), .int .i64 (c 3), .int .i64 (c 4), .int .i64 (c 5), .bool false], .int .i64 got, .bool is] w fun e w' => (∃ q : Int, q = 0 ∧ e = .returned (.tuple #[stV ⟨bb, c, false⟩, .int .i64 (-1), .int .i64 q])) ∧ Below w.heap.size w w' := by
  have hki : (k : Int) < (n : Int) := by omega
  have h : a = 0 ∨ a = 1 ∨ a = 2 ∨ a = 3 ∨ a = 4 ∨ a = 5 := by omega
  clear ha
  by_cases hl : (k : Int) + 1 = n
  all_goals rcases h with rfl | rfl | rfl | rfl | rfl | rfl
  all_goals
    first | (have hl' : ((k : Int) + 1 == n) = true := by simpa using hl) | (have hl' : ((k : Int) + 1 == n) = false := by simpa using hl)
    try (have hg1 : goOn k n = 0 := if_pos hl; rw [hg1]; clear hg1)
    try (have hg2 : goOn k n = (k : Int) + 1 := if_neg hl; rw [hg2]; clear hg2)
    clear hl
    have hz' := hz
    try simp only [show Int.toNat 0 = 0 from rfl, show Int.toNat 1 = 1 from rfl, show Int.toNat 2 = 2 from rfl, show Int.toNat 3 = 3 from rfl, show Int.toNat 4 = 4 from rfl, show Int.toNat 5 = 5 from rfl] at hz'
    clear hz
    go_enter Tryz.func132, Tryz.ntmps132
    go_wp2
    try (go_region; all_goals go_wp2)
    refine bodyPost_ret (v := .tuple #[_, _, .int .i64 0]) ?_ rfl ⟨⟨_, rfl, rfl⟩, ?_⟩
    · simp [results, Tryz.results132, go_sem, stV]
    · repeat' first | exact Below.refl _ _ | refine Below.drew ?_ | refine Below.alloc ?_ (by simp <;> omega) _ | refine Below.setCell ?_ (by simp <;> omega) _
set_option maxRecDepth 100000 in
set_option maxHeartbeats 8000000 in
theorem rs_6_n (b off n cap k : Nat) (a : Int) (bb : Int) (got : Int) (is : Bool) (c : Nat → Int) (w : World) (hk : k < n) (hn : n ≤ 20) (hblt : b < w.heap.size) (ha : 0 ≤ a ∧ a ≤ 5) (hz : (c a.toNat == 0) = false)
    (hc0 : w.cell? ⟨b, off + k * 3, none⟩ = some (.int .i64 6)) (hc1 : w.cell? ⟨b, off + k * 3 + 1, none⟩ = some (.int .i64 a)) (hc2 : w.cell? ⟨b, off + k * 3 + 2, none⟩ = some (.int .i64 bb)) :
    Calls Tryz.prog 132 #[.slice (some ⟨b, off, none⟩) n cap, .agg #[.int .i64 k, .int .i64 (c 0), .int .i64 (c 1), .int .i64 (c 2), .int .i64 (c 3), .int .i64 (c 4), .int .i64 (c 5), .bool false], .int .i64 got, .bool is] w fun e w' => (∃ q : Int, q = 0 ∧ e = .returned (.tuple #[stV ⟨goOn k n, c, false⟩, .int .i64 (-1), .int .i64 q])) ∧ Below w.heap.size w w' := by
  have hki : (k : Int) < (n : Int) := by omega
  have h : a = 0 ∨ a = 1 ∨ a = 2 ∨ a = 3 ∨ a = 4 ∨ a = 5 := by omega
  clear ha
  by_cases hl : (k : Int) + 1 = n
  all_goals rcases h with rfl | rfl | rfl | rfl | rfl | rfl
  all_goals
    first | (have hl' : ((k : Int) + 1 == n) = true := by simpa using hl) | (have hl' : ((k : Int) + 1 == n) = false := by simpa using hl)
    try (have hg1 : goOn k n = 0 := if_pos hl; rw [hg1]; clear hg1)
    try (have hg2 : goOn k n = (k : Int) + 1 := if_neg hl; rw [hg2]; clear hg2)
    clear hl
    have hz' := hz
    try simp only [show Int.toNat 0 = 0 from rfl, show Int.toNat 1 = 1 from rfl, show Int.toNat 2 = 2 from rfl, show Int.toNat 3 = 3 from rfl, show Int.toNat 4 = 4 from rfl, show Int.toNat 5 = 5 from rfl] at hz'
    clear hz
    go_enter Tryz.func132, Tryz.ntmps132
    go_wp2
    try (go_region; all_goals go_wp2)
    refine bodyPost_ret (v := .tuple #[_, _, .int .i64 0]) ?_ rfl ⟨⟨_, rfl, rfl⟩, ?_⟩
    · simp [results, Tryz.results132, go_sem, stV]
    · repeat' first | exact Below.refl _ _ | refine Below.drew ?_ | refine Below.alloc ?_ (by simp <;> omega) _ | refine Below.setCell ?_ (by simp <;> omega) _
set_option maxRecDepth 100000 in
set_option maxHeartbeats 8000000 in
theorem rs_7 (b off n cap k : Nat) (a : Int) (bb : Int) (got : Int) (is : Bool) (c : Nat → Int) (w : World) (hk : k < n) (hn : n ≤ 20) (hblt : b < w.heap.size) (ha : a = 0)
    (hc0 : w.cell? ⟨b, off + k * 3, none⟩ = some (.int .i64 7)) (hc1 : w.cell? ⟨b, off + k * 3 + 1, none⟩ = some (.int .i64 a)) (hc2 : w.cell? ⟨b, off + k * 3 + 2, none⟩ = some (.int .i64 bb)) :
    Calls Tryz.prog 132 #[.slice (some ⟨b, off, none⟩) n cap, .agg #[.int .i64 k, .int .i64 (c 0), .int .i64 (c 1), .int .i64 (c 2), .int .i64 (c 3), .int .i64 (c 4), .int .i64 (c 5), .bool false], .int .i64 got, .bool is] w fun e w' => (∃ q : Int, q = 0 ∧ e = .returned (.tuple #[stV ⟨bb, c, false⟩, .int .i64 (-1), .int .i64 q])) ∧ Below w.heap.size w w' := by
  have hki : (k : Int) < (n : Int) := by omega
  subst ha
  by_cases hl : (k : Int) + 1 = n
  all_goals
    first | (have hl' : ((k : Int) + 1 == n) = true := by simpa using hl) | (have hl' : ((k : Int) + 1 == n) = false := by simpa using hl)
    try (have hg1 : goOn k n = 0 := if_pos hl; rw [hg1]; clear hg1)
    try (have hg2 : goOn k n = (k : Int) + 1 := if_neg hl; rw [hg2]; clear hg2)
    clear hl
    go_enter Tryz.func132, Tryz.ntmps132
    go_wp2
    try (go_region; all_goals go_wp2)
    refine bodyPost_ret (v := .tuple #[_, _, .int .i64 0]) ?_ rfl ⟨⟨_, rfl, rfl⟩, ?_⟩
    · simp [results, Tryz.results132, go_sem, stV]
    · repeat' first | exact Below.refl _ _ | refine Below.drew ?_ | refine Below.alloc ?_ (by simp <;> omega) _ | refine Below.setCell ?_ (by simp <;> omega) _
set_option maxRecDepth 100000 in
set_option maxHeartbeats 8000000 in
theorem rs_10 (b off n cap k : Nat) (a : Int) (bb : Int) (got : Int) (is : Bool) (c : Nat → Int) (w : World) (hk : k < n) (hn : n ≤ 20) (hblt : b < w.heap.size) (ha : a = 0)
    (hc0 : w.cell? ⟨b, off + k * 3, none⟩ = some (.int .i64 10)) (hc1 : w.cell? ⟨b, off + k * 3 + 1, none⟩ = some (.int .i64 a)) (hc2 : w.cell? ⟨b, off + k * 3 + 2, none⟩ = some (.int .i64 bb)) :
    Calls Tryz.prog 132 #[.slice (some ⟨b, off, none⟩) n cap, .agg #[.int .i64 k, .int .i64 (c 0), .int .i64 (c 1), .int .i64 (c 2), .int .i64 (c 3), .int .i64 (c 4), .int .i64 (c 5), .bool false], .int .i64 got, .bool is] w fun e w' => (∃ q : Int, q = 0 ∧ e = .returned (.tuple #[stV ⟨goOn k n, c, false⟩, .int .i64 (-1), .int .i64 q])) ∧ Below w.heap.size w w' := by
  have hki : (k : Int) < (n : Int) := by omega
  subst ha
  by_cases hl : (k : Int) + 1 = n
  all_goals
    first | (have hl' : ((k : Int) + 1 == n) = true := by simpa using hl) | (have hl' : ((k : Int) + 1 == n) = false := by simpa using hl)
    try (have hg1 : goOn k n = 0 := if_pos hl; rw [hg1]; clear hg1)
    try (have hg2 : goOn k n = (k : Int) + 1 := if_neg hl; rw [hg2]; clear hg2)
    clear hl
    go_enter Tryz.func132, Tryz.ntmps132
    go_wp2
    try (go_region; all_goals go_wp2)
    refine bodyPost_ret (v := .tuple #[_, _, .int .i64 0]) ?_ rfl ⟨⟨_, rfl, rfl⟩, ?_⟩
    · simp [results, Tryz.results132, go_sem, stV]
    · repeat' first | exact Below.refl _ _ | refine Below.drew ?_ | refine Below.alloc ?_ (by simp <;> omega) _ | refine Below.setCell ?_ (by simp <;> omega) _
set_option maxRecDepth 100000 in
set_option maxHeartbeats 8000000 in
theorem rs_11 (b off n cap k : Nat) (a : Int) (bb : Int) (got : Int) (is : Bool) (c : Nat → Int) (w : World) (hk : k < n) (hn : n ≤ 20) (hblt : b < w.heap.size) (ha : a = 0)
    (hc0 : w.cell? ⟨b, off + k * 3, none⟩ = some (.int .i64 11)) (hc1 : w.cell? ⟨b, off + k * 3 + 1, none⟩ = some (.int .i64 a)) (hc2 : w.cell? ⟨b, off + k * 3 + 2, none⟩ = some (.int .i64 bb)) :
    Calls Tryz.prog 132 #[.slice (some ⟨b, off, none⟩) n cap, .agg #[.int .i64 k, .int .i64 (c 0), .int .i64 (c 1), .int .i64 (c 2), .int .i64 (c 3), .int .i64 (c 4), .int .i64 (c 5), .bool false], .int .i64 got, .bool is] w fun e w' => (∃ q : Int, q = 4 ∧ e = .returned (.tuple #[stV ⟨k, c, true⟩, .int .i64 (-1), .int .i64 q])) ∧ Below w.heap.size w w' := by
  have hki : (k : Int) < (n : Int) := by omega
  subst ha
  by_cases hl : (k : Int) + 1 = n
  all_goals
    first | (have hl' : ((k : Int) + 1 == n) = true := by simpa using hl) | (have hl' : ((k : Int) + 1 == n) = false := by simpa using hl)
    try (have hg1 : goOn k n = 0 := if_pos hl; rw [hg1]; clear hg1)
    try (have hg2 : goOn k n = (k : Int) + 1 := if_neg hl; rw [hg2]; clear hg2)
    clear hl
    go_enter Tryz.func132, Tryz.ntmps132
    go_wp2
    try (go_region; all_goals go_wp2)
    refine bodyPost_ret (v := .tuple #[_, _, .int .i64 4]) ?_ rfl ⟨⟨_, rfl, rfl⟩, ?_⟩
    · simp [results, Tryz.results132, go_sem, stV]
    · repeat' first | exact Below.refl _ _ | refine Below.drew ?_ | refine Below.alloc ?_ (by simp <;> omega) _ | refine Below.setCell ?_ (by simp <;> omega) _
end Go.Proofs.YtajfgmlockjmhaiGreatDoor

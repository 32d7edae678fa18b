/-
  frameref1.Step: op by op.
-/
import Derived.Test.YtajfgmlockjmhaiGreatDoorJk9
namespace Go.Proofs.YtajfgmlockjmhaiGreatDoor
open Go.RowKit

set_option maxRecDepth 100000 in
set_option maxHeartbeats 8000000 in
theorem rs_4 (b off n cap k : Nat) (a : Int) (bb : Nat) (got : Int) (is : Bool) (c : Nat → Int) (w : World) (hk : k < n) (hn : n ≤ 20) (hblt : b < w.heap.size) (ha : 0 ≤ a ∧ a ≤ 5) (hb : bb ≤ 5) (hc : ∀ i, i < 6 → 0 ≤ c i ∧ c i ≤ 999)
    (hc0 : w.cell? ⟨b, off + k * 3, none⟩ = some (.int .i64 4)) (hc1 : w.cell? ⟨b, off + k * 3 + 1, none⟩ = some (.int .i64 a)) (hc2 : w.cell? ⟨b, off + k * 3 + 2, none⟩ = some (.int .i64 bb)) :
    Calls Tryz.prog 132 #[.slice (some ⟨b, off, none⟩) n cap, .agg #[.int .i64 k, .int .i64 (c 0), .int .i64 (c 1), .int .i64 (c 2), .int .i64 (c 3), .int .i64 (c 4), .int .i64 (c 5), .bool false], .int .i64 got, .bool is] w fun e w' => (∃ q : Int, q = 0 ∧ e = .returned (.tuple #[stV ⟨goOn k n, upd c a.toNat ((c a.toNat - c bb + 1000) % 1000), false⟩, .int .i64 (-1), .int .i64 q])) ∧ Below w.heap.size w w' := by
  have hki : (k : Int) < (n : Int) := by omega
  have hbi : (bb : Int) < 6 := by omega
  obtain ⟨hx0, hx1⟩ := hc bb (by omega)
  obtain ⟨⟨l0, u0⟩, ⟨l1, u1⟩, ⟨l2, u2⟩, ⟨l3, u3⟩, ⟨l4, u4⟩, ⟨l5, u5⟩⟩ := six.1 hc
  have hat : (((w.alloc (.cells #[.int .i64 k, .int .i64 (c 0), .int .i64 (c 1), .int .i64 (c 2), .int .i64 (c 3), .int .i64 (c 4), .int .i64 (c 5), .bool false] 73)).alloc (.cells #[.int .i64 0, .int .i64 0, .int .i64 0, .int .i64 0, .int .i64 0, .int .i64 0, .int .i64 0, .bool false] 73)).alloc (.cells #[.int .i64 4, .int .i64 a, .int .i64 bb] 28)).cell? ⟨w.heap.size, 1 + bb, none⟩ = some (.int .i64 (c bb)) := by
    rw [World.cell?_alloc_lt _ _ ⟨w.heap.size, 1 + bb, none⟩ (by simp; omega), World.cell?_alloc_lt _ _ ⟨w.heap.size, 1 + bb, none⟩ (by simp)]
    exact st_at k c false w _ bb hb
  obtain ⟨x, hx⟩ : ∃ x, x = c bb := ⟨_, rfl⟩
  rw [← hx] at hat hx0 hx1 ⊢
  clear hx
  have HM : ∀ i, i < 6 → (c i + 1000 - x).tmod 1000 = (c i - x + 1000) % 1000 := fun i hi => by
    have := hc i hi
    rw [Int.tmod_eq_emod_of_nonneg (by omega)]
    omega
  clear hc
  have h : a = 0 ∨ a = 1 ∨ a = 2 ∨ a = 3 ∨ a = 4 ∨ a = 5 := by omega
  clear ha
  by_cases hl : (k : Int) + 1 = n
  all_goals rcases h with rfl | rfl | rfl | rfl | rfl | rfl
  all_goals
    first | (have hl' : ((k : Int) + 1 == n) = true := by simpa using hl) | (have hl' : ((k : Int) + 1 == n) = false := by simpa using hl)
    try (have hg1 : goOn k n = 0 := if_pos hl; rw [hg1]; clear hg1)
    try (have hg2 : goOn k n = (k : Int) + 1 := if_neg hl; rw [hg2]; clear hg2)
    clear hl
    go_enter Tryz.func132, Tryz.ntmps132
    go_wp2
    try (go_region; all_goals go_wp2)
    refine bodyPost_ret (v := .tuple #[_, _, .int .i64 0]) ?_ rfl ⟨⟨_, rfl, rfl⟩, ?_⟩
    · simp [results, Tryz.results132, go_sem, stV, upd]
    · repeat' first | exact Below.refl _ _ | refine Below.drew ?_ | refine Below.alloc ?_ (by simp <;> omega) _ | refine Below.setCell ?_ (by simp <;> omega) _
set_option maxRecDepth 100000 in
set_option maxHeartbeats 8000000 in
theorem rs_5 (b off n cap k : Nat) (a : Int) (bb : Nat) (got : Int) (is : Bool) (c : Nat → Int) (w : World) (hk : k < n) (hn : n ≤ 20) (hblt : b < w.heap.size) (ha : 0 ≤ a ∧ a ≤ 5) (hb : bb ≤ 5) (hc : ∀ i, i < 6 → 0 ≤ c i ∧ c i ≤ 999)
    (hc0 : w.cell? ⟨b, off + k * 3, none⟩ = some (.int .i64 5)) (hc1 : w.cell? ⟨b, off + k * 3 + 1, none⟩ = some (.int .i64 a)) (hc2 : w.cell? ⟨b, off + k * 3 + 2, none⟩ = some (.int .i64 bb)) :
    Calls Tryz.prog 132 #[.slice (some ⟨b, off, none⟩) n cap, .agg #[.int .i64 k, .int .i64 (c 0), .int .i64 (c 1), .int .i64 (c 2), .int .i64 (c 3), .int .i64 (c 4), .int .i64 (c 5), .bool false], .int .i64 got, .bool is] w fun e w' => (∃ q : Int, q = 0 ∧ e = .returned (.tuple #[stV ⟨goOn k n, upd c a.toNat (c a.toNat * c bb % 1000), false⟩, .int .i64 (-1), .int .i64 q])) ∧ Below w.heap.size w w' := by
  have hki : (k : Int) < (n : Int) := by omega
  have hbi : (bb : Int) < 6 := by omega
  obtain ⟨hx0, hx1⟩ := hc bb (by omega)
  obtain ⟨⟨l0, u0⟩, ⟨l1, u1⟩, ⟨l2, u2⟩, ⟨l3, u3⟩, ⟨l4, u4⟩, ⟨l5, u5⟩⟩ := six.1 hc
  have hat : (((w.alloc (.cells #[.int .i64 k, .int .i64 (c 0), .int .i64 (c 1), .int .i64 (c 2), .int .i64 (c 3), .int .i64 (c 4), .int .i64 (c 5), .bool false] 73)).alloc (.cells #[.int .i64 0, .int .i64 0, .int .i64 0, .int .i64 0, .int .i64 0, .int .i64 0, .int .i64 0, .bool false] 73)).alloc (.cells #[.int .i64 5, .int .i64 a, .int .i64 bb] 28)).cell? ⟨w.heap.size, 1 + bb, none⟩ = some (.int .i64 (c bb)) := by
    rw [World.cell?_alloc_lt _ _ ⟨w.heap.size, 1 + bb, none⟩ (by simp; omega), World.cell?_alloc_lt _ _ ⟨w.heap.size, 1 + bb, none⟩ (by simp)]
    exact st_at k c false w _ bb hb
  obtain ⟨x, hx⟩ : ∃ x, x = c bb := ⟨_, rfl⟩
  rw [← hx] at hat hx0 hx1 ⊢
  clear hx
  have HB : ∀ i, i < 6 → 0 ≤ c i * x ∧ c i * x ≤ 998001 := fun i hi => by
    have := hc i hi
    refine ⟨Int.mul_nonneg this.1 hx0, ?_⟩
    calc c i * x ≤ 999 * 999 := Int.mul_le_mul this.2 hx1 hx0 (by omega)
      _ = 998001 := by decide
  have HM : ∀ i, i < 6 → (c i * x).tmod 1000 = (c i * x) % 1000 := fun i hi => Int.tmod_eq_emod_of_nonneg (HB i hi).1
  obtain ⟨⟨ml0, mu0⟩, ⟨ml1, mu1⟩, ⟨ml2, mu2⟩, ⟨ml3, mu3⟩, ⟨ml4, mu4⟩, ⟨ml5, mu5⟩⟩ := six.1 HB
  clear HB
  clear hc
  have h : a = 0 ∨ a = 1 ∨ a = 2 ∨ a = 3 ∨ a = 4 ∨ a = 5 := by omega
  clear ha
  by_cases hl : (k : Int) + 1 = n
  all_goals rcases h with rfl | rfl | rfl | rfl | rfl | rfl
  all_goals
    first | (have hl' : ((k : Int) + 1 == n) = true := by simpa using hl) | (have hl' : ((k : Int) + 1 == n) = false := by simpa using hl)
    try (have hg1 : goOn k n = 0 := if_pos hl; rw [hg1]; clear hg1)
    try (have hg2 : goOn k n = (k : Int) + 1 := if_neg hl; rw [hg2]; clear hg2)
    clear hl
    go_enter Tryz.func132, Tryz.ntmps132
    go_wp2
    try (go_region; all_goals go_wp2)
    refine bodyPost_ret (v := .tuple #[_, _, .int .i64 0]) ?_ rfl ⟨⟨_, rfl, rfl⟩, ?_⟩
    · simp [results, Tryz.results132, go_sem, stV, upd]
    · repeat' first | exact Below.refl _ _ | refine Below.drew ?_ | refine Below.alloc ?_ (by simp <;> omega) _ | refine Below.setCell ?_ (by simp <;> omega) _
end Go.Proofs.YtajfgmlockjmhaiGreatDoor

/-
  room.cells: Copy, Add, Sub, Mul; then of any op that fits.
-/
import Derived.Test.YtajfgmlockjmhaiGreatDoorRoomCells
import Derived.BigRegion
namespace Go.Proofs.YtajfgmlockjmhaiGreatDoor
open Go.RowKit

set_option maxRecDepth 100000 in
set_option maxHeartbeats 8000000 in
theorem cells_copy (a : Int) (b : Nat) (got : Int) (c : Nat → Int) (is : Bool) (w : World) (ha : 0 ≤ a ∧ a ≤ 5) (hb : b ≤ 5) (hc : ∀ i, i < 6 → 0 ≤ c i ∧ c i ≤ 999) :
    Calls Tryz.prog 121 #[.agg #[.int .i64 2, .int .i64 a, .int .i64 b], cv c, .int .i64 got, .bool is] w fun e w' => e = .returned (cv (upd c a.toNat (c b))) ∧ Below w.heap.size w w' := by
  unfold cv
  have hbi : (b : Int) < 6 := by omega
  obtain ⟨hx0, hx1⟩ := hc b (by omega)
  obtain ⟨⟨l0, u0⟩, ⟨l1, u1⟩, ⟨l2, u2⟩, ⟨l3, u3⟩, ⟨l4, u4⟩, ⟨l5, u5⟩⟩ := six.1 hc
  have hat := six_at c (w.alloc (.cells #[.int .i64 2, .int .i64 a, .int .i64 b] 28)) 71 b hb
  simp only [World.size_alloc] at hat
  obtain ⟨x, hx⟩ : ∃ x, x = c b := ⟨_, rfl⟩
  rw [← hx] at hat hx0 hx1 ⊢
  clear hx
  clear hc
  have h : a = 0 ∨ a = 1 ∨ a = 2 ∨ a = 3 ∨ a = 4 ∨ a = 5 := by omega
  clear ha
  rcases h with rfl | rfl | rfl | rfl | rfl | rfl
  all_goals
    go_enter Tryz.func121, Tryz.ntmps121
    go_wp2
    go_region
    all_goals go_wp2
    refine bodyPost_ret (v := cv (upd c _ _)) ?_ rfl ⟨rfl, ?_⟩
    · simp [results, Tryz.results121, go_sem, cv, upd]
    · repeat' first | exact Below.refl _ _ | refine Below.drew ?_ | refine Below.alloc ?_ (by simp <;> omega) _ | refine Below.setCell ?_ (by simp <;> omega) _
set_option maxRecDepth 100000 in
set_option maxHeartbeats 8000000 in
theorem cells_add (a : Int) (b : Nat) (got : Int) (c : Nat → Int) (is : Bool) (w : World) (ha : 0 ≤ a ∧ a ≤ 5) (hb : b ≤ 5) (hc : ∀ i, i < 6 → 0 ≤ c i ∧ c i ≤ 999) :
    Calls Tryz.prog 121 #[.agg #[.int .i64 3, .int .i64 a, .int .i64 b], cv c, .int .i64 got, .bool is] w fun e w' => e = .returned (cv (upd c a.toNat ((c a.toNat + c b) % 1000))) ∧ Below w.heap.size w w' := by
  unfold cv
  have hbi : (b : Int) < 6 := by omega
  obtain ⟨hx0, hx1⟩ := hc b (by omega)
  obtain ⟨⟨l0, u0⟩, ⟨l1, u1⟩, ⟨l2, u2⟩, ⟨l3, u3⟩, ⟨l4, u4⟩, ⟨l5, u5⟩⟩ := six.1 hc
  have hat := six_at c (w.alloc (.cells #[.int .i64 3, .int .i64 a, .int .i64 b] 28)) 71 b hb
  simp only [World.size_alloc] at hat
  obtain ⟨x, hx⟩ : ∃ x, x = c b := ⟨_, rfl⟩
  rw [← hx] at hat hx0 hx1 ⊢
  clear hx
  have HM : ∀ i, i < 6 → (c i + x).tmod 1000 = (c i + x) % 1000 := fun i hi => by
    have := hc i hi
    exact Int.tmod_eq_emod_of_nonneg (by omega)
  clear hc
  have h : a = 0 ∨ a = 1 ∨ a = 2 ∨ a = 3 ∨ a = 4 ∨ a = 5 := by omega
  clear ha
  rcases h with rfl | rfl | rfl | rfl | rfl | rfl
  all_goals
    go_enter Tryz.func121, Tryz.ntmps121
    go_wp2
    go_region
    all_goals go_wp2
    refine bodyPost_ret (v := cv (upd c _ _)) ?_ rfl ⟨rfl, ?_⟩
    · simp [results, Tryz.results121, go_sem, cv, upd]
    · repeat' first | exact Below.refl _ _ | refine Below.drew ?_ | refine Below.alloc ?_ (by simp <;> omega) _ | refine Below.setCell ?_ (by simp <;> omega) _
set_option maxRecDepth 100000 in
set_option maxHeartbeats 8000000 in
theorem cells_sub (a : Int) (b : Nat) (got : Int) (c : Nat → Int) (is : Bool) (w : World) (ha : 0 ≤ a ∧ a ≤ 5) (hb : b ≤ 5) (hc : ∀ i, i < 6 → 0 ≤ c i ∧ c i ≤ 999) :
    Calls Tryz.prog 121 #[.agg #[.int .i64 4, .int .i64 a, .int .i64 b], cv c, .int .i64 got, .bool is] w fun e w' => e = .returned (cv (upd c a.toNat ((c a.toNat - c b + 1000) % 1000))) ∧ Below w.heap.size w w' := by
  unfold cv
  have hbi : (b : Int) < 6 := by omega
  obtain ⟨hx0, hx1⟩ := hc b (by omega)
  obtain ⟨⟨l0, u0⟩, ⟨l1, u1⟩, ⟨l2, u2⟩, ⟨l3, u3⟩, ⟨l4, u4⟩, ⟨l5, u5⟩⟩ := six.1 hc
  have hat := six_at c (w.alloc (.cells #[.int .i64 4, .int .i64 a, .int .i64 b] 28)) 71 b hb
  simp only [World.size_alloc] at hat
  obtain ⟨x, hx⟩ : ∃ x, x = c b := ⟨_, rfl⟩
  rw [← hx] at hat hx0 hx1 ⊢
  clear hx
  have HM : ∀ i, i < 6 → (c i - x + 1000).tmod 1000 = (c i - x + 1000) % 1000 := fun i hi => by
    have := hc i hi
    exact Int.tmod_eq_emod_of_nonneg (by omega)
  clear hc
  have h : a = 0 ∨ a = 1 ∨ a = 2 ∨ a = 3 ∨ a = 4 ∨ a = 5 := by omega
  clear ha
  rcases h with rfl | rfl | rfl | rfl | rfl | rfl
  all_goals
    go_enter Tryz.func121, Tryz.ntmps121
    go_wp2
    go_region
    all_goals go_wp2
    refine bodyPost_ret (v := cv (upd c _ _)) ?_ rfl ⟨rfl, ?_⟩
    · simp [results, Tryz.results121, go_sem, cv, upd]
    · repeat' first | exact Below.refl _ _ | refine Below.drew ?_ | refine Below.alloc ?_ (by simp <;> omega) _ | refine Below.setCell ?_ (by simp <;> omega) _
set_option maxRecDepth 100000 in
set_option maxHeartbeats 8000000 in
theorem cells_mul (a : Int) (b : Nat) (got : Int) (c : Nat → Int) (is : Bool) (w : World) (ha : 0 ≤ a ∧ a ≤ 5) (hb : b ≤ 5) (hc : ∀ i, i < 6 → 0 ≤ c i ∧ c i ≤ 999) :
    Calls Tryz.prog 121 #[.agg #[.int .i64 5, .int .i64 a, .int .i64 b], cv c, .int .i64 got, .bool is] w fun e w' => e = .returned (cv (upd c a.toNat (c a.toNat * c b % 1000))) ∧ Below w.heap.size w w' := by
  unfold cv
  have hbi : (b : Int) < 6 := by omega
  obtain ⟨hx0, hx1⟩ := hc b (by omega)
  obtain ⟨⟨l0, u0⟩, ⟨l1, u1⟩, ⟨l2, u2⟩, ⟨l3, u3⟩, ⟨l4, u4⟩, ⟨l5, u5⟩⟩ := six.1 hc
  have hat := six_at c (w.alloc (.cells #[.int .i64 5, .int .i64 a, .int .i64 b] 28)) 71 b hb
  simp only [World.size_alloc] at hat
  obtain ⟨x, hx⟩ : ∃ x, x = c b := ⟨_, rfl⟩
  rw [← hx] at hat hx0 hx1 ⊢
  clear hx
  have HB : ∀ i, i < 6 → 0 ≤ c i * x ∧ c i * x ≤ 998001 := fun i hi => by
    have := hc i hi
    refine ⟨Int.mul_nonneg this.1 hx0, ?_⟩
    calc c i * x ≤ 999 * 999 := Int.mul_le_mul this.2 hx1 hx0 (by omega)
      _ = 998001 := by decide
  have HM : ∀ i, i < 6 → (c i * x).tmod 1000 = (c i * x) % 1000 := fun i hi => Int.tmod_eq_emod_of_nonneg (HB i hi).1
  obtain ⟨⟨ml0, mu0⟩, ⟨ml1, mu1⟩, ⟨ml2, mu2⟩, ⟨ml3, mu3⟩, ⟨ml4, mu4⟩, ⟨ml5, mu5⟩⟩ := six.1 HB
  clear HB
  clear hc
  have h : a = 0 ∨ a = 1 ∨ a = 2 ∨ a = 3 ∨ a = 4 ∨ a = 5 := by omega
  clear ha
  rcases h with rfl | rfl | rfl | rfl | rfl | rfl
  all_goals
    go_enter Tryz.func121, Tryz.ntmps121
    go_wp2
    go_region
    all_goals go_wp2
    refine bodyPost_ret (v := cv (upd c _ _)) ?_ rfl ⟨rfl, ?_⟩
    · simp [results, Tryz.results121, go_sem, cv, upd]
    · repeat' first | exact Below.refl _ _ | refine Below.drew ?_ | refine Below.alloc ?_ (by simp <;> omega) _ | refine Below.setCell ?_ (by simp <;> omega) _

theorem cells_any (o : O3) (c : Nat → Int) (got : Int) (is : Bool) (w : World) (hn : 1 ≤ o.1 ∧ o.1 ≤ 11) (ha : 0 ≤ o.2.1 ∧ o.2.1 ≤ 5) (hb : 2 ≤ o.1 ∧ o.1 ≤ 5 → 0 ≤ o.2.2 ∧ o.2.2 ≤ 5) (hc : ∀ i, i < 6 → 0 ≤ c i ∧ c i ≤ 999) :
    Calls Tryz.prog 121 #[.agg #[.int .i64 o.1, .int .i64 o.2.1, .int .i64 o.2.2], cv c, .int .i64 got, .bool is] w fun e w' => e = .returned (cv (cellsF o c got is)) ∧ Below w.heap.size w w' := by
  obtain ⟨n, a, b⟩ := o
  simp only at hn ha hb ⊢
  have h : n = 1 ∨ n = 2 ∨ n = 3 ∨ n = 4 ∨ n = 5 ∨ n = 9 ∨ (n ≠ 1 ∧ n ≠ 2 ∧ n ≠ 3 ∧ n ≠ 4 ∧ n ≠ 5 ∧ n ≠ 9) := by omega
  rcases h with rfl | rfl | rfl | rfl | rfl | rfl | ⟨h1, h2, h3, h4, h5, h9⟩
  · obtain ⟨m, rfl⟩ : ∃ m : Nat, a = m := ⟨a.toNat, by omega⟩
    exact (cells_set m b got c is w (by omega)).mono fun _ _ ⟨h, hb⟩ => ⟨by rw [h]; simp [cellsF], hb⟩
  · obtain ⟨m, rfl⟩ : ∃ m : Nat, b = m := ⟨b.toNat, by omega⟩
    exact (cells_copy a m got c is w ha (by omega) hc).mono fun _ _ ⟨h, hb⟩ => ⟨by rw [h]; simp [cellsF], hb⟩
  · obtain ⟨m, rfl⟩ : ∃ m : Nat, b = m := ⟨b.toNat, by omega⟩
    exact (cells_add a m got c is w ha (by omega) hc).mono fun _ _ ⟨h, hb⟩ => ⟨by rw [h]; simp [cellsF], hb⟩
  · obtain ⟨m, rfl⟩ : ∃ m : Nat, b = m := ⟨b.toNat, by omega⟩
    exact (cells_sub a m got c is w ha (by omega) hc).mono fun _ _ ⟨h, hb⟩ => ⟨by rw [h]; simp [cellsF], hb⟩
  · obtain ⟨m, rfl⟩ : ∃ m : Nat, b = m := ⟨b.toNat, by omega⟩
    exact (cells_mul a m got c is w ha (by omega) hc).mono fun _ _ ⟨h, hb⟩ => ⟨by rw [h]; simp [cellsF], hb⟩
  · obtain ⟨m, rfl⟩ : ∃ m : Nat, a = m := ⟨a.toNat, by omega⟩
    cases is
    · exact (cells_wait m b got c w).mono fun _ _ ⟨h, hb⟩ => ⟨by rw [h]; simp [cellsF], hb⟩
    · exact (cells_take m b got c w (by omega)).mono fun _ _ ⟨h, hb⟩ => ⟨by rw [h]; simp [cellsF], hb⟩
  · exact (cells_none n a b got c is w (by simpa using h1) (by simpa using h2) (by simpa using h3) (by simpa using h4) (by simpa using h5) (by simpa using h9)).mono fun _ _ ⟨h, hb⟩ => ⟨by rw [h]; simp [cellsF, h1, h2, h3, h4, h5, h9], hb⟩
end Go.Proofs.YtajfgmlockjmhaiGreatDoor

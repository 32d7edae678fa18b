/-
  room.next: of an op that fits, and a state that is right.
-/
import Derived.Test.YtajfgmlockjmhaiGreatDoorJt12
namespace Go.Proofs.YtajfgmlockjmhaiGreatDoor
open Go.RowKit

def goOn (p : Int) (n : Nat) : Int := if p + 1 = n then 0 else p + 1
theorem go_next {p : Int} {n : Nat} (h0 : 0 ≤ p) (h1 : p < n) : (p + 1).tmod n = goOn p n := by
  unfold goOn
  rw [Int.tmod_eq_emod_of_nonneg (by omega)]
  by_cases h : p + 1 = n
  · rw [if_pos h, h]; simp
  · rw [if_neg h]; exact Int.emod_eq_of_lt (by omega) (by omega)
theorem nextF_on {o : O3} {s : St} {n : Nat} {is : Bool} (h7 : o.1 ≠ 7) (h6 : ¬ (o.1 = 6 ∧ s.c o.2.1.toNat = 0)) (h11 : o.1 ≠ 11) (h9 : ¬ (o.1 = 9 ∧ is = false)) : nextF o s n is = goOn s.p n := by
  unfold nextF goOn
  rw [if_neg (by rintro (h | h); exact h7 h; exact h6 h), if_neg (by rintro (h | h); exact h11 h; exact h9 h)]

set_option maxRecDepth 100000 in
set_option maxHeartbeats 1000000 in
theorem next_jump (a b : Int) (s : St) (ops : Nat) (is : Bool) (w : World) :
    Calls Tryz.prog 120 #[.agg #[.int .i64 7, .int .i64 a, .int .i64 b], stV s, .int .i64 ops, .bool is] w fun e w' => e = .returned (.int .i64 b) ∧ Below w.heap.size w w' := by
  unfold stV
  go_enter Tryz.func120, Tryz.ntmps120
  go_wp2
  go_ret
  exact ⟨rfl, ((Below.refl _ _).alloc (Nat.le_refl _) _).alloc (by simp) _⟩
set_option maxRecDepth 100000 in
set_option maxHeartbeats 1000000 in
theorem next_fail (a b : Int) (s : St) (ops : Nat) (is : Bool) (w : World) :
    Calls Tryz.prog 120 #[.agg #[.int .i64 11, .int .i64 a, .int .i64 b], stV s, .int .i64 ops, .bool is] w fun e w' => e = .returned (.int .i64 s.p) ∧ Below w.heap.size w w' := by
  unfold stV
  go_enter Tryz.func120, Tryz.ntmps120
  go_wp2
  go_ret
  exact ⟨rfl, ((Below.refl _ _).alloc (Nat.le_refl _) _).alloc (by simp) _⟩
set_option maxRecDepth 100000 in
set_option maxHeartbeats 1000000 in
theorem next_wait (a b : Int) (s : St) (ops : Nat) (w : World) :
    Calls Tryz.prog 120 #[.agg #[.int .i64 9, .int .i64 a, .int .i64 b], stV s, .int .i64 ops, .bool false] w fun e w' => e = .returned (.int .i64 s.p) ∧ Below w.heap.size w w' := by
  unfold stV
  go_enter Tryz.func120, Tryz.ntmps120
  go_wp2
  go_ret
  exact ⟨rfl, ((Below.refl _ _).alloc (Nat.le_refl _) _).alloc (by simp) _⟩
set_option maxRecDepth 100000 in
set_option maxHeartbeats 1000000 in
theorem next_take (a b : Int) (s : St) (ops : Nat) (w : World) (h0 : 0 ≤ s.p) (h1 : s.p < ops) (h2 : ops ≤ 20) :
    Calls Tryz.prog 120 #[.agg #[.int .i64 9, .int .i64 a, .int .i64 b], stV s, .int .i64 ops, .bool true] w fun e w' => e = .returned (.int .i64 (goOn s.p ops)) ∧ Below w.heap.size w w' := by
  have hne : ((ops : Int) == 0) = false := by simp; omega
  have HM := go_next h0 h1
  unfold stV
  go_enter Tryz.func120, Tryz.ntmps120
  go_wp2
  go_ret
  exact ⟨rfl, ((Below.refl _ _).alloc (Nat.le_refl _) _).alloc (by simp) _⟩
set_option maxRecDepth 100000 in
set_option maxHeartbeats 1000000 in
theorem next_else (n a b : Int) (s : St) (ops : Nat) (is : Bool) (w : World) (h7 : (n == 7) = false) (h6 : (n == 6) = false) (h11 : (n == 11) = false) (h9 : (n == 9) = false) (h0 : 0 ≤ s.p) (h1 : s.p < ops) (h2 : ops ≤ 20) :
    Calls Tryz.prog 120 #[.agg #[.int .i64 n, .int .i64 a, .int .i64 b], stV s, .int .i64 ops, .bool is] w fun e w' => e = .returned (.int .i64 (goOn s.p ops)) ∧ Below w.heap.size w w' := by
  have hne : ((ops : Int) == 0) = false := by simp; omega
  have HM := go_next h0 h1
  unfold stV
  go_enter Tryz.func120, Tryz.ntmps120
  go_wp2
  go_ret
  exact ⟨rfl, ((Below.refl _ _).alloc (Nat.le_refl _) _).alloc (by simp) _⟩
set_option maxRecDepth 100000 in
set_option maxHeartbeats 4000000 in
theorem next_zero (a : Nat) (b : Int) (s : St) (ops : Nat) (is : Bool) (w : World) (ha : a ≤ 5) (h0 : 0 ≤ s.p) (h1 : s.p < ops) (h2 : ops ≤ 20) :
    Calls Tryz.prog 120 #[.agg #[.int .i64 6, .int .i64 a, .int .i64 b], stV s, .int .i64 ops, .bool is] w fun e w' => e = .returned (.int .i64 (if s.c a = 0 then b else goOn s.p ops)) ∧ Below w.heap.size w w' := by
  have hne : ((ops : Int) == 0) = false := by simp; omega
  have HM := go_next h0 h1
  have h : a = 0 ∨ a = 1 ∨ a = 2 ∨ a = 3 ∨ a = 4 ∨ a = 5 := by omega
  by_cases hz : s.c a = 0
  · rw [if_pos hz]
    rcases h with rfl | rfl | rfl | rfl | rfl | rfl
    all_goals
      unfold stV
      go_enter Tryz.func120, Tryz.ntmps120
      go_wp2
      go_ret
      exact ⟨rfl, ((Below.refl _ _).alloc (Nat.le_refl _) _).alloc (by simp) _⟩
  · rw [if_neg hz]
    have hz' : (s.c a == 0) = false := by simpa using hz
    clear hz
    rcases h with rfl | rfl | rfl | rfl | rfl | rfl
    all_goals
      unfold stV
      go_enter Tryz.func120, Tryz.ntmps120
      go_wp2
      go_ret
      exact ⟨rfl, ((Below.refl _ _).alloc (Nat.le_refl _) _).alloc (by simp) _⟩

theorem next_any (o : O3) (s : St) (ops : Nat) (is : Bool) (w : World) (ha : 0 ≤ o.2.1 ∧ o.2.1 ≤ 5) (h0 : 0 ≤ s.p) (h1 : s.p < ops) (h2 : ops ≤ 20) :
    Calls Tryz.prog 120 #[.agg #[.int .i64 o.1, .int .i64 o.2.1, .int .i64 o.2.2], stV s, .int .i64 ops, .bool is] w fun e w' => e = .returned (.int .i64 (nextF o s ops is)) ∧ Below w.heap.size w w' := by
  obtain ⟨n, a, b⟩ := o
  simp only at ha ⊢
  by_cases e7 : n = 7
  · subst e7
    exact (next_jump a b s ops is w).mono fun _ _ ⟨h, hb⟩ => ⟨by rw [h]; simp [nextF], hb⟩
  by_cases e6 : n = 6
  · subst e6
    obtain ⟨m, rfl⟩ : ∃ m : Nat, a = m := ⟨a.toNat, by omega⟩
    refine (next_zero m b s ops is w (by omega) h0 h1 h2).mono fun _ _ ⟨h, hb⟩ => ⟨?_, hb⟩
    rw [h]
    by_cases hz : s.c m = 0 <;> simp [nextF, goOn, hz]
  by_cases e11 : n = 11
  · subst e11
    exact (next_fail a b s ops is w).mono fun _ _ ⟨h, hb⟩ => ⟨by rw [h]; simp [nextF], hb⟩
  by_cases e9 : n = 9
  · subst e9
    cases is
    · exact (next_wait a b s ops w).mono fun _ _ ⟨h, hb⟩ => ⟨by rw [h]; simp [nextF], hb⟩
    · exact (next_take a b s ops w h0 h1 h2).mono fun _ _ ⟨h, hb⟩ => ⟨by rw [h]; simp [nextF, goOn], hb⟩
  refine (next_else n a b s ops is w (by simpa using e7) (by simpa using e6) (by simpa using e11) (by simpa using e9) h0 h1 h2).mono fun _ _ ⟨h, hb⟩ => ⟨?_, hb⟩
  rw [h, nextF_on (by simpa using e7) (by simp [e6]) (by simpa using e11) (by simp [e9])]
end Go.Proofs.YtajfgmlockjmhaiGreatDoor

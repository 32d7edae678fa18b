/-
  RoomNext, RefStep0, RoomStep, RoomStep2: joined into one text.
-/
import Derived.Test.YtajfgmlockjmhaiGreatDoorJk8
import Derived.BigRegion
import Derived.Deep.QuietTactic
import Derived.BigQuiet
import Derived.WalkSmall
namespace Go.Proofs.YtajfgmlockjmhaiGreatDoor
open Go.RowKit

def goOn (p : Int) (n : Nat) : Int := if p + 1 = n then 0 else p + 1
theorem go_next {p : Int} {n : Nat} (h0 : 0 ≤ p) (h1 : p < n) : (p + 1).tmod n = goOn p n := by
  unfold goOn
  rw [Int.tmod_eq_emod_of_nonneg (by omega)]
  by_cases h : p + 1 = n
  · rw [if_pos h, h]; simp
  · rw [if_neg h]; exact Int.emod_eq_of_lt (by omega) (by omega)
theorem nextF_on {o : O3} {s : St} {n : Nat} {is : Bool} (h7 : o.1 ≠ 7) (h6 : ¬ (o.1 = 6 ∧ s.c o.2.1.toNat = 0)) (h11 : o.1 ≠ 11) (h9 : ¬ (o.1 = 9 ∧ is = false)) : nextF o s n is = goOn s.p n := by
  unfold nextF goOn
  rw [if_neg (by rintro (h | h); exact h7 h; exact h6 h), if_neg (by rintro (h | h); exact h11 h; exact h9 h)]

set_option maxRecDepth 100000 in
set_option maxHeartbeats 1000000 in
theorem next_jump (a b : Int) (s : St) (ops : Nat) (is : Bool) (w : World) :
    Calls Tryz.prog 120 #[.agg #[.int .i64 7, .int .i64 a, .int .i64 b], stV s, .int .i64 ops, .bool is] w fun e w' => e = .returned (.int .i64 b) ∧ Below w.heap.size w w' := by
  unfold stV
  go_enter Tryz.func120, Tryz.ntmps120
  go_wp2
  go_ret
  exact ⟨rfl, ((Below.refl _ _).alloc (Nat.le_refl _) _).alloc (by simp) _⟩
set_option maxRecDepth 100000 in
set_option maxHeartbeats 1000000 in
theorem next_fail (a b : Int) (s : St) (ops : Nat) (is : Bool) (w : World) :
    Calls Tryz.prog 120 #[.agg #[.int .i64 11, .int .i64 a, .int .i64 b], stV s, .int .i64 ops, .bool is] w fun e w' => e = .returned (.int .i64 s.p) ∧ Below w.heap.size w w' := by
  unfold stV
  go_enter Tryz.func120, Tryz.ntmps120
  go_wp2
  go_ret
  exact ⟨rfl, ((Below.refl _ _).alloc (Nat.le_refl _) _).alloc (by simp) _⟩
set_option maxRecDepth 100000 in
set_option maxHeartbeats 1000000 in
theorem next_wait (a b : Int) (s : St) (ops : Nat) (w : World) :
    Calls Tryz.prog 120 #[.agg #[.int .i64 9, .int .i64 a, .int .i64 b], stV s, .int .i64 ops, .bool false] w fun e w' => e = .returned (.int .i64 s.p) ∧ Below w.heap.size w w' := by
  unfold stV
  go_enter Tryz.func120, Tryz.ntmps120
  go_wp2
  go_ret
  exact ⟨rfl, ((Below.refl _ _).alloc (Nat.le_refl _) _).alloc (by simp) _⟩
set_option maxRecDepth 100000 in
set_option maxHeartbeats 1000000 in
theorem next_take (a b : Int) (s : St) (ops : Nat) (w : World) (h0 : 0 ≤ s.p) (h1 : s.p < ops) (h2 : ops ≤ 20) :
    Calls Tryz.prog 120 #[.agg #[.int .i64 9, .int .i64 a, .int .i64 b], stV s, .int .i64 ops, .bool true] w fun e w' => e = .returned (.int .i64 (goOn s.p ops)) ∧ Below w.heap.size w w' := by
  have hne : ((ops : Int) == 0) = false := by simp; omega
  have HM := go_next h0 h1
  unfold stV
  go_enter Tryz.func120, Tryz.ntmps120
  go_wp2
  go_ret
  exact ⟨rfl, ((Below.refl _ _).alloc (Nat.le_refl _) _).alloc (by simp) _⟩
set_option maxRecDepth 100000 in
set_option maxHeartbeats 1000000 in
theorem next_else (n a b : Int) (s : St) (ops : Nat) (is : Bool) (w : World) (h7 : (n == 7) = false) (h6 : (n == 6) = false) (h11 : (n == 11) = false) (h9 : (n == 9) = false) (h0 : 0 ≤ s.p) (h1 : s.p < ops) (h2 : ops ≤ 20) :
    Calls Tryz.prog 120 #[.agg #[.int .i64 n, .int .i64 a, .int .i64 b], stV s, .int .i64 ops, .bool is] w fun e w' => e = .returned (.int .i64 (goOn s.p ops)) ∧ Below w.heap.size w w' := by
  have hne : ((ops : Int) == 0) = false := by simp; omega
  have HM := go_next h0 h1
  unfold stV
  go_enter Tryz.func120, Tryz.ntmps120
  go_wp2
  go_ret
  exact ⟨rfl, ((Below.refl _ _).alloc (Nat.le_refl _) _).alloc (by simp) _⟩
set_option maxRecDepth 100000 in
set_option maxHeartbeats 4000000 in
theorem next_zero (a : Nat) (b : Int) (s : St) (ops : Nat) (is : Bool) (w : World) (ha : a ≤ 5) (h0 : 0 ≤ s.p) (h1 : s.p < ops) (h2 : ops ≤ 20) :
    Calls Tryz.prog 120 #[.agg #[.int .i64 6, .int .i64 a, .int .i64 b], stV s, .int .i64 ops, .bool is] w fun e w' => e = .returned (.int .i64 (if s.c a = 0 then b else goOn s.p ops)) ∧ Below w.heap.size w w' := by
  have hne : ((ops : Int) == 0) = false := by simp; omega
  have HM := go_next h0 h1
  have h : a = 0 ∨ a = 1 ∨ a = 2 ∨ a = 3 ∨ a = 4 ∨ a = 5 := by omega
  by_cases hz : s.c a = 0
  · rw [if_pos hz]
    rcases h with rfl | rfl | rfl | rfl | rfl | rfl
    all_goals
      unfold stV
      go_enter Tryz.func120, Tryz.ntmps120
      go_wp2
      go_ret
      exact ⟨rfl, ((Below.refl _ _).alloc (Nat.le_refl _) _).alloc (by simp) _⟩
  · rw [if_neg hz]
    have hz' : (s.c a == 0) = false := by simpa using hz
    clear hz
    rcases h with rfl | rfl | rfl | rfl | rfl | rfl
    all_goals
      unfold stV
      go_enter Tryz.func120, Tryz.ntmps120
      go_wp2
      go_ret
      exact ⟨rfl, ((Below.refl _ _).alloc (Nat.le_refl _) _).alloc (by simp) _⟩

theorem next_any (o : O3) (s : St) (ops : Nat) (is : Bool) (w : World) (ha : 0 ≤ o.2.1 ∧ o.2.1 ≤ 5) (h0 : 0 ≤ s.p) (h1 : s.p < ops) (h2 : ops ≤ 20) :
    Calls Tryz.prog 120 #[.agg #[.int .i64 o.1, .int .i64 o.2.1, .int .i64 o.2.2], stV s, .int .i64 ops, .bool is] w fun e w' => e = .returned (.int .i64 (nextF o s ops is)) ∧ Below w.heap.size w w' := by
  obtain ⟨n, a, b⟩ := o
  simp only at ha ⊢
  by_cases e7 : n = 7
  · subst e7
    exact (next_jump a b s ops is w).mono fun _ _ ⟨h, hb⟩ => ⟨by rw [h]; simp [nextF], hb⟩
  by_cases e6 : n = 6
  · subst e6
    obtain ⟨m, rfl⟩ : ∃ m : Nat, a = m := ⟨a.toNat, by omega⟩
    refine (next_zero m b s ops is w (by omega) h0 h1 h2).mono fun _ _ ⟨h, hb⟩ => ⟨?_, hb⟩
    rw [h]
    by_cases hz : s.c m = 0 <;> simp [nextF, goOn, hz]
  by_cases e11 : n = 11
  · subst e11
    exact (next_fail a b s ops is w).mono fun _ _ ⟨h, hb⟩ => ⟨by rw [h]; simp [nextF], hb⟩
  by_cases e9 : n = 9
  · subst e9
    cases is
    · exact (next_wait a b s ops w).mono fun _ _ ⟨h, hb⟩ => ⟨by rw [h]; simp [nextF], hb⟩
    · exact (next_take a b s ops w h0 h1 h2).mono fun _ _ ⟨h, hb⟩ => ⟨by rw [h]; simp [nextF, goOn], hb⟩
  refine (next_else n a b s ops is w (by simpa using e7) (by simpa using e6) (by simpa using e11) (by simpa using e9) h0 h1 h2).mono fun _ _ ⟨h, hb⟩ => ⟨?_, hb⟩
  rw [h, nextF_on (by simpa using e7) (by simp [e6]) (by simpa using e11) (by simp [e9])]
end Go.Proofs.YtajfgmlockjmhaiGreatDoor
namespace Go.Proofs.YtajfgmlockjmhaiGreatDoor
open Go.RowKit

theorem st_at (p : Int) (c : Nat → Int) (f : Bool) (w : World) (t : TypeId) (b : Nat) (hb : b ≤ 5) : (w.alloc (.cells #[.int .i64 p, .int .i64 (c 0), .int .i64 (c 1), .int .i64 (c 2), .int .i64 (c 3), .int .i64 (c 4), .int .i64 (c 5), .bool f] t)).cell? ⟨w.heap.size, 1 + b, none⟩ = some (.int .i64 (c b)) := by
  have h : b = 0 ∨ b = 1 ∨ b = 2 ∨ b = 3 ∨ b = 4 ∨ b = 5 := by omega
  rcases h with rfl | rfl | rfl | rfl | rfl | rfl <;> simp
end Go.Proofs.YtajfgmlockjmhaiGreatDoor
namespace Go.Proofs.YtajfgmlockjmhaiGreatDoor
open Go.RowKit

/-- No state. -/
def st0 : St := ⟨0, fun _ => 0, false⟩
/-- The two boxes that room.Step lays at its head: the state that came in, the state that is told. -/
def W2 (w : World) (s : St) : World := (w.alloc (.cells #[.int .i64 s.p, .int .i64 (s.c 0), .int .i64 (s.c 1), .int .i64 (s.c 2), .int .i64 (s.c 3), .int .i64 (s.c 4), .int .i64 (s.c 5), .bool s.f] 73)).alloc (.cells #[.int .i64 0, .int .i64 0, .int .i64 0, .int .i64 0, .int .i64 0, .int .i64 0, .int .i64 0, .bool false] 73)
theorem w2_size (w : World) (s : St) : (W2 w s).heap.size = w.heap.size + 1 + 1 := by simp [W2]
theorem w2_below (w : World) (s : St) : Below w.heap.size w (W2 w s) := ((Below.refl _ _).alloc (Nat.le_refl _) _).alloc (by simp) _
/-- The boxes in a later world. -/
theorem w2_box {w w1 : World} {s : St} (b1 : Below (w.heap.size + 1 + 1) (W2 w s) w1) :
    (w1.cell? ⟨w.heap.size, 0, none⟩ = some (.int .i64 s.p) ∧ w1.cell? ⟨w.heap.size, 1, none⟩ = some (.int .i64 (s.c 0)) ∧ w1.cell? ⟨w.heap.size, 2, none⟩ = some (.int .i64 (s.c 1)) ∧ w1.cell? ⟨w.heap.size, 3, none⟩ = some (.int .i64 (s.c 2)) ∧ w1.cell? ⟨w.heap.size, 4, none⟩ = some (.int .i64 (s.c 3)) ∧ w1.cell? ⟨w.heap.size, 5, none⟩ = some (.int .i64 (s.c 4)) ∧ w1.cell? ⟨w.heap.size, 6, none⟩ = some (.int .i64 (s.c 5)) ∧ w1.cell? ⟨w.heap.size, 7, none⟩ = some (.bool s.f)) ∧
    (w1.cell? ⟨w.heap.size + 1, 0, none⟩ = some (.int .i64 0) ∧ w1.cell? ⟨w.heap.size + 1, 1, none⟩ = some (.int .i64 0) ∧ w1.cell? ⟨w.heap.size + 1, 2, none⟩ = some (.int .i64 0) ∧ w1.cell? ⟨w.heap.size + 1, 3, none⟩ = some (.int .i64 0) ∧ w1.cell? ⟨w.heap.size + 1, 4, none⟩ = some (.int .i64 0) ∧ w1.cell? ⟨w.heap.size + 1, 5, none⟩ = some (.int .i64 0) ∧ w1.cell? ⟨w.heap.size + 1, 6, none⟩ = some (.int .i64 0) ∧ w1.cell? ⟨w.heap.size + 1, 7, none⟩ = some (.bool false)) ∧
    (w1.frozen? ⟨w.heap.size + 1, 0, none⟩ = false ∧ w1.frozen? ⟨w.heap.size + 1, 1, none⟩ = false ∧ w1.frozen? ⟨w.heap.size + 1, 2, none⟩ = false ∧ w1.frozen? ⟨w.heap.size + 1, 3, none⟩ = false ∧ w1.frozen? ⟨w.heap.size + 1, 4, none⟩ = false ∧ w1.frozen? ⟨w.heap.size + 1, 5, none⟩ = false ∧ w1.frozen? ⟨w.heap.size + 1, 6, none⟩ = false ∧ w1.frozen? ⟨w.heap.size + 1, 7, none⟩ = false) ∧
    w.heap.size + 1 < w1.heap.size ∧ Below w.heap.size w w1 := by
  have hc : ∀ b o, b < w.heap.size + 1 + 1 → w1.cell? ⟨b, o, none⟩ = (W2 w s).cell? ⟨b, o, none⟩ := fun b o h => b1.cell (p := ⟨b, o, none⟩) h
  have hf : ∀ b o, b < w.heap.size + 1 + 1 → w1.frozen? ⟨b, o, none⟩ = (W2 w s).frozen? ⟨b, o, none⟩ := fun b o h => b1.frozen (p := ⟨b, o, none⟩) h
  refine ⟨?_, ?_, ?_, ?_, ?_⟩
  · simp only [hc w.heap.size _ (by omega)]
    simp [W2]
  · simp only [hc (w.heap.size + 1) _ (by omega)]
    simp [W2]
  · simp only [hf (w.heap.size + 1) _ (by omega)]
    simp [W2]
  · have := b1.size
    rw [w2_size] at this
    omega
  · exact (w2_below w s).trans (b1.mono (by omega))

/-- A whole state written into a box. -/
theorem put8_below {B b : Nat} {w W : World} (bw : Below B w W) (h : B ≤ b) (v0 v1 v2 v3 v4 v5 v6 v7 : Value) :
    Below B w ((((((((W.setCell ⟨b, 0, none⟩ v0).setCell ⟨b, 1, none⟩ v1).setCell ⟨b, 2, none⟩ v2).setCell ⟨b, 3, none⟩ v3).setCell ⟨b, 4, none⟩ v4).setCell ⟨b, 5, none⟩ v5).setCell ⟨b, 6, none⟩ v6).setCell ⟨b, 7, none⟩ v7) :=
  (((((((bw.setCell (p := ⟨b, 0, none⟩) h _).setCell (p := ⟨b, 1, none⟩) h _).setCell (p := ⟨b, 2, none⟩) h _).setCell (p := ⟨b, 3, none⟩) h _).setCell (p := ⟨b, 4, none⟩) h _).setCell (p := ⟨b, 5, none⟩) h _).setCell (p := ⟨b, 6, none⟩) h _).setCell (p := ⟨b, 7, none⟩) h _

set_option maxRecDepth 100000 in
set_option maxHeartbeats 4000000 in
theorem rstep_err (ao : Option Addr) (n cap : Nat) (e got : Int) (is : Bool) (s : St) (w : World) (he : e ≠ 0)
    (hk : Calls Tryz.prog 115 #[.slice ao n cap, stV s] (W2 w s) fun ev w' => ev = .returned (errV e) ∧ Below (w.heap.size + 1 + 1) (W2 w s) w') :
    Calls Tryz.prog 82 #[.slice ao n cap, stV s, .int .i64 got, .bool is] w fun ev w' => ev = .returned (.tuple #[stV st0, .int .i64 0, errV e]) ∧ Below w.heap.size w w' := by
  rw [show errV e = .iface 93 (.int .i64 e) from by simp [errV, he]] at hk ⊢
  have hk' := hk
  clear hk
  unfold stV at hk' ⊢
  unfold W2 at hk'
  go_enter Tryz.func82, Tryz.ntmps82
  go_wp2_with (go_at_call 115; refine hk'.mono ?_; rintro ev w1 ⟨rfl, b1⟩; clear hk'; obtain ⟨⟨c0, c1, c2, c3, c4, c5, c6, c7⟩, ⟨d0, d1, d2, d3, d4, d5, d6, d7⟩, ⟨f0, f1, f2, f3, f4, f5, f6, f7⟩, hsz, bw⟩ := w2_box (s := s) b1; clear b1)
  refine bodyPost_ret (v := .tuple #[stV st0, .int .i64 0, .iface 93 (.int .i64 e)]) ?_ rfl ⟨rfl, ?_⟩
  · simp [results, Tryz.results82, go_sem, d0, d1, d2, d3, d4, d5, d6, d7, stV, st0]
  · exact put8_below bw (Nat.le_succ _) _ _ _ _ _ _ _ _

end Go.Proofs.YtajfgmlockjmhaiGreatDoor
namespace Go.Proofs.YtajfgmlockjmhaiGreatDoor
open Go.RowKit

set_option maxRecDepth 100000 in
set_option maxHeartbeats 4000000 in
theorem rstep_got (ao : Option Addr) (n cap : Nat) (got : Int) (s : St) (w : World) (hg : got < 0 ∨ 999 < got)
    (hk : Calls Tryz.prog 115 #[.slice ao n cap, stV s] (W2 w s) fun ev w' => ev = .returned (.nilIface) ∧ Below (w.heap.size + 1 + 1) (W2 w s) w') :
    Calls Tryz.prog 82 #[.slice ao n cap, stV s, .int .i64 got, .bool true] w fun ev w' => ev = .returned (.tuple #[stV st0, .int .i64 0, errV 1]) ∧ Below w.heap.size w w' := by
  have hk' := hk
  clear hk
  have HO : outB got = true := by simpa [outB] using hg
  clear hg
  have ho := fun W => outside_any got W
  rw [HO] at ho
  clear HO
  unfold stV at hk' ⊢
  unfold W2 at hk'
  go_enter Tryz.func82, Tryz.ntmps82
  go_wp2_with (first | (go_at_call 115; refine hk'.mono ?_; rintro ev w1 ⟨rfl, b1⟩; clear hk') | (go_at_call 119; refine (ho _).mono ?_; rintro ev w2 ⟨rfl, b2⟩; clear ho; obtain ⟨⟨c0, c1, c2, c3, c4, c5, c6, c7⟩, ⟨d0, d1, d2, d3, d4, d5, d6, d7⟩, ⟨f0, f1, f2, f3, f4, f5, f6, f7⟩, hsz, bw⟩ := w2_box (s := s) (b1.trans (b2.mono (by have := b1.size; simp at this; omega))); clear b1 b2))
  refine bodyPost_ret (v := .tuple #[stV st0, .int .i64 0, errV 1]) ?_ rfl ⟨rfl, ?_⟩
  · simp [results, Tryz.results82, go_sem, d0, d1, d2, d3, d4, d5, d6, d7, stV, st0, errV]
  · exact put8_below bw (Nat.le_succ _) _ _ _ _ _ _ _ _

set_option maxRecDepth 100000 in
set_option maxHeartbeats 4000000 in
theorem rstep_failed (ao : Option Addr) (n cap : Nat) (got : Int) (is : Bool) (s : St) (w : World) (hg : is = true → outB got = false) (hs : s.f = true)
    (hk : Calls Tryz.prog 115 #[.slice ao n cap, stV s] (W2 w s) fun ev w' => ev = .returned (.nilIface) ∧ Below (w.heap.size + 1 + 1) (W2 w s) w') :
    Calls Tryz.prog 82 #[.slice ao n cap, stV s, .int .i64 got, .bool is] w fun ev w' => ev = .returned (.tuple #[stV s, .int .i64 (-1), .nilIface]) ∧ Below w.heap.size w w' := by
  have hk' := hk
  clear hk
  have ho := fun W => outside_any got W
  have HS : Hid (s.f = true) := hs
  clear hs
  unfold stV at hk' ⊢
  unfold W2 at hk'
  cases is with
  | false =>
    clear hg ho
    go_enter Tryz.func82, Tryz.ntmps82
    go_wp2_with (first | (go_at_call 115; refine hk'.mono ?_; rintro ev w1 ⟨rfl, b1⟩; clear hk'; obtain ⟨⟨c0, c1, c2, c3, c4, c5, c6, c7⟩, ⟨d0, d1, d2, d3, d4, d5, d6, d7⟩, ⟨f0, f1, f2, f3, f4, f5, f6, f7⟩, hsz, bw⟩ := w2_box (s := s) b1; clear b1; rw [HS.out] at c7))
    refine bodyPost_ret (v := .tuple #[stV s, .int .i64 (-1), .nilIface]) ?_ rfl ⟨rfl, ?_⟩
    · simp [results, Tryz.results82, go_sem, d0, d1, d2, d3, d4, d5, d6, d7, stV, HS.out]
    · exact put8_below bw (Nat.le_succ _) _ _ _ _ _ _ _ _
  | true =>
    rw [hg rfl] at ho
    clear hg
    go_enter Tryz.func82, Tryz.ntmps82
    go_wp2_with (first | (go_at_call 115; refine hk'.mono ?_; rintro ev w1 ⟨rfl, b1⟩; clear hk') | (go_at_call 119; refine (ho _).mono ?_; rintro ev w2 ⟨rfl, b2⟩; clear ho; obtain ⟨⟨c0, c1, c2, c3, c4, c5, c6, c7⟩, ⟨d0, d1, d2, d3, d4, d5, d6, d7⟩, ⟨f0, f1, f2, f3, f4, f5, f6, f7⟩, hsz, bw⟩ := w2_box (s := s) (b1.trans (b2.mono (by have := b1.size; simp at this; omega))); clear b1 b2; rw [HS.out] at c7))
    refine bodyPost_ret (v := .tuple #[stV s, .int .i64 (-1), .nilIface]) ?_ rfl ⟨rfl, ?_⟩
    · simp [results, Tryz.results82, go_sem, d0, d1, d2, d3, d4, d5, d6, d7, stV, HS.out]
    · exact put8_below bw (Nat.le_succ _) _ _ _ _ _ _ _ _
end Go.Proofs.YtajfgmlockjmhaiGreatDoor

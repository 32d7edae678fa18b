/-
  The law FrameOne: the walk.
-/
import Derived.Test.YtmlkfmiaaaienabCountPlan
import Derived.Test.YtmlkfmiaaaienabFGap2
namespace Go.Proofs.Ytmlkfmiaaaienab
open Go.RowKit

theorem ones_ok : ∀ n : Nat, n < 6 → 1 ≤ n → (fchk n (ones n)).2 = 0 := by decide +kernel
theorem ones_hold : ∀ n : Nat, n < 6 → ∀ q : Nat, q < n → hold (ones n) (q : Int) = (q : Int) := by decide +kernel
theorem ones_gap : ∀ n : Nat, n < 6 → ∀ r : Nat, r < n → gap (had (ones n) n (r : Int)) n = (n : Int) := by decide +kernel
theorem one_who (n t : Nat) (v : Value) (w : World) (h1 : 1 ≤ n) (h2 : n ≤ 5) (hl : Sps w v (ones n)) :
    Calls Try.prog 5 #[.int .i64 n, v, .int .i64 t] w fun ev w' => ev = .returned (.tuple #[.int .i64 ((t : Int) % (n : Int)), .nilIface]) ∧ Below w.heap.size w w' := by
  have h := who_any n (ones n) v t w hl
  have hw : whoR n (ones n) t = ((t : Int) % (n : Int), 0) := by
    unfold whoR
    rw [if_pos (ones_ok n (by omega) h1), if_neg (by omega)]
    have := ones_hold n (by omega) (t % n) (Nat.mod_lt _ h1)
    rw [Int.natCast_emod] at this
    rw [this]
  rw [hw] at h
  exact h
theorem one_gap (n r : Nat) (v : Value) (w : World) (h1 : 1 ≤ n) (h2 : n ≤ 5) (hr : r < n) (hl : Sps w v (ones n)) :
    Calls Try.prog 6 #[.int .i64 n, v, .int .i64 r] w fun ev w' => ev = .returned (.tuple #[.int .i64 n, .nilIface]) ∧ Below w.heap.size w w' := by
  have h := gap_any n (ones n) v r w hl
  have hw : gapR n (ones n) r = ((n : Int), 0) := by
    unfold gapR
    rw [if_pos (ones_ok n (by omega) h1), if_neg (by omega), Int.toNat_natCast, ones_gap n (by omega) r hr, if_neg (by omega)]
  rw [hw] at h
  exact h

set_option maxRecDepth 100000 in
set_option maxHeartbeats 4000000 in
theorem one_out (n t : Int) (w : World) (h : n < 1 ∨ 5 < n ∨ t < 0 ∨ 10000 < t) :
    Calls Try.prog 3 #[.int .i64 n, .int .i64 t] w fun ev w' => ev = .returned (.bool true) ∧ Below w.heap.size w w' := by
  by_cases h1 : n < 1
  · go_enter Try.func3, Try.ntmps3
    go_wp2
    go_ret
    exact ⟨rfl, Below.refl _ _⟩
  have h1' : decide (n < 1) = false := by simpa using h1
  by_cases h2 : 5 < n
  · go_enter Try.func3, Try.ntmps3
    go_wp2
    go_ret
    exact ⟨rfl, Below.refl _ _⟩
  have h2' : decide (5 < n) = false := by simpa using h2
  by_cases h3 : t < 0
  · go_enter Try.func3, Try.ntmps3
    go_wp2
    go_ret
    exact ⟨rfl, Below.refl _ _⟩
  have h3' : decide (t < 0) = false := by simpa using h3
  have h4 : 10000 < t := by omega
  go_enter Try.func3, Try.ntmps3
  go_wp2
  go_ret
  exact ⟨rfl, Below.refl _ _⟩

set_option maxRecDepth 100000 in
set_option maxHeartbeats 4000000 in
theorem one_in (n t : Nat) (w : World) (hn0 : 1 ≤ n) (hn1 : n ≤ 5) (ht : t ≤ 10000) :
    Calls Try.prog 3 #[.int .i64 n, .int .i64 t] w fun ev w' => ev = .returned (.bool true) ∧ Below w.heap.size w w' := by
  have h1 : decide ((n : Int) < 1) = false := by simp; omega
  have h2 : decide (5 < (n : Int)) = false := by simp; omega
  have h3 : decide ((t : Int) < 0) = false := by simp
  have h4 : decide (10000 < (t : Int)) = false := by simp; omega
  have hnz : ¬ ((n : Int) = 0) := by omega
  have hc := counting_any n w hn1
  have HW : Hid (∀ v W, Sps W v (ones n) → Calls Try.prog 5 #[.int .i64 n, v, .int .i64 t] W fun ev w' => ev = .returned (.tuple #[.int .i64 ((t : Int) % (n : Int)), .nilIface]) ∧ Below W.heap.size W w') := fun v W hl => one_who n t v W hn0 hn1 hl
  have HG : Hid (∀ (r : Nat) v W, r < n → Sps W v (ones n) → Calls Try.prog 6 #[.int .i64 n, v, .int .i64 r] W fun ev w' => ev = .returned (.tuple #[.int .i64 n, .nilIface]) ∧ Below W.heap.size W w') := fun r v W hr hl => one_gap n r v W hn0 hn1 hr hl
  go_enter Try.func3, Try.ntmps3
  go_wp2_with (first | (go_at_call 4; refine hc.mono ?_; rintro ev w1 ⟨aq, lq, cq, vs, rfl, hsp, b1⟩; clear hc; obtain ⟨ac, capc, rfl⟩ := hsp.form; have HS : Hid (Sps w1 (.slice ac (ones n).length capc) (ones n)) := hsp; clear hsp; have hbA : Below w1.heap.size w1 (w1.alloc (.cells #[.slice aq lq cq, .int .i64 n, .slice ac (ones n).length capc, .slice none 0 0] 26)) := (Below.refl _ _).alloc (Nat.le_refl _) _; have hw := HW.out _ _ (HS.out.all hbA); clear HW) | (go_at_call 5; refine hw.mono ?_; rintro ev w2 ⟨rfl, b2⟩; clear hw))
  have B2 : Below (w1.heap.size + 1) (w1.alloc (.cells #[.slice aq lq cq, .int .i64 n, .slice ac (ones n).length capc, .slice none 0 0] 26)) w2 := by simpa using b2
  have HB : Hid (∀ W, Below (w1.heap.size + 1) (w1.alloc (.cells #[.slice aq lq cq, .int .i64 n, .slice ac (ones n).length capc, .slice none 0 0] 26)) W → Below w.heap.size w W ∧ Sps W (.slice ac (ones n).length capc) (ones n) ∧ W.cell? ⟨w1.heap.size, 2, none⟩ = some (.slice ac (ones n).length capc)) := fun W hW => by
    have h1W : Below w1.heap.size w1 W := hbA.trans (hW.mono (by omega))
    exact ⟨b1.trans (h1W.mono b1.size), HS.out.all h1W, (hW.cell (p := ⟨w1.heap.size, 2, none⟩) (by simp)).trans (by simp)⟩
  clear hbA b2
  go_loopw [8] (fun i wr => ∃ r : Nat, r ≤ n ∧ i = .int .i64 r ∧ Below (w1.heap.size + 1) (w1.alloc (.cells #[.slice aq lq cq, .int .i64 n, .slice ac (ones n).length capc, .slice none 0 0] 26)) wr) (fun i _ => n - (intOf i).toNat)
  case atStart => exact ⟨0, Nat.zero_le _, rfl, B2⟩
  case round =>
    obtain ⟨r, hr, rfl, hb⟩ := hrel
    obtain ⟨bw, hsp, c2⟩ := HB.out wr hb
    by_cases hrn : r < n
    · have hri : (r : Int) < (n : Int) := by omega
      have hg := HG.out r _ wr hrn hsp
      clear hsp
      go_wp2_with (go_at_call 6; refine hg.mono ?_; rintro ev w3 ⟨rfl, b3⟩; clear hg)
      go_roundw
      case rel => exact ⟨r + 1, by omega, by go_num, hb.trans (b3.mono (by have := hb.size; simp at this; omega))⟩
      case measure => simp [intOf]; omega
    · obtain rfl : r = n := by omega
      clear hsp
      go_wp2
      go_ret
      exact ⟨rfl, bw⟩
theorem one_any (n t : Int) (w : World) :
    Calls Try.prog 3 #[.int .i64 n, .int .i64 t] w fun ev w' => ev = .returned (.bool true) ∧ Below w.heap.size w w' := by
  by_cases h : n < 1 ∨ 5 < n ∨ t < 0 ∨ 10000 < t
  · exact one_out n t w h
  · obtain ⟨m, rfl⟩ : ∃ m : Nat, n = m := ⟨n.toNat, by omega⟩
    obtain ⟨s, rfl⟩ : ∃ s : Nat, t = s := ⟨t.toNat, by omega⟩
    exact one_in m s w (by omega) (by omega) (by omega)
end Go.Proofs.Ytmlkfmiaaaienab

/-
  The law SupplyAll, of what package supply promises.
-/
import Derived.Test.YtheenonakbokpahDoorSupCL
import Derived.Test.YtheenonakbokpahDoorSupCW
import Derived.Test.YtheenonakbokpahDoorSupX
import Derived.Deep.CutRange
namespace Go.Proofs.YtheenonakbokpahDoor
open Go.RowKit

theorem all_chk {n : Int} (h1 : 1 ≤ n) (h2 : n ≤ 40) : (fchk n [(0, n, 0)]).2 = 0 := by
  rw [fchk_mid (by omega) (by simp)]
  have hk : spOk n (0, n, 0) = true := by simp [spOk]; omega
  simp [scan, badAt, badOf, hk]
theorem all_hold {n : Int} (h1 : 1 ≤ n) (t : Nat) : hold [(0, n, 0)] ((t : Int) % n) = 0 := by
  have a := Int.emod_nonneg (t : Int) (show n ≠ 0 by omega)
  have b := Int.emod_lt_of_pos (t : Int) (show 0 < n by omega)
  unfold hold
  rw [if_pos (by simp [hits]; omega)]
theorem all_has {n : Int} (h1 : 1 ≤ n) (t : Nat) : hasT n [(0, n, 0)] 0 t = true := by unfold hasT; rw [all_hold h1]; rfl
theorem all_not {n : Int} (h1 : 1 ≤ n) (t : Nat) : hasT n [(0, n, 0)] 1 t = false := by unfold hasT; rw [all_hold h1]; rfl
theorem all_supE {n : Int} (h1 : 1 ≤ n) (h2 : n ≤ 40) : supE n [(0, n, 0)] 0 = 0 ∧ supE n [(0, n, 0)] 1 = 0 := by
  unfold supE
  rw [if_pos (all_chk h1 h2), if_pos (all_chk h1 h2)]
  exact ⟨rfl, rfl⟩
theorem all_out {n m : Int} (h : ¬ (1 ≤ n ∧ n ≤ 40 ∧ 0 ≤ m ∧ m ≤ 2000)) : leastE n [(0, n, 0)] 0 m ≠ 0 := fun e => by
  obtain ⟨h1, h2, h3⟩ := leastE_zero e
  have := fchk_zero (supE_zero h1).1
  omega
theorem all_least {n m : Int} (h1 : 1 ≤ n) (h2 : n ≤ 40) (h3 : 0 ≤ m) (h4 : m ≤ 2000) : leastE n [(0, n, 0)] 0 m = 0 ∧ leastV n [(0, n, 0)] 0 m = m := by
  have e : leastE n [(0, n, 0)] 0 m = 0 := by unfold leastE; rw [if_pos (all_supE h1 h2).1, if_neg (by omega)]
  refine ⟨e, ?_⟩
  unfold leastV
  rw [if_pos e, least_all (by omega) (all_has h1)]
  omega
theorem all_wait {n m : Int} (h1 : 1 ≤ n) (h2 : n ≤ 40) (h3 : 0 ≤ m) (h4 : m ≤ 100) : waitE n [(0, n, 0)] 0 m = 0 ∧ ∀ k : Nat, WaitIs (hasT n [(0, n, 0)] 0) n.toNat m.toNat k → (k : Int) = m := by
  constructor
  · unfold waitE
    rw [if_pos (all_supE h1 h2).1, if_neg (by omega), if_neg]
    rintro ⟨_, h⟩
    rw [cn_all 0 n.toNat (all_has h1)] at h
    omega
  · intro k hk
    have hm : WaitIs (hasT n [(0, n, 0)] 0) n.toNat m.toNat m.toNat := by
      refine ⟨?_, fun s hs => ?_⟩
      · rw [least_all (by omega) (all_has h1)]; exact Nat.le_refl _
      · rw [least_all (by omega) (all_has h1)]; exact hs
    have := wait_one hk hm
    omega
theorem all_none {n : Int} (h1 : 1 ≤ n) (h2 : n ≤ 40) : waitE n [(0, n, 0)] 1 1 = 5 := by
  unfold waitE
  rw [if_pos (all_supE h1 h2).2, if_neg (by omega), if_pos]
  exact ⟨by decide, cn_none 0 _ (all_not h1)⟩
set_option maxRecDepth 100000 in
set_option maxHeartbeats 4000000 in
theorem spall_of {G : World → Prop} (hall : ∀ w w', G w → Below w.heap.size w w' → G w') (hL : SupLeast G) (hW : SupWait G) (hE : ∀ (e : Int) (W : World), G W → Calls Tryd.prog 7 #[wErr e, .int .i64 e] W fun r w' => r = .returned (.bool true) ∧ Below W.heap.size W w')
    (n m : Int) (w : World) (hG : G w) : Calls Tryd.prog 3 #[.int .i64 n, .int .i64 m] w fun e w' => e = .returned (.bool true) ∧ Below w.heap.size w w' := by
  have hA : Below w.heap.size w (w.alloc (.cells #[.int .i64 0, .int .i64 n, .int .i64 0] 23)) := (Below.refl _ _).alloc (Nat.le_refl _) _
  have hS := sps_one w _ rfl 0 n 0
  have q1 := hL n _ _ 0 m _ (hall _ _ hG hA) hS
  have HW : Hid (∀ r t W, Below (w.alloc (.cells #[.int .i64 0, .int .i64 n, .int .i64 0] 23)).heap.size (w.alloc (.cells #[.int .i64 0, .int .i64 n, .int .i64 0] 23)) W → Calls Tryd.prog 6 #[.int .i64 n, .slice (some ⟨w.heap.size, 0, none⟩) 1 1, .int .i64 r, .int .i64 t] W fun e w' => ∃ m : Nat, e = .returned (.tuple #[.int .i64 (m : Int), wErr (waitE n [(0, n, 0)] r t)]) ∧ (waitE n [(0, n, 0)] r t = 0 → WaitIs (hasT n [(0, n, 0)] r) n.toNat t.toNat m) ∧ (waitE n [(0, n, 0)] r t ≠ 0 → m = 0) ∧ Below W.heap.size W w') := fun r t W hb => hW n _ _ r t W (hall _ _ (hall _ _ hG hA) hb) (hS.all hb)
  have HE : Hid (∀ W, Below w.heap.size w W → Calls Tryd.prog 7 #[.iface 56 (.int .i64 5), .int .i64 5] W fun r w' => r = .returned (.bool true) ∧ Below W.heap.size W w') := fun W hb => hE 5 W (hall _ _ hG hb)
  clear hL hW hE hS
  by_cases hin : 1 ≤ n ∧ n ≤ 40 ∧ 0 ≤ m ∧ m ≤ 2000
  · obtain ⟨h1, h2, h3, h4⟩ := hin
    rw [(all_least h1 h2 h3 h4).1, (all_least h1 h2 h3 h4).2, show wErr 0 = .nilIface from rfl] at q1
    by_cases hm : m ≤ 100
    · have d1 : decide (100 < m) = false := decide_eq_false (by omega)
      have q2 : Hid (∀ W, Below (w.alloc (.cells #[.int .i64 0, .int .i64 n, .int .i64 0] 23)).heap.size (w.alloc (.cells #[.int .i64 0, .int .i64 n, .int .i64 0] 23)) W → Calls Tryd.prog 6 #[.int .i64 n, .slice (some ⟨w.heap.size, 0, none⟩) 1 1, .int .i64 0, .int .i64 m] W fun e w' => e = .returned (.tuple #[.int .i64 m, .nilIface]) ∧ Below W.heap.size W w') := fun W hb => by
        refine (HW.out 0 m W hb).mono ?_
        rintro e w' ⟨k, rfl, k1, k2, k3⟩
        obtain ⟨a1, a2⟩ := all_wait h1 h2 h3 hm
        rw [a1, a2 k (k1 a1)]
        exact ⟨rfl, k3⟩
      have q3 : Hid (∀ W, Below (w.alloc (.cells #[.int .i64 0, .int .i64 n, .int .i64 0] 23)).heap.size (w.alloc (.cells #[.int .i64 0, .int .i64 n, .int .i64 0] 23)) W → Calls Tryd.prog 6 #[.int .i64 n, .slice (some ⟨w.heap.size, 0, none⟩) 1 1, .int .i64 1, .int .i64 1] W fun e w' => e = .returned (.tuple #[.int .i64 0, .iface 56 (.int .i64 5)]) ∧ Below W.heap.size W w') := fun W hb => by
        refine (HW.out 1 1 W hb).mono ?_
        rintro e w' ⟨k, rfl, k1, k2, k3⟩
        rw [all_none h1 h2] at k2 ⊢
        rw [k2 (by decide)]
        exact ⟨rfl, k3⟩
      clear HW
      go_enter Tryd.func3, Tryd.ntmps3
      go_wp2_with (first
        | (go_at_call 5; refine q1.mono ?_; rintro e w1 ⟨rfl, b1⟩; clear q1; have q4 := q2.out w1 b1; clear q2)
        | (go_at_call 6; refine q4.mono ?_; rintro e w2 ⟨rfl, b2⟩; clear q4; have B2 := b1.trans (b2.mono b1.size); have q5 := q3.out w2 B2; clear q3)
        | (go_at_call 6; refine q5.mono ?_; rintro e w3 ⟨rfl, b3⟩; clear q5; have B3 := hA.trans ((B2.trans (b3.mono B2.size)).mono hA.size); have q6 := HE.out w3 B3; clear HE)
        | (go_at_call 7; refine q6.mono ?_; rintro e w4 ⟨rfl, b4⟩; clear q6; have B4 := B3.trans (b4.mono B3.size)))
      go_ret
      exact ⟨by simp, B4⟩
    · have d1 : decide (100 < m) = true := decide_eq_true (by omega)
      clear HW HE
      go_enter Tryd.func3, Tryd.ntmps3
      go_wp2_with (go_at_call 5; refine q1.mono ?_; rintro e w1 ⟨rfl, b1⟩; clear q1)
      go_ret
      exact ⟨by simp, hA.trans (b1.mono hA.size)⟩
  · have hne := all_out hin
    rw [wErr_not hne] at q1
    generalize leastE n [(0, n, 0)] 0 m = ec at q1
    generalize leastV n [(0, n, 0)] 0 m = ev at q1
    have hcase : decide (n < 1) = true ∨ (decide (n < 1) = false ∧ (decide (40 < n) = true ∨ (decide (40 < n) = false ∧ (decide (m < 0) = true ∨ (decide (m < 0) = false ∧ decide (2000 < m) = true))))) := by
      simp only [decide_eq_true_eq, decide_eq_false_iff_not]
      omega
    clear HW HE hne hin
    rcases hcase with d1 | ⟨d1, d2 | ⟨d2, d3 | ⟨d3, d4⟩⟩⟩ <;>
    · go_enter Tryd.func3, Tryd.ntmps3
      go_wp2_with (go_at_call 5; refine q1.mono ?_; rintro e w1 ⟨rfl, b1⟩; clear q1)
      go_ret
      exact ⟨rfl, hA.trans (b1.mono hA.size)⟩
end Go.Proofs.YtheenonakbokpahDoor

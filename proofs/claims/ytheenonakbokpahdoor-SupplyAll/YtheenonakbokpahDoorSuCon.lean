/-
  slices.Index and slices.Contains of a row of bools.
-/
import Derived.Test.YtheenonakbokpahDoorSuHas
namespace Go.Proofs.YtheenonakbokpahDoor
open Go.RowKit

set_option maxRecDepth 100000 in
set_option maxHeartbeats 2000000 in
theorem suidx_any (P : Nat → Bool) (g n : Nat) (w : World) (hR : Rw w g n P) (hn2 : n ≤ 40) :
    Calls Tryd.prog 32 #[.slice (some ⟨g, 0, none⟩) n n, .bool true] w fun e w' => (∃ r : Int, e = .returned (.int .i64 r) ∧ decide (0 ≤ r) = decide (0 < cnR P 0 n)) ∧ w' = w := by
  have HC : Hid (∀ i, i < n → w.cell? ⟨g, i, none⟩ = some (.bool (P i))) := hR.2
  clear hR
  go_enter Tryd.func32, Tryd.ntmps32
  go_wp2
  go_loopw [8] (fun i wr => ∃ k : Nat, k ≤ n ∧ i = .int .i64 k ∧ Hid (∀ j, j < k → P (0 + j) = false) ∧ wr = w) (fun i _ => n - (intOf i).toNat)
  case atStart => exact ⟨0, Nat.zero_le _, rfl, fun j hj => by omega, rfl⟩
  case round =>
    obtain ⟨k, hk, rfl, HA, rfl⟩ := hrel
    by_cases hkl : k < n
    · have hki : (k : Int) < (n : Int) := by omega
      have d0 := HC.out k hkl
      cases hb : P k with
      | true =>
        rw [hb] at d0
        have HF : Hid (decide (0 < cnR P 0 n) = true) := by
          show _ = _
          rw [decide_eq_true_eq]
          by_cases h0 : cnR P 0 n = 0
          · have := (cn_zero 0 n).1 h0 k hkl
            rw [Nat.zero_add, hb] at this
            cases this
          · omega
        clear hb
        go_wp2
        go_ret
        exact ⟨⟨_, rfl, by rw [HF.out]; simp⟩, rfl⟩
      | false =>
        rw [hb] at d0
        have HA2 : Hid (∀ j, j < k + 1 → P (0 + j) = false) := fun j hj => by
          by_cases e : j = k
          · subst e; rw [Nat.zero_add]; exact hb
          · exact HA.out j (by omega)
        clear hb HA
        go_wp2
        go_roundw
        case rel => exact ⟨k + 1, by omega, by go_num, HA2, by trivial⟩
        case measure => simp [intOf]; omega
    · obtain rfl : k = n := by omega
      have HF : Hid (decide (0 < cnR P 0 k) = false) := by
        show _ = _
        rw [decide_eq_false_iff_not, (cn_zero 0 k).2 HA.out]
        omega
      go_wp2
      go_ret
      exact ⟨⟨_, rfl, by rw [HF.out]; decide⟩, rfl⟩
set_option maxRecDepth 100000 in
set_option maxHeartbeats 2000000 in
theorem sucon_any (P : Nat → Bool) (g n : Nat) (w : World) (hR : Rw w g n P) (hn2 : n ≤ 40) :
    Calls Tryd.prog 18 #[.slice (some ⟨g, 0, none⟩) n n, .bool true] w fun e w' => e = .returned (.bool (decide (0 < cnR P 0 n))) ∧ w' = w := by
  have h := suidx_any P g n w hR hn2
  obtain ⟨r, hr⟩ : ∃ r, r = decide (0 < cnR P 0 n) := ⟨_, rfl⟩
  rw [← hr] at h ⊢
  clear hr hR
  go_enter Tryd.func18, Tryd.ntmps18
  go_wp2_with (go_at_call 32; refine h.mono ?_; rintro e w1 ⟨⟨q, rfl, hq⟩, rfl⟩; clear h)
  go_ret
  exact ⟨rfl, rfl⟩
end Go.Proofs.YtheenonakbokpahDoor

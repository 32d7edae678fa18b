/-
  Package supply: turns of a row.
-/
import Derived.Test.YtheenonakbokpahDoorSuHas
namespace Go.Proofs.YtheenonakbokpahDoor
open Go.RowKit

set_option maxRecDepth 100000 in
set_option maxHeartbeats 2000000 in
theorem suturns_any (P : Nat → Bool) (g n f m : Nat) (w : World) (hR : Rw w g n P) (hn : 0 < n) (hn2 : n ≤ 40) (hp : ∀ x, P (x + n) = P x) (hf : f ≤ 2000) (hm : m ≤ 2000) :
    Calls Tryd.prog 17 #[.slice (some ⟨g, 0, none⟩) n n, .int .i64 f, .int .i64 m] w fun e w' => e = .returned (.int .i64 (cnR P f m : Nat)) ∧ w' = w := by
  have HH : Hid (∀ t : Nat, Calls Tryd.prog 31 #[.slice (some ⟨g, 0, none⟩) n n, .int .i64 t] w fun e w' => e = .returned (.bool (P t)) ∧ w' = w) := fun t => suhas_any P g n t w hR hn hn2 hp
  clear hR hp
  go_enter Tryd.func17, Tryd.ntmps17
  go_wp2
  go_loopw [7, 10] (fun s7 s10 wr => ∃ k : Nat, k ≤ m ∧ s10 = .int .i64 k ∧ (∃ c : Nat, s7 = .int .i64 c ∧ Hid (c = cnR P f k) ∧ c ≤ k) ∧ wr = w) (fun _ s10 _ => m - (intOf s10).toNat)
  case atStart => exact ⟨0, Nat.zero_le _, rfl, ⟨0, rfl, rfl, Nat.le_refl _⟩, rfl⟩
  case round =>
    obtain ⟨k, hk, rfl, ⟨c, rfl, HC, hc⟩, rfl⟩ := hrel
    by_cases hkm : k < m
    · have hki : (k : Int) < (m : Int) := by omega
      have hq := HH.out (f + k)
      rw [show ((f + k : Nat) : Int) = (f : Int) + (k : Int) by omega] at hq
      have hs : cnR P f (k + 1) = cnR P f k + if P (f + k) = true then 1 else 0 := rfl
      cases hb : P (f + k) with
      | true =>
        rw [hb, if_pos rfl, ← HC.out] at hs
        rw [hb] at hq
        have HS : Hid (cnR P f (k + 1) = c + 1) := hs
        clear hs hb
        go_wp2_with (go_at_call 31; refine hq.mono ?_; rintro e w1 ⟨rfl, rfl⟩; clear hq)
        go_roundw
        case rel => exact ⟨k + 1, by omega, by go_num, ⟨c + 1, by go_num, HS.out.symm, by omega⟩, by trivial⟩
        case measure => simp [intOf]; omega
      | false =>
        rw [hb, if_neg (by simp), Nat.add_zero, ← HC.out] at hs
        rw [hb] at hq
        have HS : Hid (cnR P f (k + 1) = c) := hs
        clear hs hb
        go_wp2_with (go_at_call 31; refine hq.mono ?_; rintro e w1 ⟨rfl, rfl⟩; clear hq)
        go_roundw
        case rel => exact ⟨k + 1, by omega, by go_num, ⟨c, by trivial, HS.out.symm, by omega⟩, by trivial⟩
        case measure => simp [intOf]; omega
    · obtain rfl : k = m := by omega
      go_wp2
      go_ret
      exact ⟨retI (congrArg Nat.cast HC.out), rfl⟩
end Go.Proofs.YtheenonakbokpahDoor

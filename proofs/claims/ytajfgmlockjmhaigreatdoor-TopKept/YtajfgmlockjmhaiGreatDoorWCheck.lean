/-
  wire.Check: what is wrong with a wire.
-/
import Derived.Test.YtajfgmlockjmhaiGreatDoorJt1
import Derived.Deep.QuietTactic
import Derived.BigQuiet
namespace Go.Proofs.YtajfgmlockjmhaiGreatDoor
open Go.RowKit

set_option maxRecDepth 100000 in
set_option maxHeartbeats 1000000 in
theorem room_yes (r : Int) (w : World) (h0 : 0 ≤ r) (h1 : r < 5) : Calls Tryz.prog 100 #[.int .i64 r] w fun e w' => e = .returned (.bool true) ∧ w' = w := by
  go_enter Tryz.func100, Tryz.ntmps100
  go_wp2
  go_ret
  exact ⟨rfl, rfl⟩
set_option maxRecDepth 100000 in
set_option maxHeartbeats 1000000 in
theorem room_no (r : Int) (w : World) (h : ¬ (0 ≤ r ∧ r < 5)) : Calls Tryz.prog 100 #[.int .i64 r] w fun e w' => e = .returned (.bool false) ∧ w' = w := by
  by_cases h0 : 0 ≤ r
  · have h1 : decide (r < 5) = false := by simp; omega
    clear h
    go_enter Tryz.func100, Tryz.ntmps100
    go_wp2
    go_ret
    exact ⟨rfl, rfl⟩
  · have h0' : decide (0 ≤ r) = false := by simp; omega
    clear h
    go_enter Tryz.func100, Tryz.ntmps100
    go_wp2
    go_ret
    exact ⟨rfl, rfl⟩
set_option maxRecDepth 100000 in
set_option maxHeartbeats 1000000 in
theorem deep_any (k : Int) (w : World) : Calls Tryz.prog 101 #[.int .i64 k] w fun e w' => e = .returned (.int .i64 (dpst k)) ∧ w' = w := by
  by_cases h1 : k = 1
  · subst h1
    go_enter Tryz.func101, Tryz.ntmps101
    go_wp2
    go_ret
    exact ⟨rfl, rfl⟩
  · by_cases h2 : k = 2
    · subst h2
      go_enter Tryz.func101, Tryz.ntmps101
      go_wp2
      go_ret
      exact ⟨rfl, rfl⟩
    · have HD : Hid (dpst k = 0) := by show _ = _; simp [dpst, h1, h2]
      go_enter Tryz.func101, Tryz.ntmps101
      go_wp2
      go_ret
      rw [HD.out]
      exact ⟨rfl, rfl⟩

set_option maxRecDepth 100000 in
set_option maxHeartbeats 4000000 in
theorem wcheck_any (f t k d : Int) (w : World) : Calls Tryz.prog 65 #[wV f t k d] w fun e w' => e = .returned (wErr (wchk f t k d)) ∧ Below w.heap.size w w' := by
  have hA : Below w.heap.size w (w.alloc (.cells #[.int .i64 f, .int .i64 t, .int .i64 k, .int .i64 d] 89)) := (Below.refl _ _).alloc (Nat.le_refl _) _
  unfold wV
  by_cases hf : 0 ≤ f ∧ f < 5
  · have hF := fun W => room_yes f W hf.1 hf.2
    by_cases ht : 0 ≤ t ∧ t < 5
    · have hT := fun W => room_yes t W ht.1 ht.2
      by_cases h1 : d < 1
      · have HE : Hid (wchk f t k d = 1) := by show _ = _; unfold wchk; rw [if_neg (by omega)]
        clear hf ht
        go_enter Tryz.func65, Tryz.ntmps65
        go_wp2
        go_quiet ((first | (go_at_call 100; exact Calls.quiet_of_same (hF _)) | (go_at_call 100; exact Calls.quiet_of_same (hT _))))
        go_wp2
        go_ret
        rw [HE.out]
        exact ⟨rfl, below_dN hA _⟩
      · have h1' : decide (d < 1) = false := by simp; omega
        have hD := fun W => deep_any k W
        by_cases h2 : dpst k < d
        · have HE : Hid (wchk f t k d = 1) := by show _ = _; unfold wchk; rw [if_neg (by omega)]
          clear hf ht
          go_enter Tryz.func65, Tryz.ntmps65
          go_wp2
          go_quiet ((first | (go_at_call 100; exact Calls.quiet_of_same (hF _)) | (go_at_call 100; exact Calls.quiet_of_same (hT _)) | (go_at_call 101; exact Calls.quiet_of_same (hD _))))
          go_wp2
          go_ret
          rw [HE.out]
          exact ⟨rfl, below_dN hA _⟩
        · have h2' : decide (dpst k < d) = false := by simp; omega
          by_cases h3 : f = t
          · have HE : Hid (wchk f t k d = 3) := by show _ = _; unfold wchk; rw [if_pos (by omega), if_pos h3]
            clear hf ht
            subst h3
            go_enter Tryz.func65, Tryz.ntmps65
            go_wp2
            go_quiet ((first | (go_at_call 100; exact Calls.quiet_of_same (hF _)) | (go_at_call 101; exact Calls.quiet_of_same (hD _))))
            go_wp2
            go_ret
            rw [HE.out]
            exact ⟨rfl, below_dN hA _⟩
          · have h3' : decide (f = t) = false := by simp; omega
            have HE : Hid (wchk f t k d = 0) := by show _ = _; unfold wchk; rw [if_pos (by omega), if_neg h3]
            clear hf ht
            go_enter Tryz.func65, Tryz.ntmps65
            go_wp2
            go_quiet ((first | (go_at_call 100; exact Calls.quiet_of_same (hF _)) | (go_at_call 100; exact Calls.quiet_of_same (hT _)) | (go_at_call 101; exact Calls.quiet_of_same (hD _))))
            go_wp2
            go_ret
            rw [HE.out]
            exact ⟨rfl, below_dN hA _⟩
    · have hT := fun W => room_no t W ht
      have HE : Hid (wchk f t k d = 1) := by show _ = _; unfold wchk; rw [if_neg (by omega)]
      clear hf ht
      go_enter Tryz.func65, Tryz.ntmps65
      go_wp2
      go_quiet ((first | (go_at_call 100; exact Calls.quiet_of_same (hF _)) | (go_at_call 100; exact Calls.quiet_of_same (hT _))))
      go_wp2
      go_ret
      rw [HE.out]
      exact ⟨rfl, below_dN hA _⟩
  · have hF := fun W => room_no f W hf
    have HE : Hid (wchk f t k d = 1) := by show _ = _; unfold wchk; rw [if_neg (by omega)]
    clear hf
    go_enter Tryz.func65, Tryz.ntmps65
    go_wp2
    go_quiet ((first | (go_at_call 100; exact Calls.quiet_of_same (hF _))))
    go_wp2
    go_ret
    rw [HE.out]
    exact ⟨rfl, below_dN hA _⟩
end Go.Proofs.YtajfgmlockjmhaiGreatDoor

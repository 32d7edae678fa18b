/-
  frameref1.State: whether a state is right; what the walks of frameref1.Step ask.
-/
import Derived.Test.YthbcbdedmillaaaDoorRoomNext
import Derived.Test.YthbcbdedmillaaaDoorRoomCheck
import Derived.BigRegion
import Derived.Deep.QuietTactic
import Derived.BigQuiet
import Derived.WalkSmall
namespace Go.Proofs.YthbcbdedmillaaaDoor
open Go.RowKit

theorem st_at (p : Int) (c : Nat → Int) (f : Bool) (w : World) (t : TypeId) (b : Nat) (hb : b ≤ 5) : (w.alloc (.cells #[.int .i64 p, .int .i64 (c 0), .int .i64 (c 1), .int .i64 (c 2), .int .i64 (c 3), .int .i64 (c 4), .int .i64 (c 5), .bool f] t)).cell? ⟨w.heap.size, 1 + b, none⟩ = some (.int .i64 (c b)) := by
  have h : b = 0 ∨ b = 1 ∨ b = 2 ∨ b = 3 ∨ b = 4 ∨ b = 5 := by omega
  rcases h with rfl | rfl | rfl | rfl | rfl | rfl <;> simp

set_option maxRecDepth 100000 in
set_option maxHeartbeats 4000000 in
theorem refstate_any (s : St) (n : Nat) (w : World) :
    Calls Tryd.prog 13 #[stV s, .int .i64 n] w fun e w' => e = .returned (.bool (stOk s n)) ∧ Below w.heap.size w w' := by
  unfold stV
  have hb0 : Below w.heap.size w (w.alloc (.cells #[.int .i64 s.p, .int .i64 (s.c 0), .int .i64 (s.c 1), .int .i64 (s.c 2), .int .i64 (s.c 3), .int .i64 (s.c 4), .int .i64 (s.c 5), .bool s.f] 40)) := (Below.refl _ _).alloc (Nat.le_refl _) _
  have hat : Hid (∀ wr, Below (w.heap.size + 1) (w.alloc (.cells #[.int .i64 s.p, .int .i64 (s.c 0), .int .i64 (s.c 1), .int .i64 (s.c 2), .int .i64 (s.c 3), .int .i64 (s.c 4), .int .i64 (s.c 5), .bool s.f] 40)) wr → (∀ i, i < 6 → wr.cell? ⟨w.heap.size, 1 + i, none⟩ = some (.int .i64 (s.c i))) ∧ wr.cell? ⟨w.heap.size, 0, none⟩ = some (.int .i64 s.p)) := fun wr hb => by
    have h := st_box (s := s) hb
    exact ⟨h.2.1, h.1⟩
  go_enter Tryd.func13, Tryd.ntmps13
  go_wp2
  go_loopw [5] (fun i wr => ∃ k : Nat, k ≤ 6 ∧ i = .int .i64 k ∧ (∀ j, j < k → 0 ≤ s.c j ∧ s.c j ≤ 999) ∧ Below (w.heap.size + 1) (w.alloc (.cells #[.int .i64 s.p, .int .i64 (s.c 0), .int .i64 (s.c 1), .int .i64 (s.c 2), .int .i64 (s.c 3), .int .i64 (s.c 4), .int .i64 (s.c 5), .bool s.f] 40)) wr) (fun i _ => 6 - (intOf i).toNat)
  case atStart => exact ⟨0, by omega, rfl, fun j hj => by omega, Below.refl _ _⟩
  case round =>
    obtain ⟨k, hk, rfl, hall, hb⟩ := hrel
    have HA : Hid (∀ j, j < k → 0 ≤ s.c j ∧ s.c j ≤ 999) := hall
    clear hall
    have hbw : Below w.heap.size w wr := hb0.trans (hb.mono (by omega))
    by_cases hk6 : k < 6
    · have e1 := (hat.out wr hb).1 k hk6
      have hki : (k : Int) < 6 := by omega
      obtain ⟨x, hx⟩ : ∃ x, x = s.c k := ⟨_, rfl⟩
      rw [← hx] at e1
      have HX : Hid (x = s.c k) := hx
      clear hx
      by_cases h0 : x < 0
      · have HN : Hid (stOk s n = false) := by
          show _ = _
          rw [← Bool.not_eq_true, stOk_iff]
          rintro ⟨_, _, h⟩
          have := h k hk6
          have := HX.out
          omega
        go_wp2
        try go_quiet (fail)
        go_wp2
        go_ret
        first | exact ⟨ret_bool HN.out.symm, hbw⟩ | exact ⟨ret_bool HN.out.symm, below_drewN hbw _⟩
      · have h0' : decide (x < 0) = false := by simpa using h0
        by_cases h1 : 999 < x
        · have HN : Hid (stOk s n = false) := by
            show _ = _
            rw [← Bool.not_eq_true, stOk_iff]
            rintro ⟨_, _, h⟩
            have := h k hk6
            have := HX.out
            omega
          go_wp2
          try go_quiet (fail)
          go_wp2
          go_ret
          first | exact ⟨ret_bool HN.out.symm, hbw⟩ | exact ⟨ret_bool HN.out.symm, below_drewN hbw _⟩
        · have h1' : decide (999 < x) = false := by simpa using h1
          have HX2 : Hid (0 ≤ s.c k ∧ s.c k ≤ 999) := by have := HX.out; exact ⟨by omega, by omega⟩
          go_wp2
          try go_quiet (fail)
          go_wp2
          go_roundw
          case rel =>
            refine ⟨k + 1, by omega, by go_num, fun j hj => ?_, by first | exact hb | exact below_drewN hb _⟩
            by_cases hjk : j < k
            · exact HA.out j hjk
            · obtain rfl : j = k := by omega
              exact HX2.out
          case measure => simp [intOf]; omega
    · have e0 := (hat.out wr hb).2
      have HC : Hid (∀ j, j < 6 → 0 ≤ s.c j ∧ s.c j ≤ 999) := fun j hj => HA.out j (by omega)
      by_cases hp : s.p < 0
      · have hp' : decide (0 ≤ s.p) = false := by simp; omega
        have HN : Hid (stOk s n = false) := by
          show _ = _
          rw [← Bool.not_eq_true, stOk_iff]
          rintro ⟨h1, _, _⟩
          omega
        go_wp2
        try go_quiet (fail)
        try go_wp2
        go_ret
        first | exact ⟨ret_bool HN.out.symm, hbw⟩ | exact ⟨ret_bool HN.out.symm, below_drewN hbw _⟩
      · have hp0 : 0 ≤ s.p := by omega
        by_cases hq : s.p < n
        · have HN : Hid (stOk s n = true) := by
            show _ = _
            rw [stOk_iff]
            exact ⟨hp0, hq, HC.out⟩
          go_wp2
          try go_quiet (fail)
          try go_wp2
          go_ret
          first | exact ⟨ret_bool HN.out.symm, hbw⟩ | exact ⟨ret_bool HN.out.symm, below_drewN hbw _⟩
        · have hq' : decide (s.p < n) = false := by simpa using hq
          have HN : Hid (stOk s n = false) := by
            show _ = _
            rw [← Bool.not_eq_true, stOk_iff]
            rintro ⟨_, h1, _⟩
            omega
          go_wp2
          try go_quiet (fail)
          try go_wp2
          go_ret
          first | exact ⟨ret_bool HN.out.symm, hbw⟩ | exact ⟨ret_bool HN.out.symm, below_drewN hbw _⟩
end Go.Proofs.YthbcbdedmillaaaDoor

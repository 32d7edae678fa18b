/-
  framesame.Ints: of two rows of five numbers that are the same; of two that are empty.
-/
import Derived.Test.YtmlkfmiaaaienabDoorFShares
import Derived.Test.YtmlkfmiaaaienabDoorRefFrame
namespace Go.Proofs.YtmlkfmiaaaienabDoor
open Go.RowKit

theorem Five.at' {w : World} {b : Nat} {c : Nat → Int} (h : Five w b c) (r : Nat) (hr : r < 5) : w.cell? ⟨b, r, none⟩ = some (.int .i64 (c r)) ∧ w.frozen? ⟨b, r, none⟩ = false := by
  obtain ⟨⟨k0, k1, k2, k3, k4⟩, j0, j1, j2, j3, j4⟩ := h
  match r, hr with
  | 0, _ => exact ⟨k0, j0⟩
  | 1, _ => exact ⟨k1, j1⟩
  | 2, _ => exact ⟨k2, j2⟩
  | 3, _ => exact ⟨k3, j3⟩
  | 4, _ => exact ⟨k4, j4⟩
set_option maxRecDepth 1000000 in
set_option maxHeartbeats 4000000 in
theorem fints_five (a b : Nat) (c : Nat → Int) (w : World) (ha : a < w.heap.size) (hb : b < w.heap.size) (h1 : Five w a c) (h2 : Five w b c) :
    Calls Tryd.prog 14 #[.slice (some ⟨a, 0, none⟩) 5 5, .slice (some ⟨b, 0, none⟩) 5 5] w fun e w' => e = .returned (.bool true) ∧ Below w.heap.size w w' := by
  have H1 : Hid (Five w a c) := h1
  have H2 : Hid (Five w b c) := h2
  clear h1 h2
  go_enter Tryd.func14, Tryd.ntmps14
  go_wp2
  go_loopw [5] (fun i wr => ∃ k : Nat, k ≤ 5 ∧ i = .int .i64 k ∧ Below w.heap.size w wr) (fun i _ => 5 - (intOf i).toNat)
  case atStart => exact ⟨0, Nat.zero_le _, rfl, Below.refl _ _⟩
  case round =>
    obtain ⟨k, hk, rfl, hbw⟩ := hrel
    by_cases hkl : k < 5
    · have c0 := (hbw.cell (p := ⟨a, k, none⟩) ha).trans (H1.out.at' k hkl).1
      have c1 := (hbw.cell (p := ⟨b, k, none⟩) hb).trans (H2.out.at' k hkl).1
      have hki : (k : Int) < 5 := by omega
      go_wp2
      go_quiet (fail)
      go_wp2
      go_roundw
      case rel => exact ⟨k + 1, by omega, by go_num, below_drewN hbw _⟩
      case measure => simp [intOf]; omega
    · have hki : decide ((k : Int) < 5) = false := by simp; omega
      go_wp2
      go_ret
      exact ⟨rfl, hbw⟩
set_option maxRecDepth 1000000 in
set_option maxHeartbeats 4000000 in
theorem fints_nil (w : World) :
    Calls Tryd.prog 14 #[.slice none 0 0, .slice none 0 0] w fun e w' => e = .returned (.bool true) ∧ Below w.heap.size w w' := by
  go_enter Tryd.func14, Tryd.ntmps14
  go_wp2
  refine wp_loop_rounds 1 ?_
  rw [rounds_succ]
  go_wp2
  go_ret
  exact ⟨rfl, Below.refl _ _⟩
end Go.Proofs.YtmlkfmiaaaienabDoor

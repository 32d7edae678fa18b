/-
  The law WireFull: the walk.
-/
import Derived.Test.YtfconbblnmbnpabWSend
import Derived.Test.YtfconbblnmbnpabWTake2
import Derived.Test.YtfconbblnmbnpabWHeld
namespace Go.Proofs.Ytfconbblnmbnpab
open Go.RowKit

set_option maxRecDepth 100000 in
set_option maxHeartbeats 4000000 in
theorem full_no (d n : Int) (w : World) (h : d < 1 ∨ 6 < d) :
    Calls Try.prog 5 #[.int .i64 d, .int .i64 n] w fun ev w' => ev = .returned (.bool true) ∧ Below w.heap.size w w' := by
  have hk : wchk 0 1 2 d = 1 := by unfold wchk dpst; rw [if_neg (by simp; omega)]
  have hn := wnew_no 0 1 2 d w (by rw [hk]; decide)
  rw [hk] at hn
  clear hk
  unfold wV at hn
  by_cases h1 : d < 1
  · clear h
    go_enter Try.func5, Try.ntmps5
    go_wp2_with (go_at_call 9; refine hn.mono ?_; rintro e w1 ⟨rfl, b1⟩; clear hn)
    go_ret
    exact ⟨rfl, b1⟩
  · have h1' : decide (d < 1) = false := by simpa using h1
    have h2 : 6 < d := by omega
    clear h
    go_enter Try.func5, Try.ntmps5
    go_wp2_with (go_at_call 9; refine hn.mono ?_; rintro e w1 ⟨rfl, b1⟩; clear hn)
    go_ret
    exact ⟨rfl, b1⟩
set_option maxRecDepth 100000 in
set_option maxHeartbeats 4000000 in
theorem full_out (d n : Int) (w : World) (h1 : 1 ≤ d) (h6 : d ≤ 6) (h : n < 0 ∨ 100 < n) :
    Calls Try.prog 5 #[.int .i64 d, .int .i64 n] w fun ev w' => ev = .returned (.bool true) ∧ Below w.heap.size w w' := by
  have hk : wchk 0 1 2 d = 0 := by unfold wchk dpst; rw [if_pos (by simp; omega)]; rfl
  have hn := wnew_ok 0 1 2 d w hk
  clear hk
  unfold wV at hn
  by_cases h0 : n < 0
  · clear h
    go_enter Try.func5, Try.ntmps5
    go_wp2_with (go_at_call 9; refine hn.mono ?_; rintro e w1 ⟨b, rfl, _, _, _, b1⟩; clear hn)
    go_ret
    exact ⟨rfl, b1⟩
  · have h0' : decide (n < 0) = false := by simpa using h0
    have h2 : 100 < n := by omega
    clear h
    go_enter Try.func5, Try.ntmps5
    go_wp2_with (go_at_call 9; refine hn.mono ?_; rintro e w1 ⟨b, rfl, _, _, _, b1⟩; clear hn)
    go_ret
    exact ⟨rfl, b1⟩

/-- What is there behind so many. -/
def FSt (wr : World) (w : World) (base b : Nat) (d k : Nat) : Prop := ∃ v, Ln wr base b 2 d (rng 0 (min k d)) ((k - d : Nat) : Int) v ∧ w.heap.size ≤ b ∧ Below w.heap.size w wr
theorem FSt.next {wr w w2 : World} {base b d : Nat} {v v' : Value} {ls : Int} {xs : List Int} (hb : w.heap.size ≤ b) (hw : Below w.heap.size w wr) (hL : Ln wr base b 2 d xs ls v) (hT : Touch wr w2 b v v') : Below w.heap.size w w2 :=
  hw.trans (hT.below hb (hL.own (Nat.le_trans hb (Nat.le_of_lt hL.lt))) hw.size)

set_option maxRecDepth 100000 in
set_option maxHeartbeats 4000000 in
theorem full_in (d n : Nat) (w : World) (h1 : 1 ≤ d) (h6 : d ≤ 6) (hn : n ≤ 100) :
    Calls Try.prog 5 #[.int .i64 d, .int .i64 n] w fun ev w' => ev = .returned (.bool true) ∧ Below w.heap.size w w' := by
  have hk : wchk 0 1 2 d = 0 := by unfold wchk dpst; rw [if_pos (by simp; omega)]; rfl
  have hnew := wnew_ok 0 1 2 d w hk
  clear hk
  unfold wV at hnew
  have a0 : decide ((n : Int) < 0) = false := by simp
  have a1 : decide (100 < (n : Int)) = false := by simp; omega
  go_enter Try.func5, Try.ntmps5
  go_wp2_with (go_at_call 9; refine hnew.mono ?_; rintro e w1 ⟨b, rfl, hlc, hbw, hb1, b1⟩; clear hnew; have HF : Hid (FSt w1 w w1.heap.size b d 0) := ⟨_, ⟨by simpa using hlc, World.ownsRow_nil _ _ _ _, hb1, Nat.le_refl _⟩, hbw, b1⟩; clear hlc)
  go_loopw [7] (fun i wr => ∃ k : Nat, k ≤ n ∧ i = .int .i64 k ∧ FSt wr w w1.heap.size b d k) (fun i _ => n - (intOf i).toNat)
  case atStart => exact ⟨0, Nat.zero_le _, rfl, HF.out⟩
  case round =>
    obtain ⟨k, hk, rfl, v, hL, _, hB⟩ := hrel
    by_cases hkn : k < n
    · have hki : (k : Int) < (n : Int) := by omega
      by_cases hkd : k < d
      · have hs := send_room w1.heap.size b d _ _ v k wr (by omega) (by omega) hL (by rw [rng_len]; omega) (by rw [rng_len]; omega)
        have HL : Hid (Ln wr w1.heap.size b 2 d (rng 0 (min k d)) ((k - d : Nat) : Int) v) := hL
        have hdi : (k : Int) < (d : Int) := by omega
        clear hL
        go_wp2_with (go_at_call 10; refine hs.mono ?_; rintro e w2 ⟨v2, rfl, hL2, hT⟩; clear hs; have HL2 : Hid (Ln w2 w1.heap.size b 2 d (rng 0 (min k d) ++ [(k : Int)]) ((k - d : Nat) : Int) v2) := hL2; clear hL2)
        go_roundw
        case rel =>
          refine ⟨k + 1, by omega, by go_num, v2, ?_, hbw, FSt.next hbw hB HL.out hT⟩
          have e1 : rng 0 (min (k + 1) d) = rng 0 (min k d) ++ [(k : Int)] := by
            rw [Nat.min_eq_left (by omega), Nat.min_eq_left (by omega), rng_snoc, Int.zero_add]
          rw [e1, show k + 1 - d = k - d by omega]
          exact HL2.out
        case measure => simp [intOf]; omega
      · have hs := send_full w1.heap.size b d _ _ v k wr (by omega) (by omega) (by omega) hL (by rw [rng_len]; omega)
        have HL : Hid (Ln wr w1.heap.size b 2 d (rng 0 (min k d)) ((k - d : Nat) : Int) v) := hL
        have hdi : decide ((k : Int) < (d : Int)) = false := by simp; omega
        have hdn : decide (k < d) = false := by simp; omega
        clear hL
        go_wp2_with (go_at_call 10; refine hs.mono ?_; rintro e w2 ⟨rfl, hL2, hT⟩; clear hs; have HL2 : Hid (Ln w2 w1.heap.size b 2 d (rng 0 (min k d)) (((k - d : Nat) : Int) + 1) v) := hL2; clear hL2)
        go_roundw
        case rel =>
          refine ⟨k + 1, by omega, by go_num, v, ?_, hbw, FSt.next hbw hB HL.out hT⟩
          rw [show min (k + 1) d = min k d by omega, show ((k + 1 - d : Nat) : Int) = ((k - d : Nat) : Int) + 1 by omega]
          exact HL2.out
        case measure => simp [intOf]; omega
    · obtain rfl : k = n := by omega
      have hki : decide ((k : Int) < (k : Int)) = false := by simp
      have hh := held_any w1.heap.size b 2 d _ _ v wr (by rw [rng_len]; omega) hL
      rw [rng_len] at hh
      clear hL
      by_cases hkd : k ≤ d
      · have hdi : (k : Int) ≤ (d : Int) := by omega
        rw [Nat.min_eq_left hkd, show ((k - d : Nat) : Int) = 0 by omega] at hh
        go_wp2_with (go_at_call 13; refine hh.mono ?_; rintro e w2 ⟨ao, cap, rfl, own2, b2⟩; clear hh own2)
        go_ret
        exact ⟨rfl, (hB.trans (b2.mono hB.size)).alloc (Nat.le_trans hB.size b2.size) _⟩
      · have hdi : decide ((k : Int) ≤ (d : Int)) = false := by simp; omega
        have hdn : decide (k ≤ d) = false := by simp; omega
        rw [Nat.min_eq_right (by omega)] at hh
        go_wp2_with (go_at_call 13; refine hh.mono ?_; rintro e w2 ⟨ao, cap, rfl, own2, b2⟩; clear hh own2)
        go_ret
        exact ⟨wretB (by rw [beq_iff_eq]; omega), (hB.trans (b2.mono hB.size)).alloc (Nat.le_trans hB.size b2.size) _⟩
theorem full_any (d n : Int) (w : World) :
    Calls Try.prog 5 #[.int .i64 d, .int .i64 n] w fun ev w' => ev = .returned (.bool true) ∧ Below w.heap.size w w' := by
  by_cases h : d < 1 ∨ 6 < d
  · exact full_no d n w h
  · by_cases h2 : n < 0 ∨ 100 < n
    · exact full_out d n w (by omega) (by omega) h2
    · obtain ⟨m, rfl⟩ : ∃ m : Nat, d = m := ⟨d.toNat, by omega⟩
      obtain ⟨s, rfl⟩ : ∃ s : Nat, n = s := ⟨n.toNat, by omega⟩
      exact full_in m s w (by omega) (by omega) (by omega)
end Go.Proofs.Ytfconbblnmbnpab

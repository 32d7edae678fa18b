/-
  WCheck, FlCheck: joined into one text.
-/
import Derived.Test.YtamnfadngbbaeacGreatDoorBaseA
import Derived.Deep.QuietTactic
import Derived.BigQuiet
namespace Go.Proofs.YtamnfadngbbaeacGreatDoor
open Go.RowKit

set_option maxRecDepth 100000 in
set_option maxHeartbeats 1000000 in
theorem room_yes (r : Int) (w : World) (h0 : 0 ≤ r) (h1 : r < 5) : Calls Tryz.prog 66 #[.int .i64 r] w fun e w' => e = .returned (.bool true) ∧ w' = w := by
  go_enter Tryz.func66, Tryz.ntmps66
  go_wp2
  go_ret
  exact ⟨rfl, rfl⟩
set_option maxRecDepth 100000 in
set_option maxHeartbeats 1000000 in
theorem room_no (r : Int) (w : World) (h : ¬ (0 ≤ r ∧ r < 5)) : Calls Tryz.prog 66 #[.int .i64 r] w fun e w' => e = .returned (.bool false) ∧ w' = w := by
  by_cases h0 : 0 ≤ r
  · have h1 : decide (r < 5) = false := by simp; omega
    clear h
    go_enter Tryz.func66, Tryz.ntmps66
    go_wp2
    go_ret
    exact ⟨rfl, rfl⟩
  · have h0' : decide (0 ≤ r) = false := by simp; omega
    clear h
    go_enter Tryz.func66, Tryz.ntmps66
    go_wp2
    go_ret
    exact ⟨rfl, rfl⟩
set_option maxRecDepth 100000 in
set_option maxHeartbeats 1000000 in
theorem deep_any (k : Int) (w : World) : Calls Tryz.prog 67 #[.int .i64 k] w fun e w' => e = .returned (.int .i64 (dpst k)) ∧ w' = w := by
  by_cases h1 : k = 1
  · subst h1
    go_enter Tryz.func67, Tryz.ntmps67
    go_wp2
    go_ret
    exact ⟨rfl, rfl⟩
  · by_cases h2 : k = 2
    · subst h2
      go_enter Tryz.func67, Tryz.ntmps67
      go_wp2
      go_ret
      exact ⟨rfl, rfl⟩
    · have HD : Hid (dpst k = 0) := by show _ = _; simp [dpst, h1, h2]
      go_enter Tryz.func67, Tryz.ntmps67
      go_wp2
      go_ret
      rw [HD.out]
      exact ⟨rfl, rfl⟩

set_option maxRecDepth 100000 in
set_option maxHeartbeats 4000000 in
theorem wcheck_any (f t k d : Int) (w : World) : Calls Tryz.prog 40 #[wV f t k d] w fun e w' => e = .returned (wErr (wchk f t k d)) ∧ Below w.heap.size w w' := by
  have hA : Below w.heap.size w (w.alloc (.cells #[.int .i64 f, .int .i64 t, .int .i64 k, .int .i64 d] 47)) := (Below.refl _ _).alloc (Nat.le_refl _) _
  unfold wV
  by_cases hf : 0 ≤ f ∧ f < 5
  · have hF := fun W => room_yes f W hf.1 hf.2
    by_cases ht : 0 ≤ t ∧ t < 5
    · have hT := fun W => room_yes t W ht.1 ht.2
      by_cases h1 : d < 1
      · have HE : Hid (wchk f t k d = 1) := by show _ = _; unfold wchk; rw [if_neg (by omega)]
        clear hf ht
        go_enter Tryz.func40, Tryz.ntmps40
        go_wp2
        go_quiet ((first | (go_at_call 66; exact Calls.quiet_of_same (hF _)) | (go_at_call 66; exact Calls.quiet_of_same (hT _))))
        go_wp2
        go_ret
        rw [HE.out]
        exact ⟨rfl, below_dN hA _⟩
      · have h1' : decide (d < 1) = false := by simp; omega
        have hD := fun W => deep_any k W
        by_cases h2 : dpst k < d
        · have HE : Hid (wchk f t k d = 1) := by show _ = _; unfold wchk; rw [if_neg (by omega)]
          clear hf ht
          go_enter Tryz.func40, Tryz.ntmps40
          go_wp2
          go_quiet ((first | (go_at_call 66; exact Calls.quiet_of_same (hF _)) | (go_at_call 66; exact Calls.quiet_of_same (hT _)) | (go_at_call 67; exact Calls.quiet_of_same (hD _))))
          go_wp2
          go_ret
          rw [HE.out]
          exact ⟨rfl, below_dN hA _⟩
        · have h2' : decide (dpst k < d) = false := by simp; omega
          by_cases h3 : f = t
          · have HE : Hid (wchk f t k d = 3) := by show _ = _; unfold wchk; rw [if_pos (by omega), if_pos h3]
            clear hf ht
            subst h3
            go_enter Tryz.func40, Tryz.ntmps40
            go_wp2
            go_quiet ((first | (go_at_call 66; exact Calls.quiet_of_same (hF _)) | (go_at_call 67; exact Calls.quiet_of_same (hD _))))
            go_wp2
            go_ret
            rw [HE.out]
            exact ⟨rfl, below_dN hA _⟩
          · have h3' : decide (f = t) = false := by simp; omega
            have HE : Hid (wchk f t k d = 0) := by show _ = _; unfold wchk; rw [if_pos (by omega), if_neg h3]
            clear hf ht
            go_enter Tryz.func40, Tryz.ntmps40
            go_wp2
            go_quiet ((first | (go_at_call 66; exact Calls.quiet_of_same (hF _)) | (go_at_call 66; exact Calls.quiet_of_same (hT _)) | (go_at_call 67; exact Calls.quiet_of_same (hD _))))
            go_wp2
            go_ret
            rw [HE.out]
            exact ⟨rfl, below_dN hA _⟩
    · have hT := fun W => room_no t W ht
      have HE : Hid (wchk f t k d = 1) := by show _ = _; unfold wchk; rw [if_neg (by omega)]
      clear hf ht
      go_enter Tryz.func40, Tryz.ntmps40
      go_wp2
      go_quiet ((first | (go_at_call 66; exact Calls.quiet_of_same (hF _)) | (go_at_call 66; exact Calls.quiet_of_same (hT _))))
      go_wp2
      go_ret
      rw [HE.out]
      exact ⟨rfl, below_dN hA _⟩
  · have hF := fun W => room_no f W hf
    have HE : Hid (wchk f t k d = 1) := by show _ = _; unfold wchk; rw [if_neg (by omega)]
    clear hf
    go_enter Tryz.func40, Tryz.ntmps40
    go_wp2
    go_quiet ((first | (go_at_call 66; exact Calls.quiet_of_same (hF _))))
    go_wp2
    go_ret
    rw [HE.out]
    exact ⟨rfl, below_dN hA _⟩
end Go.Proofs.YtamnfadngbbaeacGreatDoor
namespace Go.Proofs.YtamnfadngbbaeacGreatDoor
open Go.RowKit

set_option maxRecDepth 100000 in
set_option maxHeartbeats 4000000 in
theorem flcheck_any (l : List W4) (v : Value) (w : World) (hl : Wrs w v l) :
    Calls Tryz.prog 19 #[v] w fun e w' => e = .returned (.tuple #[.int .i64 (wschk l).1, wErr (wschk l).2]) ∧ Below w.heap.size w w' := by
  obtain ⟨ao, cap, rfl⟩ := hl.form
  have HL : Hid (Wrs w (.slice ao l.length cap) l) := hl
  clear hl
  by_cases h12 : 12 < l.length
  · have h12i : (12 : Int) < (l.length : Int) := by omega
    have HF : Hid (wschk l = (0, 4)) := by show _ = _; unfold wschk; rw [if_pos h12]
    go_enter Tryz.func19, Tryz.ntmps19
    go_wp2
    go_ret2
    rw [HF.out]
    exact ⟨rfl, Below.refl _ _⟩
  · have h12i : decide ((12 : Int) < (l.length : Int)) = false := by simp; omega
    have h12n : decide (12 < l.length) = false := by simp; omega
    have HW : Hid (wschk l = wscan l 0) := by show _ = _; unfold wschk; rw [if_neg h12]
    go_enter Tryz.func19, Tryz.ntmps19
    go_wp2
    go_loopw [13] (fun i wr => ∃ k : Nat, k ≤ l.length ∧ i = .int .i64 k ∧ Hid (∀ j y, j < k → l[j]? = some y → w4chk y = 0) ∧ Below w.heap.size w wr) (fun i _ => l.length - (intOf i).toNat)
    case atStart => exact ⟨0, Nat.zero_le _, rfl, fun j y hj => by omega, Below.refl _ _⟩
    case round =>
      obtain ⟨k, hk, rfl, HS, hb⟩ := hrel
      by_cases hkl : k < l.length
      · have hki : (k : Int) < (l.length : Int) := by omega
        obtain ⟨b, off, f, t, kd, d, rfl, hlt, hx, c0, c1, c2, c3⟩ := HL.out.at hkl
        have HX : Hid (l[k]? = some (f, t, kd, d)) := hx
        replace c0 := (hb.cell (p := ⟨b, _, none⟩) hlt).trans c0
        replace c1 := (hb.cell (p := ⟨b, _, none⟩) hlt).trans c1
        replace c2 := (hb.cell (p := ⟨b, _, none⟩) hlt).trans c2
        replace c3 := (hb.cell (p := ⟨b, _, none⟩) hlt).trans c3
        have hc := fun W => wcheck_any f t kd d W
        clear hx
        unfold wV at hc
        by_cases hz : wchk f t kd d = 0
        · have HZ : Hid (w4chk (f, t, kd, d) = 0) := hz
          rw [hz] at hc
          rw [show wErr 0 = .nilIface from rfl] at hc
          clear hz
          go_wp2_with (go_at_call 40; refine (hc _).mono ?_; rintro e w1 ⟨rfl, b1⟩; clear hc)
          go_roundw
          case rel =>
            refine ⟨k + 1, by omega, by go_num, fun j y hj hy => ?_, ?_⟩
            · by_cases hjk : j < k
              · exact HS.out j y hjk hy
              · obtain rfl : j = k := by omega
                rw [HX.out] at hy
                obtain rfl := Option.some.inj hy
                exact HZ.out
            · exact (hb.alloc hb.size _).trans (b1.mono (by have := hb.size; simp; omega))
          case measure => simp [intOf]; omega
        · have HF : Hid (wschk l = ((k : Int), wchk f t kd d)) := by
            show _ = _
            rw [HW.out, wscan_hit HS.out HX.out hz]
            rfl
          rw [wErr_not hz] at hc
          have HE : Hid (wErr (wchk f t kd d) = .iface 52 (.int .i64 (wchk f t kd d))) := wErr_not hz
          obtain ⟨q, hq⟩ : ∃ q, q = wchk f t kd d := ⟨_, rfl⟩
          rw [← hq] at hc hz HF HE
          clear hq HW
          go_wp2_with (go_at_call 40; refine (hc _).mono ?_; rintro e w1 ⟨rfl, b1⟩; clear hc)
          go_ret2
          rw [HF.out, HE.out]
          exact ⟨rfl, (hb.alloc hb.size _).trans (b1.mono (by have := hb.size; simp; omega))⟩
      · have hki : decide ((k : Int) < (l.length : Int)) = false := by simp; omega
        have hkn : decide (k < l.length) = false := by simp; omega
        have HF : Hid (wschk l = (0, 0)) := by
          show _ = _
          rw [HW.out]
          exact wscan_none (fun j y hj hy => HS.out j y (by omega) hy)
        clear HW
        go_wp2
        go_ret2
        rw [HF.out]
        exact ⟨rfl, hb⟩
end Go.Proofs.YtamnfadngbbaeacGreatDoor

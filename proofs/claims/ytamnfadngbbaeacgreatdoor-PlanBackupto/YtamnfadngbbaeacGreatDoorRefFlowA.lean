/-
  WRefW, RefFlow: joined into one text.
-/
import Derived.Test.YtamnfadngbbaeacGreatDoorBaseA
namespace Go.Proofs.YtamnfadngbbaeacGreatDoor
open Go.RowKit

set_option maxRecDepth 100000 in
set_option maxHeartbeats 8000000 in
theorem refwire_any (f t k d : Int) (w : World) : Calls Tryz.prog 34 #[wV f t k d] w fun e w' => e = .returned (.int .i64 (wchk f t k d)) ∧ Below w.heap.size w w' := by
  have hA : Below w.heap.size w (w.alloc (.cells #[.int .i64 f, .int .i64 t, .int .i64 k, .int .i64 d] 47)) := (Below.refl _ _).alloc (Nat.le_refl _) _
  unfold wV
  by_cases a1 : f < 0
  · have HE : Hid (wchk f t k d = 1) := by show _ = _; unfold wchk dpst; rw [if_neg (by intro h; split at h <;> (try split at h) <;> omega)]
    go_enter Tryz.func34, Tryz.ntmps34
    go_wp2
    go_ret
    exact ⟨wretI HE.out.symm, hA⟩
  have a1' : decide (f < 0) = false := by simpa using a1
  by_cases a2 : 4 < f
  · have HE : Hid (wchk f t k d = 1) := by show _ = _; unfold wchk dpst; rw [if_neg (by intro h; split at h <;> (try split at h) <;> omega)]
    go_enter Tryz.func34, Tryz.ntmps34
    go_wp2
    go_ret
    exact ⟨wretI HE.out.symm, hA⟩
  have a2' : decide (4 < f) = false := by simpa using a2
  by_cases a3 : t < 0
  · have HE : Hid (wchk f t k d = 1) := by show _ = _; unfold wchk dpst; rw [if_neg (by intro h; split at h <;> (try split at h) <;> omega)]
    go_enter Tryz.func34, Tryz.ntmps34
    go_wp2
    go_ret
    exact ⟨wretI HE.out.symm, hA⟩
  have a3' : decide (t < 0) = false := by simpa using a3
  by_cases a4 : 4 < t
  · have HE : Hid (wchk f t k d = 1) := by show _ = _; unfold wchk dpst; rw [if_neg (by intro h; split at h <;> (try split at h) <;> omega)]
    go_enter Tryz.func34, Tryz.ntmps34
    go_wp2
    go_ret
    exact ⟨wretI HE.out.symm, hA⟩
  have a4' : decide (4 < t) = false := by simpa using a4
  by_cases a5 : k < 1
  · have HE : Hid (wchk f t k d = 1) := by show _ = _; unfold wchk dpst; rw [if_neg (by intro h; split at h <;> (try split at h) <;> omega)]
    go_enter Tryz.func34, Tryz.ntmps34
    go_wp2
    go_ret
    exact ⟨wretI HE.out.symm, hA⟩
  have a5' : decide (k < 1) = false := by simpa using a5
  by_cases a6 : 2 < k
  · have HE : Hid (wchk f t k d = 1) := by show _ = _; unfold wchk dpst; rw [if_neg (by intro h; split at h <;> (try split at h) <;> omega)]
    go_enter Tryz.func34, Tryz.ntmps34
    go_wp2
    go_ret
    exact ⟨wretI HE.out.symm, hA⟩
  have a6' : decide (2 < k) = false := by simpa using a6
  by_cases a7 : d < 1
  · have HE : Hid (wchk f t k d = 1) := by show _ = _; unfold wchk dpst; rw [if_neg (by intro h; split at h <;> (try split at h) <;> omega)]
    go_enter Tryz.func34, Tryz.ntmps34
    go_wp2
    go_ret
    exact ⟨wretI HE.out.symm, hA⟩
  have a7' : decide (d < 1) = false := by simpa using a7
  by_cases a8 : 6 < d
  · have HE : Hid (wchk f t k d = 1) := by show _ = _; unfold wchk dpst; rw [if_neg (by intro h; split at h <;> (try split at h) <;> omega)]
    go_enter Tryz.func34, Tryz.ntmps34
    go_wp2
    go_ret
    exact ⟨wretI HE.out.symm, hA⟩
  have a8' : decide (6 < d) = false := by simpa using a8
  by_cases b1 : k = 1
  · subst b1
    by_cases b2 : d = 1
    · subst b2
      by_cases b3 : f = t
      · have HE : Hid (wchk f t 1 1 = 3) := by show _ = _; unfold wchk dpst; rw [if_pos (by simp; omega), if_pos b3]
        subst b3
        go_enter Tryz.func34, Tryz.ntmps34
        go_wp2
        go_ret
        exact ⟨wretI HE.out.symm, hA⟩
      · have b3' : decide (f = t) = false := by simpa using b3
        have HE : Hid (wchk f t 1 1 = 0) := by show _ = _; unfold wchk dpst; rw [if_pos (by simp; omega), if_neg b3]
        go_enter Tryz.func34, Tryz.ntmps34
        go_wp2
        go_ret
        exact ⟨wretI HE.out.symm, hA⟩
    · have b2' : decide (d = 1) = false := by simpa using b2
      have HE : Hid (wchk f t 1 d = 1) := by show _ = _; unfold wchk dpst; rw [if_neg (by simp; omega)]
      go_enter Tryz.func34, Tryz.ntmps34
      go_wp2
      go_ret
      exact ⟨wretI HE.out.symm, hA⟩
  · obtain rfl : k = 2 := by omega
    by_cases b3 : f = t
    · have HE : Hid (wchk f t 2 d = 3) := by show _ = _; unfold wchk dpst; rw [if_pos (by simp; omega), if_pos b3]
      subst b3
      go_enter Tryz.func34, Tryz.ntmps34
      go_wp2
      go_ret
      exact ⟨wretI HE.out.symm, hA⟩
    · have b3' : decide (f = t) = false := by simpa using b3
      have HE : Hid (wchk f t 2 d = 0) := by show _ = _; unfold wchk dpst; rw [if_pos (by simp; omega), if_neg b3]
      go_enter Tryz.func34, Tryz.ntmps34
      go_wp2
      go_ret
      exact ⟨wretI HE.out.symm, hA⟩
end Go.Proofs.YtamnfadngbbaeacGreatDoor
namespace Go.Proofs.YtamnfadngbbaeacGreatDoor
open Go.RowKit

set_option maxRecDepth 100000 in
set_option maxHeartbeats 4000000 in
theorem refwires_any (l : List W4) (v : Value) (w : World) (hl : Wrs w v l) :
    Calls Tryz.prog 14 #[v] w fun e w' => e = .returned (.tuple #[.int .i64 (wschk l).1, .int .i64 (wschk l).2]) ∧ Below w.heap.size w w' := by
  obtain ⟨ao, cap, rfl⟩ := hl.form
  have HL : Hid (Wrs w (.slice ao l.length cap) l) := hl
  clear hl
  by_cases h12 : 12 < l.length
  · have h12i : (12 : Int) < (l.length : Int) := by omega
    have HF : Hid (wschk l = (0, 4)) := by show _ = _; unfold wschk; rw [if_pos h12]
    go_enter Tryz.func14, Tryz.ntmps14
    go_wp2
    go_ret2
    rw [HF.out]
    exact ⟨rfl, Below.refl _ _⟩
  · have h12i : decide ((12 : Int) < (l.length : Int)) = false := by simp; omega
    have h12n : decide (12 < l.length) = false := by simp; omega
    have HW : Hid (wschk l = wscan l 0) := by show _ = _; unfold wschk; rw [if_neg h12]
    go_enter Tryz.func14, Tryz.ntmps14
    go_wp2
    go_loopw [4] (fun i wr => ∃ k : Nat, k ≤ l.length ∧ i = .int .i64 k ∧ Hid (∀ j y, j < k → l[j]? = some y → w4chk y = 0) ∧ Below w.heap.size w wr) (fun i _ => l.length - (intOf i).toNat)
    case atStart => exact ⟨0, Nat.zero_le _, rfl, fun j y hj => by omega, Below.refl _ _⟩
    case round =>
      obtain ⟨k, hk, rfl, HS, hb⟩ := hrel
      by_cases hkl : k < l.length
      · have hki : (k : Int) < (l.length : Int) := by omega
        obtain ⟨b, off, f, t, kd, d, rfl, hlt, hx, c0, c1, c2, c3⟩ := HL.out.at hkl
        have HX : Hid (l[k]? = some (f, t, kd, d)) := hx
        replace c0 := (hb.cell (p := ⟨b, _, none⟩) hlt).trans c0
        replace c1 := (hb.cell (p := ⟨b, _, none⟩) hlt).trans c1
        replace c2 := (hb.cell (p := ⟨b, _, none⟩) hlt).trans c2
        replace c3 := (hb.cell (p := ⟨b, _, none⟩) hlt).trans c3
        have hc := refwire_any f t kd d wr
        clear hx
        unfold wV at hc
        by_cases hz : wchk f t kd d = 0
        · have HZ : Hid (w4chk (f, t, kd, d) = 0) := hz
          rw [hz] at hc
          clear hz
          go_wp2_with (go_at_call 34; refine hc.mono ?_; rintro e w1 ⟨rfl, b1⟩; clear hc)
          go_roundw
          case rel =>
            refine ⟨k + 1, by omega, by go_num, fun j y hj hy => ?_, hb.trans (b1.mono hb.size)⟩
            by_cases hjk : j < k
            · exact HS.out j y hjk hy
            · obtain rfl : j = k := by omega
              rw [HX.out] at hy
              obtain rfl := Option.some.inj hy
              exact HZ.out
          case measure => simp [intOf]; omega
        · have HF : Hid (wschk l = ((k : Int), wchk f t kd d)) := by
            show _ = _
            rw [HW.out, wscan_hit HS.out HX.out hz]
            rfl
          have hzb : (wchk f t kd d == 0) = false := by simpa using hz
          obtain ⟨q, hq⟩ : ∃ q, q = wchk f t kd d := ⟨_, rfl⟩
          rw [← hq] at hc hz HF hzb
          clear hq HW
          go_wp2_with (go_at_call 34; refine hc.mono ?_; rintro e w1 ⟨rfl, b1⟩; clear hc)
          go_ret2
          rw [HF.out]
          exact ⟨rfl, hb.trans (b1.mono hb.size)⟩
      · have hki : decide ((k : Int) < (l.length : Int)) = false := by simp; omega
        have hkn : decide (k < l.length) = false := by simp; omega
        have HF : Hid (wschk l = (0, 0)) := by
          show _ = _
          rw [HW.out]
          exact wscan_none (fun j y hj hy => HS.out j y (by omega) hy)
        clear HW
        go_wp2
        go_ret2
        rw [HF.out]
        exact ⟨rfl, hb⟩
end Go.Proofs.YtamnfadngbbaeacGreatDoor

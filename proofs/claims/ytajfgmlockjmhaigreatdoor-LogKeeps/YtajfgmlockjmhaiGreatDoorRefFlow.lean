/-
  frameref1.Wires: the document's word on wires.
-/
import Derived.Test.YtajfgmlockjmhaiGreatDoorJk1
import Derived.Test.YtajfgmlockjmhaiGreatDoorWRefW
namespace Go.Proofs.YtajfgmlockjmhaiGreatDoor
open Go.RowKit

set_option maxRecDepth 100000 in
set_option maxHeartbeats 4000000 in
theorem refwires_any (l : List W4) (v : Value) (w : World) (hl : Wrs w v l) :
    Calls Tryz.prog 55 #[v] w fun e w' => e = .returned (.tuple #[.int .i64 (wschk l).1, .int .i64 (wschk l).2]) ∧ Below w.heap.size w w' := by
  obtain ⟨ao, cap, rfl⟩ := hl.form
  have HL : Hid (Wrs w (.slice ao l.length cap) l) := hl
  clear hl
  by_cases h12 : 12 < l.length
  · have h12i : (12 : Int) < (l.length : Int) := by omega
    have HF : Hid (wschk l = (0, 4)) := by show _ = _; unfold wschk; rw [if_pos h12]
    go_enter Tryz.func55, Tryz.ntmps55
    go_wp2
    go_ret2
    rw [HF.out]
    exact ⟨rfl, Below.refl _ _⟩
  · have h12i : decide ((12 : Int) < (l.length : Int)) = false := by simp; omega
    have h12n : decide (12 < l.length) = false := by simp; omega
    have HW : Hid (wschk l = wscan l 0) := by show _ = _; unfold wschk; rw [if_neg h12]
    go_enter Tryz.func55, Tryz.ntmps55
    go_wp2
    go_loopw [4] (fun i wr => ∃ k : Nat, k ≤ l.length ∧ i = .int .i64 k ∧ Hid (∀ j y, j < k → l[j]? = some y → w4chk y = 0) ∧ Below w.heap.size w wr) (fun i _ => l.length - (intOf i).toNat)
    case atStart => exact ⟨0, Nat.zero_le _, rfl, fun j y hj => by omega, Below.refl _ _⟩
    case round =>
      obtain ⟨k, hk, rfl, HS, hb⟩ := hrel
      by_cases hkl : k < l.length
      · have hki : (k : Int) < (l.length : Int) := by omega
        obtain ⟨b, off, f, t, kd, d, rfl, hlt, hx, c0, c1, c2, c3⟩ := HL.out.at hkl
        have HX : Hid (l[k]? = some (f, t, kd, d)) := hx
        replace c0 := (hb.cell (p := ⟨b, _, none⟩) hlt).trans c0
        replace c1 := (hb.cell (p := ⟨b, _, none⟩) hlt).trans c1
        replace c2 := (hb.cell (p := ⟨b, _, none⟩) hlt).trans c2
        replace c3 := (hb.cell (p := ⟨b, _, none⟩) hlt).trans c3
        have hc := refwire_any f t kd d wr
        clear hx
        unfold wV at hc
        by_cases hz : wchk f t kd d = 0
        · have HZ : Hid (w4chk (f, t, kd, d) = 0) := hz
          rw [hz] at hc
          clear hz
          go_wp2_with (go_at_call 89; refine hc.mono ?_; rintro e w1 ⟨rfl, b1⟩; clear hc)
          go_roundw
          case rel =>
            refine ⟨k + 1, by omega, by go_num, fun j y hj hy => ?_, hb.trans (b1.mono hb.size)⟩
            by_cases hjk : j < k
            · exact HS.out j y hjk hy
            · obtain rfl : j = k := by omega
              rw [HX.out] at hy
              obtain rfl := Option.some.inj hy
              exact HZ.out
          case measure => simp [intOf]; omega
        · have HF : Hid (wschk l = ((k : Int), wchk f t kd d)) := by
            show _ = _
            rw [HW.out, wscan_hit HS.out HX.out hz]
            rfl
          have hzb : (wchk f t kd d == 0) = false := by simpa using hz
          obtain ⟨q, hq⟩ : ∃ q, q = wchk f t kd d := ⟨_, rfl⟩
          rw [← hq] at hc hz HF hzb
          clear hq HW
          go_wp2_with (go_at_call 89; refine hc.mono ?_; rintro e w1 ⟨rfl, b1⟩; clear hc)
          go_ret2
          rw [HF.out]
          exact ⟨rfl, hb.trans (b1.mono hb.size)⟩
      · have hki : decide ((k : Int) < (l.length : Int)) = false := by simp; omega
        have hkn : decide (k < l.length) = false := by simp; omega
        have HF : Hid (wschk l = (0, 0)) := by
          show _ = _
          rw [HW.out]
          exact wscan_none (fun j y hj hy => HS.out j y (by omega) hy)
        clear HW
        go_wp2
        go_ret2
        rw [HF.out]
        exact ⟨rfl, hb⟩
end Go.Proofs.YtajfgmlockjmhaiGreatDoor

/-
  frameref1.Wire: the document's word on a wire.
-/
import Derived.Test.YtajfgmlockjmhaiGreatDoorJk1
namespace Go.Proofs.YtajfgmlockjmhaiGreatDoor
open Go.RowKit

set_option maxRecDepth 100000 in
set_option maxHeartbeats 8000000 in
theorem refwire_any (f t k d : Int) (w : World) : Calls Tryz.prog 89 #[wV f t k d] w fun e w' => e = .returned (.int .i64 (wchk f t k d)) ∧ Below w.heap.size w w' := by
  have hA : Below w.heap.size w (w.alloc (.cells #[.int .i64 f, .int .i64 t, .int .i64 k, .int .i64 d] 89)) := (Below.refl _ _).alloc (Nat.le_refl _) _
  unfold wV
  by_cases a1 : f < 0
  · have HE : Hid (wchk f t k d = 1) := by show _ = _; unfold wchk dpst; rw [if_neg (by intro h; split at h <;> (try split at h) <;> omega)]
    go_enter Tryz.func89, Tryz.ntmps89
    go_wp2
    go_ret
    exact ⟨wretI HE.out.symm, hA⟩
  have a1' : decide (f < 0) = false := by simpa using a1
  by_cases a2 : 4 < f
  · have HE : Hid (wchk f t k d = 1) := by show _ = _; unfold wchk dpst; rw [if_neg (by intro h; split at h <;> (try split at h) <;> omega)]
    go_enter Tryz.func89, Tryz.ntmps89
    go_wp2
    go_ret
    exact ⟨wretI HE.out.symm, hA⟩
  have a2' : decide (4 < f) = false := by simpa using a2
  by_cases a3 : t < 0
  · have HE : Hid (wchk f t k d = 1) := by show _ = _; unfold wchk dpst; rw [if_neg (by intro h; split at h <;> (try split at h) <;> omega)]
    go_enter Tryz.func89, Tryz.ntmps89
    go_wp2
    go_ret
    exact ⟨wretI HE.out.symm, hA⟩
  have a3' : decide (t < 0) = false := by simpa using a3
  by_cases a4 : 4 < t
  · have HE : Hid (wchk f t k d = 1) := by show _ = _; unfold wchk dpst; rw [if_neg (by intro h; split at h <;> (try split at h) <;> omega)]
    go_enter Tryz.func89, Tryz.ntmps89
    go_wp2
    go_ret
    exact ⟨wretI HE.out.symm, hA⟩
  have a4' : decide (4 < t) = false := by simpa using a4
  by_cases a5 : k < 1
  · have HE : Hid (wchk f t k d = 1) := by show _ = _; unfold wchk dpst; rw [if_neg (by intro h; split at h <;> (try split at h) <;> omega)]
    go_enter Tryz.func89, Tryz.ntmps89
    go_wp2
    go_ret
    exact ⟨wretI HE.out.symm, hA⟩
  have a5' : decide (k < 1) = false := by simpa using a5
  by_cases a6 : 2 < k
  · have HE : Hid (wchk f t k d = 1) := by show _ = _; unfold wchk dpst; rw [if_neg (by intro h; split at h <;> (try split at h) <;> omega)]
    go_enter Tryz.func89, Tryz.ntmps89
    go_wp2
    go_ret
    exact ⟨wretI HE.out.symm, hA⟩
  have a6' : decide (2 < k) = false := by simpa using a6
  by_cases a7 : d < 1
  · have HE : Hid (wchk f t k d = 1) := by show _ = _; unfold wchk dpst; rw [if_neg (by intro h; split at h <;> (try split at h) <;> omega)]
    go_enter Tryz.func89, Tryz.ntmps89
    go_wp2
    go_ret
    exact ⟨wretI HE.out.symm, hA⟩
  have a7' : decide (d < 1) = false := by simpa using a7
  by_cases a8 : 6 < d
  · have HE : Hid (wchk f t k d = 1) := by show _ = _; unfold wchk dpst; rw [if_neg (by intro h; split at h <;> (try split at h) <;> omega)]
    go_enter Tryz.func89, Tryz.ntmps89
    go_wp2
    go_ret
    exact ⟨wretI HE.out.symm, hA⟩
  have a8' : decide (6 < d) = false := by simpa using a8
  by_cases b1 : k = 1
  · subst b1
    by_cases b2 : d = 1
    · subst b2
      by_cases b3 : f = t
      · have HE : Hid (wchk f t 1 1 = 3) := by show _ = _; unfold wchk dpst; rw [if_pos (by simp; omega), if_pos b3]
        subst b3
        go_enter Tryz.func89, Tryz.ntmps89
        go_wp2
        go_ret
        exact ⟨wretI HE.out.symm, hA⟩
      · have b3' : decide (f = t) = false := by simpa using b3
        have HE : Hid (wchk f t 1 1 = 0) := by show _ = _; unfold wchk dpst; rw [if_pos (by simp; omega), if_neg b3]
        go_enter Tryz.func89, Tryz.ntmps89
        go_wp2
        go_ret
        exact ⟨wretI HE.out.symm, hA⟩
    · have b2' : decide (d = 1) = false := by simpa using b2
      have HE : Hid (wchk f t 1 d = 1) := by show _ = _; unfold wchk dpst; rw [if_neg (by simp; omega)]
      go_enter Tryz.func89, Tryz.ntmps89
      go_wp2
      go_ret
      exact ⟨wretI HE.out.symm, hA⟩
  · obtain rfl : k = 2 := by omega
    by_cases b3 : f = t
    · have HE : Hid (wchk f t 2 d = 3) := by show _ = _; unfold wchk dpst; rw [if_pos (by simp; omega), if_pos b3]
      subst b3
      go_enter Tryz.func89, Tryz.ntmps89
      go_wp2
      go_ret
      exact ⟨wretI HE.out.symm, hA⟩
    · have b3' : decide (f = t) = false := by simpa using b3
      have HE : Hid (wchk f t 2 d = 0) := by show _ = _; unfold wchk dpst; rw [if_pos (by simp; omega), if_neg b3]
      go_enter Tryz.func89, Tryz.ntmps89
      go_wp2
      go_ret
      exact ⟨wretI HE.out.symm, hA⟩
end Go.Proofs.YtajfgmlockjmhaiGreatDoor

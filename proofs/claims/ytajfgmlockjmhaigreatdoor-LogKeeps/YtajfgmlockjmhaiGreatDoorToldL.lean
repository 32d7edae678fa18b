/-
  plain.Told, framesame.Error: of nil, and of an Errno.
-/
import Derived.Test.YtajfgmlockjmhaiGreatDoorAsL
namespace Go.Proofs.YtajfgmlockjmhaiGreatDoor
open Go.RowKit

set_option maxRecDepth 100000 in
set_option maxHeartbeats 4000000 in
theorem told_nil (w : World) : Calls Tryz.prog 47 #[.nilIface] w fun e w' => e = .returned (.int .i64 0) ∧ Below w.heap.size w w' := by
  go_enter Tryz.func47, Tryz.ntmps47
  go_wp2
  go_ret
  exact ⟨rfl, Below.refl _ _⟩
set_option maxRecDepth 100000 in
set_option maxHeartbeats 4000000 in
theorem told_errno (n : Int) (w : World) (hg : ErrT w) : Calls Tryz.prog 47 #[.iface 93 (.int .i64 n)] w fun e w' => e = .returned (.int .i64 n) ∧ Below w.heap.size w w' := by
  have b0 : Below w.heap.size w (w.alloc (.cells #[.int .i64 0] 93)) := (Below.refl _ _).alloc (Nat.le_refl _) _
  have h := as_hit n ⟨w.heap.size, 0, none⟩ (.int .i64 0) (w.alloc (.cells #[.int .i64 0] 93)) (hg.all b0) (by simp) (by simp)
  go_enter Tryz.func47, Tryz.ntmps47
  go_wp2_with (go_at_call 85; refine h.mono ?_; rintro e w1 ⟨rfl, w0, rfl, c0, f0, bb⟩; clear h)
  go_ret
  exact ⟨rfl, (b0.trans (bb.mono b0.size)).setCell (p := ⟨w.heap.size, 0, none⟩) (Nat.le_refl _) _⟩
theorem told_any (e : Int) (w : World) (hg : ErrT w) : Calls Tryz.prog 47 #[wErr e] w fun r w' => r = .returned (.int .i64 e) ∧ Below w.heap.size w w' := by
  by_cases h : e = 0
  · subst h
    exact told_nil w
  · rw [show wErr e = .iface 93 (.int .i64 e) from by simp [wErr, h]]
    exact told_errno e w hg
set_option maxRecDepth 100000 in
set_option maxHeartbeats 4000000 in
theorem error_any (e k : Int) (w : World) (hg : ErrT w) : Calls Tryz.prog 15 #[wErr e, .int .i64 k] w fun r w' => r = .returned (.bool (decide (e = k))) ∧ Below w.heap.size w w' := by
  have h := told_any e w hg
  obtain ⟨v, hv⟩ : ∃ v, v = wErr e := ⟨_, rfl⟩
  rw [← hv] at h ⊢
  clear hv
  go_enter Tryz.func15, Tryz.ntmps15
  go_wp2_with (go_at_call 47; refine h.mono ?_; rintro e w1 ⟨rfl, bb⟩; clear h)
  go_ret
  exact ⟨wretB (by rw [Bool.eq_iff_iff]; simp), bb⟩
end Go.Proofs.YtajfgmlockjmhaiGreatDoor

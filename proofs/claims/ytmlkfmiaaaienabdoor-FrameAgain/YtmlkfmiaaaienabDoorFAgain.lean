/-
  The law FrameAgain: the walk.
-/
import Derived.Test.YtmlkfmiaaaienabDoorFGap2
import Derived.Test.YtmlkfmiaaaienabDoorFShares
import Derived.Test.YtmlkfmiaaaienabDoorTold
namespace Go.Proofs.YtmlkfmiaaaienabDoor
open Go.RowKit

theorem one_sps (w : World) (T : TypeId) : Sps (w.alloc (.cells #[.int .i64 1, .int .i64 3, .int .i64 2] T)) (.slice (some ⟨w.heap.size, 0, none⟩) 1 1) [(1, 3, 2)] :=
  Or.inr ⟨w.heap.size, 0, 1, rfl, Nat.le_refl _, by simp, fun i o ho => by
    match i, ho with
    | 0, ho => simp at ho; subst ho; simp
    | i + 1, ho => simp at ho⟩
theorem one_six : whoR 4 [(1, 3, 2)] 6 = (2, 0) := by decide +kernel
theorem one_three : whoR 4 [(1, 3, 2)] 3 = (-1, 0) := by decide +kernel
/-- The two calls that the law begins with. -/
theorem again_one (w W : World) (hb : Below (w.heap.size + 1) (w.alloc (.cells #[.int .i64 1, .int .i64 3, .int .i64 2] 48)) W) :
    Calls Tryd.prog 12 #[.int .i64 4, .slice (some ⟨w.heap.size, 0, none⟩) 1 1, .int .i64 6] W (fun ev w' => ev = .returned (.tuple #[.int .i64 2, .nilIface]) ∧ Below W.heap.size W w') ∧
    Calls Tryd.prog 12 #[.int .i64 4, .slice (some ⟨w.heap.size, 0, none⟩) 1 1, .int .i64 3] W (fun ev w' => ev = .returned (.tuple #[.int .i64 (-1), .nilIface]) ∧ Below W.heap.size W w') := by
  have hs : Sps W (.slice (some ⟨w.heap.size, 0, none⟩) 1 1) [(1, 3, 2)] := (one_sps w _).all (by simpa using hb)
  have h1 := who_any 4 [(1, 3, 2)] _ 6 W hs
  have h2 := who_any 4 [(1, 3, 2)] _ 3 W hs
  rw [one_six] at h1
  rw [one_three] at h2
  exact ⟨h1, h2⟩

set_option maxRecDepth 100000 in
set_option maxHeartbeats 4000000 in
theorem again_out (n : Int) (v : Value) (t r : Int) (w : World) (h : t < 0 ∨ 1000000 < t) :
    Calls Tryd.prog 5 #[.int .i64 n, v, .int .i64 t, .int .i64 r] w fun ev w' => ev = .returned (.bool true) ∧ Below w.heap.size w w' := by
  have bA : Below w.heap.size w (w.alloc (.cells #[.int .i64 1, .int .i64 3, .int .i64 2] 48)) := (Below.refl _ _).alloc (Nat.le_refl _) _
  have h1 := (again_one w _ (Below.refl _ _)).1
  have H2 : Hid (∀ W, Below (w.heap.size + 1) (w.alloc (.cells #[.int .i64 1, .int .i64 3, .int .i64 2] 48)) W → Calls Tryd.prog 12 #[.int .i64 4, .slice (some ⟨w.heap.size, 0, none⟩) 1 1, .int .i64 3] W (fun ev w' => ev = .returned (.tuple #[.int .i64 (-1), .nilIface]) ∧ Below W.heap.size W w')) := fun W hb => (again_one w W hb).2
  by_cases ht : t < 0
  · go_enter Tryd.func5, Tryd.ntmps5
    go_wp2_with (first | (go_at_call 12; refine h1.mono ?_; rintro e w1 ⟨rfl, b1⟩; clear h1; have h2 := H2.out w1 (by simpa using b1); clear H2) | (go_at_call 12; refine h2.mono ?_; rintro e w2 ⟨rfl, b2⟩; clear h2))
    go_ret
    exact ⟨rfl, (bA.trans (b1.mono bA.size)).trans (b2.mono (bA.trans (b1.mono bA.size)).size)⟩
  · have ht' : decide (t < 0) = false := by simpa using ht
    have ht2 : 1000000 < t := by omega
    go_enter Tryd.func5, Tryd.ntmps5
    go_wp2_with (first | (go_at_call 12; refine h1.mono ?_; rintro e w1 ⟨rfl, b1⟩; clear h1; have h2 := H2.out w1 (by simpa using b1); clear H2) | (go_at_call 12; refine h2.mono ?_; rintro e w2 ⟨rfl, b2⟩; clear h2))
    go_ret
    exact ⟨rfl, (bA.trans (b1.mono bA.size)).trans (b2.mono (bA.trans (b1.mono bA.size)).size)⟩

set_option maxRecDepth 100000 in
set_option maxHeartbeats 4000000 in
theorem again_bad (n : Int) (v : Value) (t r k e : Int) (w : World) (ht0 : 0 ≤ t) (ht1 : t ≤ 1000000) (he : e ≠ 0)
    (hk : ∀ W, Below w.heap.size w W → Calls Tryd.prog 12 #[.int .i64 n, v, .int .i64 t] W fun ev w' => ev = .returned (.tuple #[.int .i64 k, fErr e]) ∧ Below W.heap.size W w') :
    Calls Tryd.prog 5 #[.int .i64 n, v, .int .i64 t, .int .i64 r] w fun ev w' => ev = .returned (.bool true) ∧ Below w.heap.size w w' := by
  rw [fErr_not he] at hk
  have HK : Hid (∀ W, Below w.heap.size w W → Calls Tryd.prog 12 #[.int .i64 n, v, .int .i64 t] W fun ev w' => ev = .returned (.tuple #[.int .i64 k, .iface 51 (.int .i64 e)]) ∧ Below W.heap.size W w') := hk
  clear hk
  have bA : Below w.heap.size w (w.alloc (.cells #[.int .i64 1, .int .i64 3, .int .i64 2] 48)) := (Below.refl _ _).alloc (Nat.le_refl _) _
  have h1 := (again_one w _ (Below.refl _ _)).1
  have H2 : Hid (∀ W, Below (w.heap.size + 1) (w.alloc (.cells #[.int .i64 1, .int .i64 3, .int .i64 2] 48)) W → Calls Tryd.prog 12 #[.int .i64 4, .slice (some ⟨w.heap.size, 0, none⟩) 1 1, .int .i64 3] W (fun ev w' => ev = .returned (.tuple #[.int .i64 (-1), .nilIface]) ∧ Below W.heap.size W w')) := fun W hb => (again_one w W hb).2
  have t0 : decide (t < 0) = false := by simp; omega
  have t1 : decide (1000000 < t) = false := by simp; omega
  go_enter Tryd.func5, Tryd.ntmps5
  go_wp2_with (first | (go_at_call 12; refine h1.mono ?_; rintro e w1 ⟨rfl, b1⟩; clear h1; have h2 := H2.out w1 (by simpa using b1); clear H2) | (go_at_call 12; refine h2.mono ?_; rintro e w2 ⟨rfl, b2⟩; clear h2; have bw2 := (bA.trans (b1.mono bA.size)).trans (b2.mono (bA.trans (b1.mono bA.size)).size); have h3 := HK.out w2 bw2; clear HK) | (go_at_call 12; refine h3.mono ?_; rintro e w3 ⟨rfl, b3⟩; clear h3))
  go_ret
  exact ⟨rfl, bw2.trans (b3.mono bw2.size)⟩
end Go.Proofs.YtmlkfmiaaaienabDoor

/-
  The law FlowUp: where Reach refuses.
-/
import Derived.Test.YtpbdfcfifkonkacFUp0
namespace Go.Proofs.Ytpbdfcfifkonkac
open Go.RowKit

/-- The wire that the law lays first. -/
def oneW : List W4 := [(0, 1, 1, 1)]
theorem one_wrs (W : World) : Wrs (W.alloc (.cells #[.int .i64 0, .int .i64 1, .int .i64 1, .int .i64 1] 25)) (.slice (some ⟨W.heap.size, 0, none⟩) 1 1) oneW := by
  refine Or.inr ⟨W.heap.size, 0, 1, rfl, Nat.le_refl _, by simp, fun i x hx => ?_⟩
  match i, hx with
  | 0, hx =>
    simp [oneW] at hx
    subst hx
    simp
  | i + 1, hx => simp [oneW] at hx
theorem one_wrs_at {W : World} {k : Nat} (hk : k = W.heap.size) : Wrs (W.alloc (.cells #[.int .i64 0, .int .i64 1, .int .i64 1, .int .i64 1] 25)) (.slice (some ⟨k, 0, none⟩) 1 1) oneW := by
  subst hk
  exact one_wrs W
theorem one_ok : (wschk oneW).2 = 0 := by decide
theorem one_fact (v : Value) (W : World) (h : Wrs W v oneW) : Calls Try.prog 5 #[v, .int .i64 0, .int .i64 1] W fun e w' => e = .returned (.tuple #[.bool true, .nilIface]) ∧ Below W.heap.size W w' := by
  have := reach_ok oneW v 0 1 W h one_ok (by decide) (by decide)
  rw [show way oneW 0 1 = true from by decide] at this
  exact this
theorem one_back (v : Value) (W : World) (h : Wrs W v oneW) : Calls Try.prog 5 #[v, .int .i64 1, .int .i64 0] W fun e w' => e = .returned (.tuple #[.bool false, .nilIface]) ∧ Below W.heap.size W w' := by
  have := reach_ok oneW v 1 0 W h one_ok (by decide) (by decide)
  rw [show way oneW 1 0 = false from by decide] at this
  exact this

set_option maxRecDepth 100000 in
set_option maxHeartbeats 4000000 in
theorem up_first (l : List W4) (v u : Value) (a b c f t kd d : Int) (w : World) (hl : Wrs w v l) (hu : ∃ ao n cap, u = .slice ao n cap) (h : rchE l a b ≠ 0) :
    Calls Try.prog 3 #[v, .int .i64 a, .int .i64 b, .int .i64 c, u, wV f t kd d] w fun e w' => e = .returned (.bool true) ∧ Below w.heap.size w w' := by
  obtain ⟨lo, ln, lc, rfl⟩ := hu
  unfold wV
  have HO : Hid (∀ k W, k = (w.alloc (.cells #[.int .i64 f, .int .i64 t, .int .i64 kd, .int .i64 d] 25)).heap.size → Below ((w.alloc (.cells #[.int .i64 f, .int .i64 t, .int .i64 kd, .int .i64 d] 25)).alloc (.cells #[.int .i64 0, .int .i64 1, .int .i64 1, .int .i64 1] 25)).heap.size ((w.alloc (.cells #[.int .i64 f, .int .i64 t, .int .i64 kd, .int .i64 d] 25)).alloc (.cells #[.int .i64 0, .int .i64 1, .int .i64 1, .int .i64 1] 25)) W → Wrs W (.slice (some ⟨k, 0, none⟩) 1 1) oneW) := fun k W hk hb => (one_wrs_at hk).all hb
  have HR : Hid (∀ a b W, Below w.heap.size w W → Calls Try.prog 5 #[v, .int .i64 a, .int .i64 b] W fun e w' => e = .returned (.tuple #[.bool (rchB l a b), wErr (rchE l a b)]) ∧ Below W.heap.size W w') := fun a b W hb => reach_any l v a b W (hl.all hb)
  have HR1 : Hid (∀ W, Below w.heap.size w W → Calls Try.prog 5 #[v, .int .i64 a, .int .i64 b] W fun e w' => e = .returned (.tuple #[.bool (rchB l a b), .iface 37 (.int .i64 (rchE l a b))]) ∧ Below W.heap.size W w') := fun W hb => by
    rw [← wErr_not h]
    exact reach_any l v a b W (hl.all hb)
  have BA : Below w.heap.size w ((w.alloc (.cells #[.int .i64 f, .int .i64 t, .int .i64 kd, .int .i64 d] 25)).alloc (.cells #[.int .i64 0, .int .i64 1, .int .i64 1, .int .i64 1] 25)) := ((Below.refl _ _).alloc (Nat.le_refl _) _).alloc (by simp) _
  obtain ⟨ao, cap, rfl⟩ := hl.form
  have q1 := fun k hk => one_fact _ _ (HO.out k _ hk (Below.refl _ _))
  clear hl h
  go_enter Try.func3, Try.ntmps3
  go_wp2_with (first
    | (go_at_call 5; refine (q1 _ (by simp)).mono ?_; rintro e w1 ⟨rfl, b1⟩; clear q1; have B1 := BA.trans (b1.mono BA.size); have q2 := fun k hk => one_back _ _ (HO.out k w1 hk b1); clear HO)
    | (go_at_call 5; refine (q2 _ (by simp)).mono ?_; rintro e w2 ⟨rfl, b2⟩; clear q2; have B2 := B1.trans (b2.mono B1.size); have q3 := HR1.out w2 B2; clear HR1)
    | (go_at_call 5; refine q3.mono ?_; rintro e w3 ⟨rfl, b3⟩; clear q3; have B3 := B2.trans (b3.mono B2.size); have q4 := HR.out b c w3 B3)
    | (go_at_call 5; refine q4.mono ?_; rintro e w4 ⟨rfl, b4⟩; clear q4; have B4 := B3.trans (b4.mono B3.size); have q5 := HR.out a c w4 B4)
    | (go_at_call 5; refine q5.mono ?_; rintro e w5 ⟨rfl, b5⟩; clear q5; have B5 := B4.trans (b5.mono B4.size); have q6 := HR.out a a w5 B5)
    | (go_at_call 5; refine q6.mono ?_; rintro e w6 ⟨rfl, b6⟩; clear q6; have B6 := B5.trans (b6.mono B5.size)))
  go_ret
  exact ⟨rfl, B6⟩
end Go.Proofs.Ytpbdfcfifkonkac

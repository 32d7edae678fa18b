/-
  The law FlowTells: what its walks ask alike; wires that are wrong.
-/
import Derived.Test.YtpbdfcfifkonkacDoorFlAhead
import Derived.Test.YtpbdfcfifkonkacDoorFlLevels
import Derived.Test.YtpbdfcfifkonkacDoorRefFlow
import Derived.Test.YtpbdfcfifkonkacDoorRefWays
import Derived.Test.YtpbdfcfifkonkacDoorIntsL
import Derived.Test.YtpbdfcfifkonkacDoorToldL
namespace Go.Proofs.YtpbdfcfifkonkacDoor
open Go.RowKit

theorem Stp.every {w w' : World} {v : Value} {l : List Int} (h : Stp w v l) (hb : Below w.heap.size w w') : Stp w' v l := by
  rcases h with h | ⟨b, off, cap, rfl, hlt, hc⟩
  · exact Or.inl h
  · exact Or.inr ⟨b, off, cap, rfl, Nat.lt_of_lt_of_le hlt hb.size, fun i x hx => (hb.cell (p := ⟨b, _, none⟩) hlt).trans (hc i x hx)⟩
theorem error_same (e : Int) (w : World) (hg : ErrT w) : Calls Tryd.prog 6 #[wErr e, .int .i64 e] w fun r w' => r = .returned (.bool true) ∧ Below w.heap.size w w' := by
  have := error_any e e w hg
  rw [decide_eq_true rfl] at this
  exact this
theorem error_nil (w : World) (hg : ErrT w) : Calls Tryd.prog 6 #[.nilIface, .int .i64 0] w fun r w' => r = .returned (.bool true) ∧ Below w.heap.size w w' := error_same 0 w hg
theorem error_it {e : Int} (he : e ≠ 0) (w : World) (hg : ErrT w) : Calls Tryd.prog 6 #[.iface 61 (.int .i64 e), .int .i64 e] w fun r w' => r = .returned (.bool true) ∧ Below w.heap.size w w' := by
  have := error_same e w hg
  rw [wErr_not he] at this
  exact this
/-- Wires that are wrong are some. -/
theorem bad_some {l : List W4} (h : (wschk l).2 ≠ 0) : 0 < l.length := by
  cases l with
  | nil => exact absurd (by decide) h
  | cons x l => simp

set_option maxRecDepth 100000 in
set_option maxHeartbeats 8000000 in
theorem tells_bad (l : List W4) (v u : Value) (lv : List Int) (a b : Int) (w : World) (hg : ErrT w) (hl : Wrs w v l) (hu : Stp w u lv) (h : (wschk l).2 ≠ 0) :
    Calls Tryd.prog 4 #[v, .int .i64 a, .int .i64 b, u] w fun e w' => e = .returned (.bool true) ∧ Below w.heap.size w w' := by
  have hw := refwires_any l v w hl
  have HC : Hid (∀ W, Below w.heap.size w W → Calls Tryd.prog 17 #[v] W fun e w' => e = .returned (.tuple #[.int .i64 (wschk l).1, .iface 61 (.int .i64 (wschk l).2)]) ∧ Below W.heap.size W w') := fun W hb => by
    rw [← wErr_not h]
    exact flcheck_any l v W (hl.all hb)
  have HX : Hid (∀ W, Below w.heap.size w W → Calls Tryd.prog 6 #[.iface 61 (.int .i64 (wschk l).2), .int .i64 (wschk l).2] W fun r w' => r = .returned (.bool true) ∧ Below W.heap.size W w') := fun W hb => error_it h W (hg.all hb)
  have HR : Hid (∀ W, Below w.heap.size w W → Calls Tryd.prog 19 #[v, .int .i64 a, .int .i64 b] W fun e w' => e = .returned (.tuple #[.bool false, .iface 61 (.int .i64 (wschk l).2)]) ∧ Below W.heap.size W w') := fun W hb => reach_bad l v a b W (hl.all hb) h
  have HA : Hid (∀ W, Below w.heap.size w W → Calls Tryd.prog 20 #[v, .int .i64 b] W fun e w' => e = .returned (.tuple #[.slice none 0 0, .iface 61 (.int .i64 (wschk l).2)]) ∧ Below W.heap.size W w') := fun W hb => ahead_bad l v b W (hl.all hb) h
  have HI : Hid (∀ W, Calls Tryd.prog 21 #[.slice none 0 0, .slice none 0 0] W fun e w' => e = .returned (.bool true) ∧ Below W.heap.size W w') := fun W => wints_nil none none 0 0 W
  have HV : Hid (∀ W, Below w.heap.size w W → Calls Tryd.prog 22 #[v, u] W fun e w' => e = .returned (.iface 61 (.int .i64 (wschk l).2)) ∧ Below W.heap.size W w') := fun W hb => by
    have := levels_any l lv v u W (hl.all hb) (hu.every hb)
    rw [lvE_bad h, wErr_not h] at this
    exact this
  have h0 : (0 : Int) < (l.length : Int) := by have := bad_some h; omega
  have h0n : 0 < l.length := bad_some h
  obtain ⟨ao, cap, rfl⟩ := hl.form
  obtain ⟨lo, lc, rfl⟩ := hu.form
  have hqb : ((wschk l).2 == 0) = false := by simpa using h
  have hqd : decide ((wschk l).2 = 0) = false := by simpa using h
  generalize (wschk l).2 = q at *
  generalize (wschk l).1 = p at *
  clear hl hu hg
  go_enter Tryd.func4, Tryd.ntmps4
  go_wp2_with (first
    | (go_at_call 16; refine hw.mono ?_; rintro e w1 ⟨rfl, B1⟩; clear hw; have q2 := HC.out w1 B1; clear HC)
    | (go_at_call 17; refine q2.mono ?_; rintro e w2 ⟨rfl, b2⟩; clear q2; have B2 := B1.trans (b2.mono B1.size); clear b2; have q3 := HX.out w2 B2)
    | (go_at_call 6; refine q3.mono ?_; rintro e w3 ⟨rfl, b3⟩; clear q3; have B3 := B2.trans (b3.mono B2.size); clear b3; have q4 := HR.out w3 B3; clear HR)
    | (go_at_call 19; refine q4.mono ?_; rintro e w4 ⟨rfl, b4⟩; clear q4; have B4 := B3.trans (b4.mono B3.size); clear b4; have q5 := HX.out w4 B4)
    | (go_at_call 6; refine q5.mono ?_; rintro e w5 ⟨rfl, b5⟩; clear q5; have B5 := B4.trans (b5.mono B4.size); clear b5))
  refine wp_loop_rounds 1 ?_
  rw [rounds_succ]
  have q6 := HA.out w5 B5
  clear HA
  go_wp2_with (first
    | (go_at_call 20; refine q6.mono ?_; rintro e w6 ⟨rfl, b6⟩; clear q6; have B6 := B5.trans (b6.mono B5.size); clear b6; have q7 := HX.out w6 B6)
    | (go_at_call 6; refine q7.mono ?_; rintro e w7 ⟨rfl, b7⟩; clear q7; have B7 := B6.trans (b7.mono B6.size); clear b7; have q8 := HI.out w7; clear HI)
    | (go_at_call 21; refine q8.mono ?_; rintro e w8 ⟨rfl, b8⟩; clear q8; have B8 := B7.trans (b8.mono B7.size); clear b8))
  refine wp_loop_rounds 1 ?_
  rw [rounds_succ]
  have q9 := HV.out w8 B8
  clear HV
  go_wp2_with (first
    | (go_at_call 22; refine q9.mono ?_; rintro e w9 ⟨rfl, b9⟩; clear q9; have B9 := B8.trans (b9.mono B8.size); clear b9; have q10 := HX.out w9 B9)
    | (go_at_call 6; refine q10.mono ?_; rintro e w10 ⟨rfl, b10⟩; clear q10; have B10 := B9.trans (b10.mono B9.size); clear b10))
  go_ret
  exact ⟨rfl, B10⟩
end Go.Proofs.YtpbdfcfifkonkacDoor

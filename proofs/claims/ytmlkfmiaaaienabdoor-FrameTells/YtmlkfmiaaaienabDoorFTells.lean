/-
  The law FrameTells: of a frame that is wrong.
-/
import Derived.Test.YtmlkfmiaaaienabDoorFInts
import Derived.Test.YtmlkfmiaaaienabDoorFGap2
import Derived.Test.YtmlkfmiaaaienabDoorRefFrame2
import Derived.Test.YtmlkfmiaaaienabDoorTold
namespace Go.Proofs.YtmlkfmiaaaienabDoor
open Go.RowKit

/-- What the law asks of a frame that is wrong, in any world behind. -/
structure WrongK (n : Int) (k e : Int) (v : Value) (t r : Int) (w : World) : Prop where
  ref : ∀ W, Below w.heap.size w W → Calls Tryd.prog 8 #[.int .i64 n, v] W fun ev w' => ev = .returned (.tuple #[.int .i64 k, .int .i64 e]) ∧ Below W.heap.size W w'
  chk : ∀ W, Below w.heap.size w W → Calls Tryd.prog 9 #[.int .i64 n, v] W fun ev w' => ev = .returned (.tuple #[.int .i64 k, .iface 51 (.int .i64 e)]) ∧ Below W.heap.size W w'
  err : ∀ W, Below w.heap.size w W → Calls Tryd.prog 10 #[.iface 51 (.int .i64 e), .int .i64 e] W fun ev w' => ev = .returned (.bool true) ∧ Below W.heap.size W w'
  who : ∀ W, Below w.heap.size w W → Calls Tryd.prog 12 #[.int .i64 n, v, .int .i64 t] W fun ev w' => ev = .returned (.tuple #[.int .i64 0, .iface 51 (.int .i64 e)]) ∧ Below W.heap.size W w'
  shares : ∀ W, Below w.heap.size w W → Calls Tryd.prog 13 #[.int .i64 n, v] W fun ev w' => ev = .returned (.tuple #[.slice none 0 0, .iface 51 (.int .i64 e)]) ∧ Below W.heap.size W w'
  ints : ∀ W, Below w.heap.size w W → Calls Tryd.prog 14 #[.slice none 0 0, .slice none 0 0] W fun ev w' => ev = .returned (.bool true) ∧ Below W.heap.size W w'
  gap : ∀ W, Below w.heap.size w W → Calls Tryd.prog 15 #[.int .i64 n, v, .int .i64 r] W fun ev w' => ev = .returned (.tuple #[.int .i64 0, .iface 51 (.int .i64 e)]) ∧ Below W.heap.size W w'
theorem WrongK.mk' (n : Int) (l : List S3) (v : Value) (t r : Int) (w : World) (hg : ErrT w) (hl : Sps w v l) (h : (fchk n l).2 ≠ 0) : WrongK n (fchk n l).1 (fchk n l).2 v t r w where
  ref := fun W hb => refframe_any n l v W (hl.all hb)
  chk := fun W hb => by
    have := fcheck_any n l v W (hl.all hb)
    rwa [fErr_not h] at this
  err := fun W hb => by
    have := error_any (fchk n l).2 (fchk n l).2 W (hg.all hb)
    rw [show errV (fchk n l).2 = .iface 51 (.int .i64 (fchk n l).2) from by simp [errV, h]] at this
    simpa using this
  who := fun W hb => by
    have := who_any n l v t W (hl.all hb)
    rwa [show whoR n l t = (0, (fchk n l).2) from by unfold whoR; rw [if_neg h], fErr_not h] at this
  shares := fun W hb => (shares_any n l v W (hl.all hb)).mono fun ev w' ⟨h1, hb1⟩ => by
    rcases h1 with ⟨_, h1⟩ | ⟨h0, _⟩
    · rw [fErr_not h] at h1
      exact ⟨h1, hb1⟩
    · exact absurd h0 h
  ints := fun W _ => fints_nil W
  gap := fun W hb => by
    have := gap_any n l v r W (hl.all hb)
    rwa [show gapR n l r = (0, (fchk n l).2) from by unfold gapR; rw [if_neg h], fErr_not h] at this

set_option maxRecDepth 1000000 in
set_option maxHeartbeats 8000000 in
theorem ftells_wrong (n k e : Int) (ao : Option Addr) (m cap : Nat) (t r : Int) (w : World) (he : e ≠ 0) (K : WrongK n k e (.slice ao m cap) t r w) :
    Calls Tryd.prog 4 #[.int .i64 n, .slice ao m cap, .int .i64 t, .int .i64 r] w fun ev w' => ev = .returned (.bool true) ∧ Below w.heap.size w w' := by
  have HK : Hid (WrongK n k e (.slice ao m cap) t r w) := K
  have h1 := K.ref w (Below.refl _ _)
  clear K
  have he' : (e == 0) = false := by simpa using he
  by_cases hn : 0 < n
  · have hn' : decide (0 < n) = true := by simpa using hn
    go_enter Tryd.func4, Tryd.ntmps4
    go_wp2_with (first | (go_at_call 8; refine h1.mono ?_; rintro ev w1 ⟨rfl, b1⟩; clear h1; have h2 := HK.out.chk w1 b1) | (go_at_call 9; refine h2.mono ?_; rintro ev w2 ⟨rfl, b2⟩; clear h2; have bw2 := b1.trans (b2.mono b1.size); have h3 := HK.out.err w2 bw2) | (go_at_call 10; refine h3.mono ?_; rintro ev w3 ⟨rfl, b3⟩; clear h3; have bw3 := bw2.trans (b3.mono bw2.size); have h5 := HK.out.who w3 bw3) | (go_at_call 12; refine h5.mono ?_; rintro ev w5 ⟨rfl, b5⟩; clear h5; have bw5 := bw3.trans (b5.mono bw3.size); have h6 := HK.out.err w5 bw5) | (go_at_call 10; refine h6.mono ?_; rintro ev w6 ⟨rfl, b6⟩; clear h6; have bw6 := bw5.trans (b6.mono bw5.size); have h8 := HK.out.shares w6 bw6))
    refine wp_loop_rounds 1 ?_
    rw [rounds_succ]
    go_wp2_with (first | (go_at_call 13; refine h8.mono ?_; rintro ev w8 ⟨rfl, b8⟩; clear h8; have bw8 := bw6.trans (b8.mono bw6.size); have h9 := HK.out.err w8 bw8) | (go_at_call 10; refine h9.mono ?_; rintro ev w9 ⟨rfl, b9⟩; clear h9; have bw9 := bw8.trans (b9.mono bw8.size); have h10 := HK.out.ints w9 bw9) | (go_at_call 14; refine h10.mono ?_; rintro ev w10 ⟨rfl, b10⟩; clear h10; have bw10 := bw9.trans (b10.mono bw9.size); have h11 := HK.out.gap w10 bw10))
    refine wp_loop_rounds 1 ?_
    rw [rounds_succ]
    go_wp2_with (first | (go_at_call 15; refine h11.mono ?_; rintro ev w11 ⟨rfl, b11⟩; clear h11; have bw11 := bw10.trans (b11.mono bw10.size); have h12 := HK.out.err w11 bw11) | (go_at_call 10; refine h12.mono ?_; rintro ev w12 ⟨rfl, b12⟩; clear h12))
    go_ret
    exact ⟨rfl, bw11.trans (b12.mono bw11.size)⟩
  · have hn' : decide (0 < n) = false := by simpa using hn
    go_enter Tryd.func4, Tryd.ntmps4
    go_wp2_with (first | (go_at_call 8; refine h1.mono ?_; rintro ev w1 ⟨rfl, b1⟩; clear h1; have h2 := HK.out.chk w1 b1) | (go_at_call 9; refine h2.mono ?_; rintro ev w2 ⟨rfl, b2⟩; clear h2; have bw2 := b1.trans (b2.mono b1.size); have h3 := HK.out.err w2 bw2) | (go_at_call 10; refine h3.mono ?_; rintro ev w3 ⟨rfl, b3⟩; clear h3; have bw3 := bw2.trans (b3.mono bw2.size); have h5 := HK.out.who w3 bw3) | (go_at_call 12; refine h5.mono ?_; rintro ev w5 ⟨rfl, b5⟩; clear h5; have bw5 := bw3.trans (b5.mono bw3.size); have h6 := HK.out.err w5 bw5) | (go_at_call 10; refine h6.mono ?_; rintro ev w6 ⟨rfl, b6⟩; clear h6; have bw6 := bw5.trans (b6.mono bw5.size); have h8 := HK.out.shares w6 bw6))
    refine wp_loop_rounds 1 ?_
    rw [rounds_succ]
    go_wp2_with (first | (go_at_call 13; refine h8.mono ?_; rintro ev w8 ⟨rfl, b8⟩; clear h8; have bw8 := bw6.trans (b8.mono bw6.size); have h9 := HK.out.err w8 bw8) | (go_at_call 10; refine h9.mono ?_; rintro ev w9 ⟨rfl, b9⟩; clear h9; have bw9 := bw8.trans (b9.mono bw8.size); have h10 := HK.out.ints w9 bw9) | (go_at_call 14; refine h10.mono ?_; rintro ev w10 ⟨rfl, b10⟩; clear h10; have bw10 := bw9.trans (b10.mono bw9.size); have h11 := HK.out.gap w10 bw10))
    refine wp_loop_rounds 1 ?_
    rw [rounds_succ]
    go_wp2_with (first | (go_at_call 15; refine h11.mono ?_; rintro ev w11 ⟨rfl, b11⟩; clear h11; have bw11 := bw10.trans (b11.mono bw10.size); have h12 := HK.out.err w11 bw11) | (go_at_call 10; refine h12.mono ?_; rintro ev w12 ⟨rfl, b12⟩; clear h12))
    go_ret
    exact ⟨rfl, bw11.trans (b12.mono bw11.size)⟩
end Go.Proofs.YtmlkfmiaaaienabDoor

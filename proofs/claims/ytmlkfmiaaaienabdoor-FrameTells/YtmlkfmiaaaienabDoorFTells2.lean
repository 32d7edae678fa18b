/-
  The law FrameTells: of a frame that is right: what it asks of the callees.
-/
import Derived.Test.YtmlkfmiaaaienabDoorFTells
namespace Go.Proofs.YtmlkfmiaaaienabDoor
open Go.RowKit

/-- What the law asks of a frame that is right, in any world behind. -/
structure TellsK (n : Nat) (l : List S3) (v : Value) (w : World) : Prop where
  ref : ∀ W, Below w.heap.size w W → Calls Tryd.prog 8 #[.int .i64 n, v] W fun ev w' => ev = .returned (.tuple #[.int .i64 0, .int .i64 0]) ∧ Below W.heap.size W w'
  chk : ∀ W, Below w.heap.size w W → Calls Tryd.prog 9 #[.int .i64 n, v] W fun ev w' => ev = .returned (.tuple #[.int .i64 0, .nilIface]) ∧ Below W.heap.size W w'
  rwho : ∀ (k : Nat) W, Below w.heap.size w W → Calls Tryd.prog 11 #[.int .i64 n, v, .int .i64 (k : Int)] W fun ev w' => ev = .returned (.int .i64 (hold l ((k % n : Nat) : Int))) ∧ Below W.heap.size W w'
  who : ∀ (k : Nat) W, Below w.heap.size w W → Calls Tryd.prog 12 #[.int .i64 n, v, .int .i64 (k : Int)] W fun ev w' => ev = .returned (.tuple #[.int .i64 (hold l ((k % n : Nat) : Int)), .nilIface]) ∧ Below W.heap.size W w'
  neg : ∀ (t : Int) W, t < 0 → Below w.heap.size w W → Calls Tryd.prog 12 #[.int .i64 n, v, .int .i64 t] W fun ev w' => ev = .returned (.tuple #[.int .i64 0, .iface 51 (.int .i64 1)]) ∧ Below W.heap.size W w'
  shares : ∀ W, Below w.heap.size w W → Calls Tryd.prog 13 #[.int .i64 n, v] W fun ev w' => ∃ ob, ev = .returned (.tuple #[.slice (some ⟨ob, 0, none⟩) 5 5, .nilIface]) ∧ W.heap.size ≤ ob ∧ ob < w'.heap.size ∧ Five w' ob (shr l n) ∧ Below W.heap.size W w'
  gap : ∀ (r : Nat) W, r < 5 → Below w.heap.size w W → Calls Tryd.prog 15 #[.int .i64 n, v, .int .i64 (r : Int)] W fun ev w' => ev = .returned (.tuple #[.int .i64 (gap (had l n r) n), fErr (if gap (had l n r) n = 0 then 5 else 0)]) ∧ Below W.heap.size W w'
  out : ∀ (r : Int) W, (r < 0 ∨ 4 < r) → Below w.heap.size w W → Calls Tryd.prog 15 #[.int .i64 n, v, .int .i64 r] W fun ev w' => ev = .returned (.tuple #[.int .i64 0, .iface 51 (.int .i64 1)]) ∧ Below W.heap.size W w'
  none : ∀ W, Below w.heap.size w W → Calls Tryd.prog 10 #[.nilIface, .int .i64 0] W fun ev w' => ev = .returned (.bool true) ∧ Below W.heap.size W w'
  err : ∀ (e : Int) W, e ≠ 0 → Below w.heap.size w W → Calls Tryd.prog 10 #[.iface 51 (.int .i64 e), .int .i64 e] W fun ev w' => ev = .returned (.bool true) ∧ Below W.heap.size W w'
theorem TellsK.mk' (n : Nat) (l : List S3) (v : Value) (w : World) (hg : ErrT w) (hl : Sps w v l) (h : (fchk n l).2 = 0) : TellsK n l v w where
  ref := fun W hb => by
    have := refframe_any n l v W (hl.all hb)
    rwa [(fchk_zero h).2.2.2.2] at this
  chk := fun W hb => by
    have := fcheck_any n l v W (hl.all hb)
    rwa [(fchk_zero h).2.2.2.2] at this
  rwho := fun k W hb => by
    obtain ⟨h1, h2, h3, _, _⟩ := fchk_zero h
    have := refwho_any n l v k W (hl.all hb) h1 h2 (by omega) h3
    rw [Int.natCast_emod]
    exact this
  who := fun k W hb => by
    have := who_any n l v k W (hl.all hb)
    rw [show whoR n l k = (hold l ((k : Int) % (n : Int)), 0) from by unfold whoR; rw [if_pos h, if_neg (by omega)]] at this
    rw [Int.natCast_emod]
    exact this
  neg := fun t W ht hb => by
    have := who_any n l v t W (hl.all hb)
    rwa [show whoR n l t = (0, 1) from by unfold whoR; rw [if_pos h, if_pos ht]] at this
  shares := fun W hb => (shares_any n l v W (hl.all hb)).mono fun ev w' ⟨h1, hb1⟩ => by
    rcases h1 with ⟨h1, _⟩ | ⟨_, ob, h1, h2, h3, h4⟩
    · exact absurd h h1
    · exact ⟨ob, h1, h2, h3, by rw [Int.toNat_natCast] at h4; exact h4, hb1⟩
  gap := fun r W hr hb => (gap_any n l v r W (hl.all hb)).mono fun ev w' ⟨h1, hb1⟩ => ⟨by
    rw [h1]
    unfold gapR
    rw [if_pos h, if_neg (by omega), Int.toNat_natCast]
    by_cases hg : Proofs.YtmlkfmiaaaienabDoor.gap (had l n r) n = 0
    · rw [if_pos hg, if_pos hg, hg]
    · rw [if_neg hg, if_neg hg], hb1⟩
  out := fun r W hr hb => by
    have := gap_any n l v r W (hl.all hb)
    rwa [show gapR n l r = (0, 1) from by unfold gapR; rw [if_pos h, if_pos hr]] at this
  none := fun W hb => by
    have := error_any 0 0 W (hg.all hb)
    simpa [errV] using this
  err := fun e W he hb => by
    have := error_any e e W (hg.all hb)
    rw [show errV e = .iface 51 (.int .i64 e) from by simp [errV, he]] at this
    simpa using this
theorem Wide.le {p : Nat → Bool} {n t : Nat} {m : Int} (hn : 0 < n) (h : Per p n) (hw : Wide p t m) : m ≤ n := by
  rcases hw.2 with h0 | ⟨i, k, hp, _, he⟩
  · omega
  · have := hp.le hn h
    omega
end Go.Proofs.YtmlkfmiaaaienabDoor

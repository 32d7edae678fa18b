/-
  frame.Gap: of any frame.
-/
import Derived.Test.YtmlkfmiaaaienabDoorFGap
namespace Go.Proofs.YtmlkfmiaaaienabDoor
open Go.RowKit

set_option maxRecDepth 100000 in
set_option maxHeartbeats 4000000 in
theorem gap_good (n : Nat) (l : List S3) (ao : Option Addr) (cap : Nat) (r k : Int) (w : World) (hl : Sps w (.slice ao l.length cap) l) (hlen : l.length ≤ 12) (hn0 : 1 ≤ n) (hn1 : n ≤ 40) (hr0 : 0 ≤ r) (hr1 : r ≤ 4)
    (hk : ∀ W, Below w.heap.size w W → Calls Tryd.prog 9 #[.int .i64 n, .slice ao l.length cap] W fun ev w' => ev = .returned (.tuple #[.int .i64 k, .nilIface]) ∧ Below W.heap.size W w') :
    Calls Tryd.prog 15 #[.int .i64 n, .slice ao l.length cap, .int .i64 r] w fun ev w' => ev = .returned (.tuple #[.int .i64 (gap (had l n r) n), fErr (if gap (had l n r) n = 0 then 5 else 0)]) ∧ Below w.heap.size w w' := by
  have b0 : Below w.heap.size w ((w.alloc (.cells #[.slice ao l.length cap] 34)).alloc (.cells #[.int .i64 r] 3)) := ((Below.refl _ _).alloc (Nat.le_refl _) _).alloc (by simp) _
  have h := hk _ b0
  have HI : Hid (∀ W, Calls Tryd.prog 26 #[.int .i64 r] W fun e w' => e = .returned (.bool true) ∧ Below W.heap.size W w') := fun W => by
    have := isRoom_any r W
    rwa [show (decide (0 ≤ r) && decide (r < 5)) = true from by simp; omega] at this
  have HW : Hid (∀ W, Below (w.heap.size + 2) ((w.alloc (.cells #[.slice ao l.length cap] 34)).alloc (.cells #[.int .i64 r] 3)) W → Calls Tryd.prog 27 #[.int .i64 n, .func (.func 28) #[] #[.pointer (some ⟨w.heap.size, 0, none⟩), .pointer (some ⟨w.heap.size + 1, 0, none⟩)]] W fun e w' => e = .returned (.int .i64 (gap (had l n r) n)) ∧ Below W.heap.size W w') := fun W hW =>
    widest_any n l (.slice ao l.length cap) r w.heap.size (w.heap.size + 1) W (hl.all (b0.trans (hW.mono (by omega)))) hlen hn0 hn1 ((hW.cell (p := ⟨w.heap.size, 0, none⟩) (by simp)).trans (by simp)) ((hW.cell (p := ⟨w.heap.size + 1, 0, none⟩) (by simp)).trans (by simp))
  clear hk hl
  obtain ⟨g, hg⟩ : ∃ g, g = gap (had l n r) n := ⟨_, rfl⟩
  rw [← hg] at HW ⊢
  clear hg
  by_cases hg0 : g = 0
  · subst hg0
    go_enter Tryd.func15, Tryd.ntmps15
    go_wp2_with (first | (go_at_call 9; refine h.mono ?_; rintro ev w1 ⟨rfl, b1⟩; clear h; have h2 := HI.out w1; clear HI; have c1 : w1.cell? ⟨w.heap.size + 1, 0, none⟩ = some (.int .i64 r) := (b1.cell (p := ⟨w.heap.size + 1, 0, none⟩) (by simp)).trans (by simp)) | (go_at_call 26; refine h2.mono ?_; rintro ev w2 ⟨rfl, b2⟩; clear h2; have b12 : Below (w.heap.size + 2) ((w.alloc (.cells #[.slice ao l.length cap] 34)).alloc (.cells #[.int .i64 r] 3)) w2 := (b1.mono (by simp)).trans (b2.mono (by have := b1.size; simp at this; omega)); have h3 := HW.out w2 b12; clear HW) | (go_at_call 27; refine h3.mono ?_; rintro ev w3 ⟨rfl, b3⟩; clear h3))
    go_ret2
    exact ⟨rfl, (b0.trans (b12.mono (by omega))).trans (b3.mono (b0.trans (b12.mono (by omega))).size)⟩
  · rw [if_neg hg0]
    have hg1 : (g == 0) = false := by simpa using hg0
    go_enter Tryd.func15, Tryd.ntmps15
    go_wp2_with (first | (go_at_call 9; refine h.mono ?_; rintro ev w1 ⟨rfl, b1⟩; clear h; have h2 := HI.out w1; clear HI; have c1 : w1.cell? ⟨w.heap.size + 1, 0, none⟩ = some (.int .i64 r) := (b1.cell (p := ⟨w.heap.size + 1, 0, none⟩) (by simp)).trans (by simp)) | (go_at_call 26; refine h2.mono ?_; rintro ev w2 ⟨rfl, b2⟩; clear h2; have b12 : Below (w.heap.size + 2) ((w.alloc (.cells #[.slice ao l.length cap] 34)).alloc (.cells #[.int .i64 r] 3)) w2 := (b1.mono (by simp)).trans (b2.mono (by have := b1.size; simp at this; omega)); have h3 := HW.out w2 b12; clear HW) | (go_at_call 27; refine h3.mono ?_; rintro ev w3 ⟨rfl, b3⟩; clear h3))
    go_ret2
    exact ⟨rfl, (b0.trans (b12.mono (by omega))).trans (b3.mono (b0.trans (b12.mono (by omega))).size)⟩

theorem gap_any (n : Int) (l : List S3) (v : Value) (r : Int) (w : World) (hl : Sps w v l) :
    Calls Tryd.prog 15 #[.int .i64 n, v, .int .i64 r] w fun ev w' => ev = .returned (.tuple #[.int .i64 (gapR n l r).1, fErr (gapR n l r).2]) ∧ Below w.heap.size w w' := by
  have hk := fun W hb => fcheck_any n l v W (hl.all (w' := W) hb)
  obtain ⟨ao, cap, rfl⟩ := hl.form
  unfold gapR
  by_cases h : (fchk n l).2 = 0
  · obtain ⟨h1, h2, h3, _, _⟩ := fchk_zero h
    rw [h] at hk
    rw [if_pos h]
    by_cases hr : r < 0 ∨ 4 < r
    · rw [if_pos hr]
      exact gap_room n ao _ cap r _ w hr hk
    · rw [if_neg hr]
      obtain ⟨m, rfl⟩ : ∃ m : Nat, n = m := ⟨n.toNat, by omega⟩
      refine (gap_good m l ao cap r _ w hl h3 (by omega) (by omega) (by omega) (by omega) hk).mono fun ev w' ⟨he, hb⟩ => ⟨?_, hb⟩
      rw [he, Int.toNat_natCast]
      by_cases hg : gap (had l m r) m = 0
      · rw [if_pos hg, if_pos hg, hg]
      · rw [if_neg hg, if_neg hg]
  · rw [if_neg h]
    exact gap_bad n ao _ cap r _ _ w h hk
end Go.Proofs.YtmlkfmiaaaienabDoor

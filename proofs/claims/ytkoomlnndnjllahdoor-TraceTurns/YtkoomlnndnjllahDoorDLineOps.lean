/-
  A line of package wire as data: peeked, taken from, sent on, told.
-/
import Derived.Test.YtkoomlnndnjllahDoorJa6
import Derived.Test.YtkoomlnndnjllahDoorWSend
import Derived.Test.YtkoomlnndnjllahDoorJa1
namespace Go.Proofs.YtkoomlnndnjllahDoor
open Go.RowKit

theorem Ln.first {w : World} {base b : Nat} {kd dp ls : Int} {x : Int} {ys : List Int} {v : Value} (h : Ln w base b kd dp (x :: ys) ls v) : ∃ g cap, v = .slice (some ⟨g, 0, none⟩) (ys.length + 1) cap ∧ w.cell? ⟨g, 0, none⟩ = some (.int .i64 x) := by
  rcases h.form with ⟨_, e⟩ | ⟨g, cap, rfl⟩
  · cases e
  · have := h.row.cells (g := g) rfl 0 (.int .i64 x) (by simp [ints])
    rw [Addr.add_lit, Nat.zero_add] at this
    exact ⟨g, cap, rfl, this⟩
theorem Ln.none {w : World} {base b : Nat} {kd dp ls : Int} {v : Value} (h : Ln w base b kd dp [] ls v) : ∃ ao cap, v = .slice ao 0 cap := by
  rcases h.form with ⟨rfl, _⟩ | ⟨g, cap, rfl⟩
  · exact ⟨_, _, rfl⟩
  · exact ⟨_, _, rfl⟩
theorem dpeek_l (base b : Nat) (l : LnD) (u : Value) (w : World) (hL : Ln w base b l.w.2.2.1 l.w.2.2.2 l.xs l.ls u) :
    Calls Tryd.prog 66 #[.pointer (some ⟨b, 0, none⟩)] w fun e w' => e = .returned (.tuple #[.int .i64 (headL l).1, .bool (headL l).2]) ∧ w' = w := by
  obtain ⟨x, xs, ls⟩ := l
  cases xs with
  | nil =>
    obtain ⟨ao, cap, rfl⟩ := Ln.none hL
    exact peek_none b _ _ ls ao cap w hL.c
  | cons n ys =>
    obtain ⟨g, cap, rfl, h1⟩ := Ln.first hL
    exact peek_some b _ _ ls g _ cap n w hL.c (by omega) h1
theorem dtake_l (base b : Nat) (l : LnD) (u : Value) (w : World) (hk : l.w.2.2.1 = 1 ∨ l.w.2.2.1 = 2) (hh : (headL l).2 = true) (hL : Ln w base b l.w.2.2.1 l.w.2.2.2 l.xs l.ls u) :
    Calls Tryd.prog 72 #[.pointer (some ⟨b, 0, none⟩)] w fun e w' => ∃ u', e = .returned (.tuple #[.int .i64 (headL l).1, .nilIface]) ∧ Ln w' base b (restL l).w.2.2.1 (restL l).w.2.2.2 (restL l).xs (restL l).ls u' ∧ Touch w w' b u u' := by
  obtain ⟨x, xs, ls⟩ := l
  simp only at hk hL
  cases xs with
  | nil => simp [headL] at hh
  | cons n ys =>
    rcases hk with h1 | h2
    · have e2 : restL ⟨x, n :: ys, ls⟩ = ⟨x, n :: ys, ls⟩ := by simp [restL, h1]
      rw [e2]
      obtain ⟨g, cap, rfl, hc⟩ := Ln.first hL
      rw [h1] at hL
      refine (take_sample b _ ls g _ cap n w hL.c (by omega) hc).mono ?_
      rintro e w' ⟨rfl, rfl⟩
      exact ⟨_, rfl, by simp only [h1]; exact hL, Touch.refl _ _ _⟩
    · have e2 : restL ⟨x, n :: ys, ls⟩ = ⟨x, ys, ls⟩ := by simp [restL, h2]
      rw [e2]
      rw [h2] at hL
      refine (take_queue base b _ ls n ys u w hL).mono ?_
      rintro e w' ⟨u', rfl, h3, h4⟩
      exact ⟨u', rfl, by simp only [h2]; exact h3, h4⟩
theorem dsend_l (base b : Nat) (l : LnD) (u : Value) (n : Int) (w : World) (hk : (l.w.2.2.1 = 1 ∧ l.w.2.2.2 = 1) ∨ l.w.2.2.1 = 2) (hn : 0 ≤ n ∧ n ≤ 999) (hls : 0 ≤ l.ls ∧ l.ls < 1000000000) (hx : l.xs.length ≤ 1000000) (hL : Ln w base b l.w.2.2.1 l.w.2.2.2 l.xs l.ls u) :
    Calls Tryd.prog 73 #[.pointer (some ⟨b, 0, none⟩), .int .i64 n] w fun e w' => ∃ u', e = .returned (.tuple #[.bool (fitL l), .nilIface]) ∧ Ln w' base b (putL l n).w.2.2.1 (putL l n).w.2.2.2 (putL l n).xs (putL l n).ls u' ∧ Touch w w' b u u' := by
  obtain ⟨x, xs, ls⟩ := l
  simp only at hk hls hx hL
  rcases hk with ⟨h1, h1'⟩ | h2
  · have e1 : fitL ⟨x, xs, ls⟩ = true := by simp [fitL, h1]
    have e2 : putL ⟨x, xs, ls⟩ n = ⟨x, [n], ls⟩ := by simp [putL, h1]
    rw [e1, e2]
    rw [h1, h1'] at hL
    refine (send_sample base b xs ls u n w hn.1 (by omega) hL).mono ?_
    rintro e w' ⟨u', rfl, h3, h4⟩
    exact ⟨u', rfl, by simp only [h1, h1']; exact h3, h4⟩
  · rw [h2] at hL
    by_cases hd : (xs.length : Int) < x.2.2.2
    · have e1 : fitL ⟨x, xs, ls⟩ = true := by simp [fitL, hd]
      have e2 : putL ⟨x, xs, ls⟩ n = ⟨x, xs ++ [n], ls⟩ := by simp [putL, h2, hd]
      rw [e1, e2]
      refine (send_room base b _ xs ls u n w hn.1 (by omega) hL hd hx).mono ?_
      rintro e w' ⟨u', rfl, h3, h4⟩
      exact ⟨u', rfl, by simp only [h2]; exact h3, h4⟩
    · have e1 : fitL ⟨x, xs, ls⟩ = false := by simp [fitL, h2]; omega
      have e2 : putL ⟨x, xs, ls⟩ n = ⟨x, xs, ls + 1⟩ := by simp [putL, h2, hd]
      rw [e1, e2]
      refine (send_full base b _ xs ls u n w hn.1 (by omega) hls hL (by omega)).mono ?_
      rintro e w' ⟨rfl, h3, h4⟩
      exact ⟨u, rfl, by simp only [h2]; exact h3, h4⟩
end Go.Proofs.YtkoomlnndnjllahDoor

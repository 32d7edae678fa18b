/-
  Package trace: fault: what is wrong with an event.
-/
import Derived.Test.YtkoomlnndnjllahDoorJa2
namespace Go.Proofs.YtkoomlnndnjllahDoor
open Go.RowKit

set_option maxRecDepth 100000 in
set_option maxHeartbeats 4000000 in
theorem fault_any (a b c d : Int) (w : World) : Calls Tryd.prog 29 #[.agg #[.int .i64 a, .int .i64 b, .int .i64 c, .int .i64 d]] w fun x w' => x = .returned (wErr (evBad (a, b, c, d))) ∧ Below w.heap.size w w' := by
  have hw := wi_out a b c d
  have bb : Below w.heap.size w (w.alloc (.cells #[.int .i64 a, .int .i64 b, .int .i64 c, .int .i64 d] 52)) := (Below.refl _ _).alloc (Nat.le_refl _) _
  obtain ⟨t1, h1⟩ : ∃ t, wiB a 0 1000000 = t := ⟨_, rfl⟩
  obtain ⟨t2, h2⟩ : ∃ t, wiB b (-1) 4 = t := ⟨_, rfl⟩
  obtain ⟨t3, h3⟩ : ∃ t, wiB c 0 19 = t := ⟨_, rfl⟩
  obtain ⟨t4, h4⟩ : ∃ t, wiB d 0 5 = t := ⟨_, rfl⟩
  rw [h1, h2, h3, h4] at hw
  have q1 := fun W => within_of h1 W
  have q2 := fun W => trroom_of h2 W
  have q3 := fun W => within_of h3 W
  have q4 := fun W => within_of h4 W
  clear h1 h2 h3 h4
  by_cases ho : evOut (a, b, c, d) = true
  · have HB : Hid (evBad (a, b, c, d) = 1) := by show _ = _; unfold evBad; rw [if_pos ho]
    rw [ho] at hw
    cases t1 with
    | false =>
      clear hw ho
      go_enter Tryd.func29, Tryd.ntmps29
      go_wp2_with (go_at_call 20; with_reducible refine (q1 _).mono ?_; rintro e w1 ⟨rfl, hw1⟩; subst hw1)
      go_ret
      rw [HB.out]
      exact ⟨rfl, bb⟩
    | true =>
      cases t2 with
      | false =>
        clear hw ho
        go_enter Tryd.func29, Tryd.ntmps29
        go_wp2_with (first | (go_at_call 20; with_reducible refine (q1 _).mono ?_; rintro e w1 ⟨rfl, hw1⟩; subst hw1) | (go_at_call 18; refine (q2 _).mono ?_; rintro e w1 ⟨rfl, hw1⟩; subst hw1))
        go_ret
        rw [HB.out]
        exact ⟨rfl, bb⟩
      | true =>
        cases t3 with
        | false =>
          clear hw ho
          go_enter Tryd.func29, Tryd.ntmps29
          go_wp2_with (first | (go_at_call 20; with_reducible refine (q1 _).mono ?_; rintro e w1 ⟨rfl, hw1⟩; subst hw1) | (go_at_call 18; refine (q2 _).mono ?_; rintro e w1 ⟨rfl, hw1⟩; subst hw1) | (go_at_call 20; with_reducible refine (q3 _).mono ?_; rintro e w1 ⟨rfl, hw1⟩; subst hw1))
          go_ret
          rw [HB.out]
          exact ⟨rfl, bb⟩
        | true =>
          cases t4 with
          | false =>
            clear hw ho
            go_enter Tryd.func29, Tryd.ntmps29
            go_wp2_with (first | (go_at_call 20; with_reducible refine (q1 _).mono ?_; rintro e w1 ⟨rfl, hw1⟩; subst hw1) | (go_at_call 18; refine (q2 _).mono ?_; rintro e w1 ⟨rfl, hw1⟩; subst hw1) | (go_at_call 20; with_reducible refine (q3 _).mono ?_; rintro e w1 ⟨rfl, hw1⟩; subst hw1) | (go_at_call 20; with_reducible refine (q4 _).mono ?_; rintro e w1 ⟨rfl, hw1⟩; subst hw1))
            go_ret
            rw [HB.out]
            exact ⟨rfl, bb⟩
          | true => exact absurd hw (by decide)
  · have hb : evOut (a, b, c, d) = false := by simpa using ho
    rw [hb] at hw
    have ht : t1 = true ∧ t2 = true ∧ t3 = true ∧ t4 = true := by
      revert hw
      cases t1 <;> cases t2 <;> cases t3 <;> cases t4 <;> decide
    obtain ⟨rfl, rfl, rfl, rfl⟩ := ht
    clear hw hb
    by_cases hr : b = -1
    · by_cases hc : c = 0
      · by_cases hd : d = 0
        · have HB : Hid (evBad (a, b, c, d) = 0) := by show _ = _; unfold evBad; rw [if_neg ho, if_neg (by simp only; omega)]
          clear ho
          subst hr hc hd
          go_enter Tryd.func29, Tryd.ntmps29
          go_wp2_with (first | (go_at_call 20; with_reducible refine (q1 _).mono ?_; rintro e w1 ⟨rfl, hw1⟩; subst hw1) | (go_at_call 18; refine (q2 _).mono ?_; rintro e w1 ⟨rfl, hw1⟩; subst hw1) | (go_at_call 20; with_reducible refine (q3 _).mono ?_; rintro e w1 ⟨rfl, hw1⟩; subst hw1) | (go_at_call 20; with_reducible refine (q4 _).mono ?_; rintro e w1 ⟨rfl, hw1⟩; subst hw1))
          go_ret
          rw [HB.out]
          exact ⟨rfl, bb⟩
        · have HB : Hid (evBad (a, b, c, d) = 3) := by show _ = _; unfold evBad; rw [if_neg ho, if_pos (by simp only; omega)]
          have hd' : (d == 0) = false := by simpa using hd
          clear ho
          subst hr hc
          go_enter Tryd.func29, Tryd.ntmps29
          go_wp2_with (first | (go_at_call 20; with_reducible refine (q1 _).mono ?_; rintro e w1 ⟨rfl, hw1⟩; subst hw1) | (go_at_call 18; refine (q2 _).mono ?_; rintro e w1 ⟨rfl, hw1⟩; subst hw1) | (go_at_call 20; with_reducible refine (q3 _).mono ?_; rintro e w1 ⟨rfl, hw1⟩; subst hw1) | (go_at_call 20; with_reducible refine (q4 _).mono ?_; rintro e w1 ⟨rfl, hw1⟩; subst hw1))
          go_ret
          rw [HB.out]
          exact ⟨rfl, bb⟩
      · have HB : Hid (evBad (a, b, c, d) = 3) := by show _ = _; unfold evBad; rw [if_neg ho, if_pos (by simp only; omega)]
        have hc' : (c == 0) = false := by simpa using hc
        clear ho
        subst hr
        go_enter Tryd.func29, Tryd.ntmps29
        go_wp2_with (first | (go_at_call 20; with_reducible refine (q1 _).mono ?_; rintro e w1 ⟨rfl, hw1⟩; subst hw1) | (go_at_call 18; refine (q2 _).mono ?_; rintro e w1 ⟨rfl, hw1⟩; subst hw1) | (go_at_call 20; with_reducible refine (q3 _).mono ?_; rintro e w1 ⟨rfl, hw1⟩; subst hw1) | (go_at_call 20; with_reducible refine (q4 _).mono ?_; rintro e w1 ⟨rfl, hw1⟩; subst hw1))
        go_ret
        rw [HB.out]
        exact ⟨rfl, bb⟩
    · have HB : Hid (evBad (a, b, c, d) = 0) := by show _ = _; unfold evBad; rw [if_neg ho, if_neg (by simp only; omega)]
      have hr' : (b == -1) = false := by simpa using hr
      clear ho
      go_enter Tryd.func29, Tryd.ntmps29
      go_wp2_with (first | (go_at_call 20; with_reducible refine (q1 _).mono ?_; rintro e w1 ⟨rfl, hw1⟩; subst hw1) | (go_at_call 18; refine (q2 _).mono ?_; rintro e w1 ⟨rfl, hw1⟩; subst hw1) | (go_at_call 20; with_reducible refine (q3 _).mono ?_; rintro e w1 ⟨rfl, hw1⟩; subst hw1) | (go_at_call 20; with_reducible refine (q4 _).mono ?_; rintro e w1 ⟨rfl, hw1⟩; subst hw1))
      go_ret
      rw [HB.out]
      exact ⟨rfl, bb⟩
end Go.Proofs.YtkoomlnndnjllahDoor

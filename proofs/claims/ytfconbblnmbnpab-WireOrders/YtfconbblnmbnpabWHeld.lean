/-
  (*wire.Line).Held.
-/
import Derived.Test.YtfconbblnmbnpabWTake2
import Derived.Test.YtfconbblnmbnpabWClone
namespace Go.Proofs.Ytfconbblnmbnpab
open Go.RowKit

theorem own_mono {w : World} {base B : Nat} {e : TypeId} {size : Nat} {v : Value} {n : Nat} {xs : List Value} (h : w.ownsRow base e size v n xs) (hB : B ≤ base) : w.ownsRow B e size v n xs := by
  refine ⟨h.1, ?_⟩
  rcases h.2 with h2 | ⟨g, cap, cur, rfl, h3, r⟩
  · exact Or.inl h2
  · exact Or.inr ⟨g, cap, cur, rfl, Nat.le_trans hB h3, r⟩
set_option maxRecDepth 100000 in
set_option maxHeartbeats 4000000 in
theorem held_any (base b : Nat) (kd dp : Int) (xs : List Int) (ls : Int) (v : Value) (w : World) (hx : xs.length ≤ 1000000) (hL : Ln w base b kd dp xs ls v) :
    Calls Try.prog 13 #[.pointer (some ⟨b, 0, none⟩)] w fun e w' => ∃ ao cap, e = .returned (.agg #[.slice ao xs.length cap, .int .i64 ls]) ∧ w'.ownsRow w.heap.size 3 1 (.slice ao xs.length cap) xs.length (ints xs) ∧ Below w.heap.size w w' := by
  have hlt := hL.c.lt
  have hA : Below w.heap.size w (w.alloc (.cells #[.slice none 0 0, .int .i64 0] 44)) := (Below.refl _ _).alloc (Nat.le_refl _) _
  have hcl : Calls Try.prog 24 #[v] (w.alloc (.cells #[.slice none 0 0, .int .i64 0] 44)).drew fun e w' => ∃ ao cap, e = .returned (.slice ao xs.length cap) ∧ w'.ownsRow (w.heap.size + 1) 3 1 (.slice ao xs.length cap) xs.length (ints xs) ∧ Below (w.heap.size + 1) (w.alloc (.cells #[.slice none 0 0, .int .i64 0] 44)) w' := by
    rcases hL.form with ⟨rfl, rfl⟩ | ⟨g, cap, rfl⟩
    · refine (clone_nil _).mono fun e w' ⟨he, hw⟩ => ?_
      subst hw
      exact ⟨_, _, he, World.ownsRow_nil _ _ _ _, (Below.refl _ _).drew⟩
    · have hcp := own_cap hL.row
      refine (clone_some g cap xs _ hx (fun i x h => ((hA.drew).cell (p := ⟨g, i, none⟩) hcp.2.1).trans (hcp.2.2.2.2.1 i x h))).mono fun e w' ⟨v', he, hr, hb⟩ => ?_
      have hr' : w'.ownsRow (w.heap.size + 1) 3 1 v' xs.length (ints xs) := by simpa using hr
      rcases row_form hr' with ⟨rfl, h0⟩ | ⟨g', cap', rfl⟩
      · exact ⟨none, 0, by rw [h0]; exact he, by rw [h0] at hr' ⊢; exact hr', (Below.refl _ _).drew.trans (by simpa using hb)⟩
      · exact ⟨_, _, he, hr', (Below.refl _ _).drew.trans (by simpa using hb)⟩
  obtain ⟨sa, sm, sc, rfl⟩ : ∃ sa sm sc, v = .slice sa sm sc := by
    rcases row_form hL.row with ⟨rfl, _⟩ | ⟨g, cap, rfl⟩
    · exact ⟨_, _, _, rfl⟩
    · exact ⟨_, _, _, rfl⟩
  obtain ⟨c0, c1, c2, c3, f2, f3⟩ := hL.c
  clear c0 c1 f2 f3 hL
  go_enter Try.func13, Try.ntmps13
  go_wp2
  go_region_with (go_at_call 24; refine hcl.mono ?_; rintro e w1 ⟨ao, cap, rfl, own1, b1⟩; have d3 : w1.cell? ⟨b, 3, none⟩ = some (.int .i64 ls) := (b1.cell (p := ⟨b, 3, none⟩) (show b < _ by omega)).trans ((hA.cell (p := ⟨b, 3, none⟩) hlt).trans c3); have e0 : w1.cell? ⟨w.heap.size, 0, none⟩ = some (.slice none 0 0) := (b1.cell (p := ⟨w.heap.size, 0, none⟩) (by simp)).trans (by simp); have e1 : w1.cell? ⟨w.heap.size, 1, none⟩ = some (.int .i64 0) := (b1.cell (p := ⟨w.heap.size, 1, none⟩) (by simp)).trans (by simp); have g0 : w1.frozen? ⟨w.heap.size, 0, none⟩ = false := (b1.frozen (p := ⟨w.heap.size, 0, none⟩) (by simp)).trans (by simp); have g1 : w1.frozen? ⟨w.heap.size, 1, none⟩ = false := (b1.frozen (p := ⟨w.heap.size, 1, none⟩) (by simp)).trans (by simp))
  all_goals (try go_wp2)
  all_goals
    refine bodyPost_ret (v := .agg #[.slice ao xs.length cap, .int .i64 ls]) (by simp [results, Try.results13, go_sem, e0, e1]) rfl ⟨_, _, rfl, own_mono (ownsRow_setCell_below (ownsRow_setCell_below own1 (a := ⟨w.heap.size, 0, none⟩) (Nat.lt_succ_self _) _) (a := ⟨w.heap.size, 1, none⟩) (Nat.lt_succ_self _) _) (Nat.le_succ _), ?_⟩
    exact ((hA.trans (b1.mono (Nat.le_succ _))).setCell (p := ⟨w.heap.size, 0, none⟩) (Nat.le_refl _) _).setCell (p := ⟨w.heap.size, 1, none⟩) (Nat.le_refl _) _
end Go.Proofs.Ytfconbblnmbnpab

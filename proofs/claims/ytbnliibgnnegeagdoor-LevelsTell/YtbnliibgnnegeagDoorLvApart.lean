/-
  Package levels: Apart.
-/
import Derived.Test.YtbnliibgnnegeagDoorLevCA
import Derived.Test.YtbnliibgnnegeagDoorFlReach
namespace Go.Proofs.YtbnliibgnnegeagDoor
open Go.RowKit

set_option maxRecDepth 100000 in
set_option maxHeartbeats 4000000 in
theorem lvapart_no (v : Value) (a b e : Int) (w : World) (h : Calls Tryd.prog 20 #[v, .int .i64 a, .int .i64 b] w fun x w' => x = .returned (.tuple #[.bool false, .iface 53 (.int .i64 e)]) ∧ Below w.heap.size w w') :
    Calls Tryd.prog 14 #[v, .int .i64 a, .int .i64 b] w fun x w' => x = .returned (.tuple #[.bool false, .iface 53 (.int .i64 e)]) ∧ Below w.heap.size w w' := by
  go_enter Tryd.func14, Tryd.ntmps14
  go_wp2_with (go_at_call 20; refine h.mono ?_; rintro x w1 ⟨rfl, b1⟩; clear h)
  go_ret2
  exact ⟨rfl, b1⟩
set_option maxRecDepth 100000 in
set_option maxHeartbeats 4000000 in
theorem lvapart_is (v : Value) (a b : Int) (p q : Bool) (w : World) (h1 : Calls Tryd.prog 20 #[v, .int .i64 a, .int .i64 b] w fun x w' => x = .returned (.tuple #[.bool p, .nilIface]) ∧ Below w.heap.size w w') (h2 : ∀ W, Below w.heap.size w W → Calls Tryd.prog 20 #[v, .int .i64 b, .int .i64 a] W fun x w' => x = .returned (.tuple #[.bool q, .nilIface]) ∧ Below W.heap.size W w') :
    Calls Tryd.prog 14 #[v, .int .i64 a, .int .i64 b] w fun x w' => x = .returned (.tuple #[.bool (!p && !q), .nilIface]) ∧ Below w.heap.size w w' := by
  have H2 : Hid (∀ W, Below w.heap.size w W → Calls Tryd.prog 20 #[v, .int .i64 b, .int .i64 a] W fun x w' => x = .returned (.tuple #[.bool q, .nilIface]) ∧ Below W.heap.size W w') := h2
  clear h2
  cases p <;> cases q
  all_goals
    go_enter Tryd.func14, Tryd.ntmps14
    go_wp2_with (first
      | (go_at_call 20; refine h1.mono ?_; rintro x w1 ⟨rfl, b1⟩; clear h1; have h2 := H2.out w1 b1; clear H2)
      | (go_at_call 20; refine h2.mono ?_; rintro x w2 ⟨rfl, b2⟩; clear h2))
    go_ret2
    exact ⟨rfl, b1.trans (b2.mono b1.size)⟩
/-- Apart, as it was promised. -/
theorem lev_apart (G : World → Prop) : LevApart G := fun l v a b W _ hl => by
  by_cases h : (wschk l).2 = 0
  · by_cases ho : (0 ≤ a ∧ a < 5) ∧ (0 ≤ b ∧ b < 5)
    · obtain ⟨⟨a0, a5⟩, b0, b5⟩ := ho
      obtain ⟨x, rfl⟩ : ∃ n : Nat, a = n := ⟨a.toNat, by omega⟩
      obtain ⟨y, rfl⟩ : ∃ n : Nat, b = n := ⟨b.toNat, by omega⟩
      have he : apE l x y = 0 := by
        unfold apE
        rw [if_pos h, if_neg (by omega)]
      have hb : apB l x y = (!way l x y && !way l y x) := by
        unfold apB
        rw [if_pos he]
        simp
      rw [he, hb]
      exact lvapart_is v x y _ _ W (reach_ok l v x y W hl h (by omega) (by omega)) (fun W' hB => reach_ok l v y x W' (hl.all hB) h (by omega) (by omega))
    · have he : apE l a b = 1 := by
        unfold apE
        rw [if_pos h, if_pos (by omega)]
      have hb : apB l a b = false := by
        unfold apB
        rw [if_neg (by omega)]
      rw [hb, he, wErr_not (by decide)]
      exact lvapart_no v a b 1 W (reach_out l v a b W hl h ho)
  · have he : apE l a b = (wschk l).2 := by
      unfold apE
      rw [if_neg h]
    have hb : apB l a b = false := by
      unfold apB
      rw [if_neg (by omega)]
    rw [hb, he, wErr_not h]
    exact lvapart_no v a b _ W (reach_bad l v a b W hl h)
end Go.Proofs.YtbnliibgnnegeagDoor

/-
  flow.Reach, flow.Ahead, flow.Levels.
-/
import Derived.Test.YtbnliibgnnegeagDoorFlIdx
namespace Go.Proofs.YtbnliibgnnegeagDoor
open Go.RowKit

set_option maxRecDepth 100000 in
set_option maxHeartbeats 4000000 in
theorem reach_bad (l : List W4) (v : Value) (a b : Int) (w : World) (hl : Wrs w v l) (h : (wschk l).2 ≠ 0) :
    Calls Tryd.prog 20 #[v, .int .i64 a, .int .i64 b] w fun e w' => e = .returned (.tuple #[.bool false, .iface 53 (.int .i64 (wschk l).2)]) ∧ Below w.heap.size w w' := by
  have hc := flcheck_any l v w hl
  obtain ⟨ao, cap, rfl⟩ := hl.form
  rw [wErr_not h] at hc
  obtain ⟨q, hq⟩ : ∃ q, q = (wschk l).2 := ⟨_, rfl⟩
  obtain ⟨p, hp⟩ : ∃ q, q = (wschk l).1 := ⟨_, rfl⟩
  rw [← hq, ← hp] at hc
  rw [← hq]
  clear hq hp h hl
  go_enter Tryd.func20, Tryd.ntmps20
  go_wp2_with (go_at_call 24; refine hc.mono ?_; rintro e w1 ⟨rfl, b1⟩; clear hc)
  go_ret2
  exact ⟨rfl, b1⟩
set_option maxRecDepth 100000 in
set_option maxHeartbeats 4000000 in
theorem reach_out (l : List W4) (v : Value) (a b : Int) (w : World) (hl : Wrs w v l) (h : (wschk l).2 = 0) (ho : ¬ ((0 ≤ a ∧ a < 5) ∧ (0 ≤ b ∧ b < 5))) :
    Calls Tryd.prog 20 #[v, .int .i64 a, .int .i64 b] w fun e w' => e = .returned (.tuple #[.bool false, .iface 53 (.int .i64 1)]) ∧ Below w.heap.size w w' := by
  have hc := flcheck_any l v w hl
  obtain ⟨ao, cap, rfl⟩ := hl.form
  rw [h, show wErr 0 = .nilIface from rfl] at hc
  obtain ⟨p, hp⟩ : ∃ q, q = (wschk l).1 := ⟨_, rfl⟩
  rw [← hp] at hc
  clear hp h hl
  by_cases ha : 0 ≤ a ∧ a < 5
  · have hb : ¬ (0 ≤ b ∧ b < 5) := fun hb => ho ⟨ha, hb⟩
    have h1 := fun W => flroom_yes a W ha.1 ha.2
    have h2 := fun W => flroom_no b W hb
    clear ha hb ho
    go_enter Tryd.func20, Tryd.ntmps20
    go_wp2_with (first
      | (go_at_call 24; refine hc.mono ?_; rintro e w1 ⟨rfl, b1⟩; clear hc)
      | (go_at_call 25; refine (h1 _).mono ?_; rintro e w2 ⟨rfl, rfl⟩; clear h1)
      | (go_at_call 25; refine (h2 _).mono ?_; rintro e w3 ⟨rfl, rfl⟩; clear h2))
    go_ret2
    exact ⟨rfl, b1⟩
  · have h1 := fun W => flroom_no a W ha
    clear ha ho
    go_enter Tryd.func20, Tryd.ntmps20
    go_wp2_with (first
      | (go_at_call 24; refine hc.mono ?_; rintro e w1 ⟨rfl, b1⟩; clear hc)
      | (go_at_call 25; refine (h1 _).mono ?_; rintro e w2 ⟨rfl, rfl⟩; clear h1))
    go_ret2
    exact ⟨rfl, b1⟩
set_option maxRecDepth 100000 in
set_option maxHeartbeats 4000000 in
theorem reach_ok (l : List W4) (v : Value) (a b : Nat) (w : World) (hl : Wrs w v l) (h : (wschk l).2 = 0) (ha : a < 5) (hb : b < 5) :
    Calls Tryd.prog 20 #[v, .int .i64 a, .int .i64 b] w fun e w' => e = .returned (.tuple #[.bool (way l a b), .nilIface]) ∧ Below w.heap.size w w' := by
  have hc := flcheck_any l v w hl
  have hk := wschk_ok h
  have HR : Hid (∀ w1, Below w.heap.size w w1 → Calls Tryd.prog 26 #[v] w1 fun e w' => e = .returned (.agg (wayCells l).toArray) ∧ Below w1.heap.size w1 w') := fun w1 b1 => reached_any l v w1 (hl.all b1) hk.1 hk.2
  obtain ⟨ao, cap, rfl⟩ := hl.form
  rw [h, show wErr 0 = .nilIface from rfl] at hc
  obtain ⟨p, hp⟩ : ∃ q, q = (wschk l).1 := ⟨_, rfl⟩
  rw [← hp] at hc
  clear hp h hl hk
  have h1 := fun W => flroom_yes a W (by omega) (by omega)
  have h2 := fun W => flroom_yes b W (by omega) (by omega)
  have i1 := index_ways l a ha
  have i2 := index_row (way l a) b hb
  go_enter Tryd.func20, Tryd.ntmps20
  go_wp2_with (first
    | (go_at_call 24; refine hc.mono ?_; rintro e w1 ⟨rfl, b1⟩; clear hc; have hr := HR.out w1 b1; clear HR)
    | (go_at_call 25; refine (h1 _).mono ?_; rintro e w2 ⟨rfl, rfl⟩; clear h1)
    | (go_at_call 25; refine (h2 _).mono ?_; rintro e w3 ⟨rfl, rfl⟩; clear h2)
    | (go_at_call 26; refine hr.mono ?_; rintro e w4 ⟨rfl, b4⟩; clear hr))
  go_ret2
  exact ⟨rfl, b1.trans (b4.mono b1.size)⟩
end Go.Proofs.YtbnliibgnnegeagDoor

/-
  flow.Ahead: who reaches a room.
-/
import Derived.Test.YtbnliibgnnegeagDoorFlIdx
namespace Go.Proofs.YtbnliibgnnegeagDoor
open Go.RowKit

/-- Those below a number that reach a room, rising. -/
def ahd (l : List W4) (b : Nat) : Nat → List Int
  | 0 => []
  | k + 1 => if way l k b = true then ahd l b k ++ [(k : Int)] else ahd l b k
theorem ahd_yes {l : List W4} {b k : Nat} (h : way l k b = true) : ahd l b (k + 1) = ahd l b k ++ [(k : Int)] := by rw [ahd, if_pos h]
theorem ahd_no {l : List W4} {b k : Nat} (h : way l k b = false) : ahd l b (k + 1) = ahd l b k := by rw [ahd, if_neg (by rw [h]; simp)]
theorem ahd_len (l : List W4) (b : Nat) : ∀ k, (ahd l b k).length ≤ k
  | 0 => Nat.le_refl _
  | k + 1 => by
    have := ahd_len l b k
    rw [ahd]
    split
    · simp; omega
    · omega

set_option maxRecDepth 100000 in
set_option maxHeartbeats 4000000 in
theorem ahead_bad (l : List W4) (v : Value) (b : Int) (w : World) (hl : Wrs w v l) (h : (wschk l).2 ≠ 0) :
    Calls Tryd.prog 21 #[v, .int .i64 b] w fun e w' => e = .returned (.tuple #[.slice none 0 0, .iface 53 (.int .i64 (wschk l).2)]) ∧ Below w.heap.size w w' := by
  have hc := flcheck_any l v w hl
  obtain ⟨ao, cap, rfl⟩ := hl.form
  rw [wErr_not h] at hc
  obtain ⟨q, hq⟩ : ∃ q, q = (wschk l).2 := ⟨_, rfl⟩
  obtain ⟨p, hp⟩ : ∃ q, q = (wschk l).1 := ⟨_, rfl⟩
  rw [← hq, ← hp] at hc
  rw [← hq]
  clear hq hp h hl
  go_enter Tryd.func21, Tryd.ntmps21
  go_wp2_with (go_at_call 24; refine hc.mono ?_; rintro e w1 ⟨rfl, b1⟩; clear hc)
  go_ret2
  exact ⟨rfl, b1⟩
set_option maxRecDepth 100000 in
set_option maxHeartbeats 4000000 in
theorem ahead_out (l : List W4) (v : Value) (b : Int) (w : World) (hl : Wrs w v l) (h : (wschk l).2 = 0) (hb : ¬ (0 ≤ b ∧ b < 5)) :
    Calls Tryd.prog 21 #[v, .int .i64 b] w fun e w' => e = .returned (.tuple #[.slice none 0 0, .iface 53 (.int .i64 1)]) ∧ Below w.heap.size w w' := by
  have hc := flcheck_any l v w hl
  obtain ⟨ao, cap, rfl⟩ := hl.form
  rw [h, show wErr 0 = .nilIface from rfl] at hc
  obtain ⟨p, hp⟩ : ∃ q, q = (wschk l).1 := ⟨_, rfl⟩
  rw [← hp] at hc
  clear hp h hl
  have h1 := fun W => flroom_no b W hb
  clear hb
  go_enter Tryd.func21, Tryd.ntmps21
  go_wp2_with (first
    | (go_at_call 24; refine hc.mono ?_; rintro e w1 ⟨rfl, b1⟩; clear hc)
    | (go_at_call 25; refine (h1 _).mono ?_; rintro e w2 ⟨rfl, rfl⟩; clear h1))
  go_ret2
  exact ⟨rfl, b1⟩
set_option maxRecDepth 100000 in
set_option maxHeartbeats 4000000 in
theorem ahead_ok (l : List W4) (v : Value) (b : Nat) (w : World) (hl : Wrs w v l) (h : (wschk l).2 = 0) (hb : b < 5) :
    Calls Tryd.prog 21 #[v, .int .i64 b] w fun e w' => ∃ u, e = .returned (.tuple #[u, .nilIface]) ∧ w'.ownsRow w.heap.size 3 1 u (ahd l b 5).length (ints (ahd l b 5)) ∧ Below w.heap.size w w' := by
  obtain ⟨ii, hi, hz0, hz1, hz2⟩ := info_parts infoInt
  have hc := flcheck_any l v w hl
  have hk := wschk_ok h
  have HR : Hid (∀ w1, Below w.heap.size w w1 → Calls Tryd.prog 26 #[v] w1 fun e w' => e = .returned (.agg (wayCells l).toArray) ∧ Below w1.heap.size w1 w') := fun w1 b1 => reached_any l v w1 (hl.all b1) hk.1 hk.2
  obtain ⟨ao, cap, rfl⟩ := hl.form
  rw [h, show wErr 0 = .nilIface from rfl] at hc
  obtain ⟨p, hp⟩ : ∃ q, q = (wschk l).1 := ⟨_, rfl⟩
  rw [← hp] at hc
  clear hp h hl hk
  have h1 := fun W => flroom_yes b W (by omega) (by omega)
  have HI : Hid (∀ a : Nat, a < 5 → ∀ w : World, (Instr.index 62 (.agg (wayCells l).toArray) (.int .i64 (a : Int))).run Tryd.prog w = .ok (.agg #[.bool (way l a 0), .bool (way l a 1), .bool (way l a 2), .bool (way l a 3), .bool (way l a 4)]) w) := index_ways l
  go_enter Tryd.func21, Tryd.ntmps21
  go_wp2_with (first
    | (go_at_call 24; refine hc.mono ?_; rintro e w1 ⟨rfl, b1⟩; clear hc; have hr := HR.out w1 b1; clear HR)
    | (go_at_call 25; refine (h1 _).mono ?_; rintro e w2 ⟨rfl, rfl⟩; clear h1)
    | (go_at_call 26; refine hr.mono ?_; rintro e w4 ⟨rfl, b4⟩; clear hr))
  have bw : Below w.heap.size w w4 := b1.trans (b4.mono b1.size)
  clear b1 b4
  go_loopw [8, 25] (fun o i wr => ∃ k : Nat, k ≤ 5 ∧ i = .int .i64 k ∧ wr.ownsRow w.heap.size 3 1 o (ahd l b k).length (ints (ahd l b k)) ∧ Below w.heap.size w wr) (fun _ i _ => 5 - (intOf i).toNat)
  case atStart => exact ⟨0, Nat.zero_le _, rfl, World.ownsRow_nil _ _ _ _, bw⟩
  case round =>
    obtain ⟨k, hk, rfl, own, hB⟩ := hrel
    have hlen := ahd_len l b k
    by_cases hk5 : k < 5
    · have hki : (k : Int) < 5 := by omega
      have hix := HI.out k hk5
      have cb : ∀ (W : World), (W.alloc (.cells #[.bool (way l k 0), .bool (way l k 1), .bool (way l k 2), .bool (way l k 3), .bool (way l k 4)] 38)).cell? ⟨W.heap.size, b, none⟩ = some (.bool (way l k b)) := fun W => (Rw.new W (way l k) 38 b hb).1
      have hbi : (b : Int) < 5 := by omega
      have hsz := hB.size
      cases hwy : way l k b with
      | true =>
        have HY : Hid (ahd l b (k + 1) = ahd l b k ++ [(k : Int)]) := ahd_yes hwy
        rw [hwy] at cb
        clear hwy
        go_wp2_with (at_builtin; refine wpList_append_own _ rfl _ _ 26 rfl w.heap.size 3 ii (.int .i64 0) 1 8 Tryd.underlying26 hi hz0 hz1 hz2 rfl (by decide) _ _ _ rfl ((own.alloc _).alloc _) ⟨wr.heap.size + 1, 0, none⟩ 1 1 [.int .i64 k] rfl rfl ?c1A ?c2A ?c3A ?c4A ?c5A ?_)
        case c1A => exact one_new_at (by simp) _ _
        case c2A => exact one_one k
        case c3A => unfold maxLen; omega
        case c4A => omega
        case c5A => simp; omega
        intro v1 w2 own2 hg1 _
        have hB2 : Below w.heap.size w w2 := ((hB.alloc hB.size _).alloc (by simp; omega) _).grown hg1 (by simp; omega) (fun j hj => (own.lt j hj).1)
        have HO : Hid (w2.ownsRow w.heap.size 3 1 v1 (ahd l b (k + 1)).length (ints (ahd l b (k + 1)))) := by
          show World.ownsRow _ _ _ _ _ _ _
          rw [HY.out, ints_snoc, List.length_append]
          exact own2
        clear own own2 hg1
        go_wp2
        go_roundw
        case rel => exact ⟨k + 1, by omega, by go_num, HO.out, hB2⟩
        case measure => simp [intOf]; omega
      | false =>
        have HY : Hid (ahd l b (k + 1) = ahd l b k) := ahd_no hwy
        rw [hwy] at cb
        clear hwy
        have own2 := own.alloc (.cells #[.bool (way l k 0), .bool (way l k 1), .bool (way l k 2), .bool (way l k 3), .bool (way l k 4)] 38)
        have HO : Hid ((wr.alloc (.cells #[.bool (way l k 0), .bool (way l k 1), .bool (way l k 2), .bool (way l k 3), .bool (way l k 4)] 38)).ownsRow w.heap.size 3 1 u8 (ahd l b (k + 1)).length (ints (ahd l b (k + 1)))) := by
          show World.ownsRow _ _ _ _ _ _ _
          rw [HY.out]
          exact own2
        clear own own2
        go_wp2
        go_roundw
        case rel => exact ⟨k + 1, by omega, by go_num, HO.out, hB.alloc hsz _⟩
        case measure => simp [intOf]; omega
    · obtain rfl : k = 5 := by omega
      have HO : Hid (wr.ownsRow w.heap.size 3 1 u8 (ahd l b 5).length (ints (ahd l b 5))) := own
      obtain ⟨g, cap, rfl⟩ : ∃ g cap, u8 = .slice g (ahd l b 5).length cap := by
        rcases row_form own with ⟨h1, h2⟩ | ⟨g, cap, h1⟩
        · exact ⟨_, _, by rw [h2]; exact h1⟩
        · exact ⟨_, _, h1⟩
      clear own
      go_wp2
      go_ret2
      exact ⟨_, rfl, HO.out, hB⟩
end Go.Proofs.YtbnliibgnnegeagDoor

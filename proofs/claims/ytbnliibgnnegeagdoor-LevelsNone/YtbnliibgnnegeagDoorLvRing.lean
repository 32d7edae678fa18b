/-
  Package levels: the ring of a room.
-/
import Derived.Test.YtbnliibgnnegeagDoorLvAll
namespace Go.Proofs.YtbnliibgnnegeagDoor
open Go.RowKit

/-- Of the first of some rooms those that a room reaches. -/
def rgTo (l : List W4) (r : Nat) (xs : List Int) (j : Nat) : List Int := (xs.take j).filter (fun z => way l r z.toNat)
theorem rgTo_yes {l : List W4} {r j : Nat} {xs : List Int} {z : Int} (hz : xs[j]? = some z) (h : way l r z.toNat = true) : rgTo l r xs (j + 1) = rgTo l r xs j ++ [z] := by
  obtain ⟨hj, rfl⟩ := List.getElem?_eq_some_iff.1 hz
  unfold rgTo
  rw [List.take_succ_eq_append_getElem hj, List.filter_append]
  simp [h]
theorem rgTo_no {l : List W4} {r j : Nat} {xs : List Int} {z : Int} (hz : xs[j]? = some z) (h : way l r z.toNat = false) : rgTo l r xs (j + 1) = rgTo l r xs j := by
  obtain ⟨hj, rfl⟩ := List.getElem?_eq_some_iff.1 hz
  unfold rgTo
  rw [List.take_succ_eq_append_getElem hj, List.filter_append]
  simp [h]
theorem rgTo_len (l : List W4) (r : Nat) (xs : List Int) (j : Nat) : (rgTo l r xs j).length ≤ xs.length := by
  unfold rgTo
  refine Nat.le_trans (List.length_filter_le _ _) ?_
  rw [List.length_take]
  exact Nat.min_le_right _ _
theorem grp_pos (l : List W4) {r : Nat} (hr : r < 5) : 0 < (grp l r).length := List.length_pos_of_mem ((grpTo_mem l r 5 _).2 ⟨r, rfl, hr, both_self l r⟩)
set_option maxRecDepth 100000 in
set_option maxHeartbeats 4000000 in
theorem lvring_any (l : List W4) (kb r : Nat) (w : World) (h : Ahs w l kb) (hr : r < 5) :
    Calls Tryd.prog 17 #[.pointer (some ⟨kb, 0, none⟩), .int .i64 r] w fun e w' => ∃ g cap, e = .returned (.slice (some ⟨g, 0, none⟩) (grp l r).length cap) ∧ w'.ownsRow w.heap.size 3 1 (.slice (some ⟨g, 0, none⟩) (grp l r).length cap) (grp l r).length (ints (grp l r)) ∧ Below w.heap.size w w' := by
  obtain ⟨ii, hi, hz0, hz1, hz2⟩ := info_parts infoInt
  obtain ⟨u, c0, g, cap, rfl, _, hg, hc⟩ := h.2 r hr
  have HH : Hid (Ahs w l kb) := h
  have HC : Hid (∀ (j : Nat) x, (ahd l r 5)[j]? = some x → w.cell? ⟨g, j, none⟩ = some (.int .i64 x)) := hc
  have HG : Hid (grp l r = rgTo l r (ahd l r 5) (ahd l r 5).length) := by
    show _ = _
    unfold rgTo grp
    rw [List.take_length, ahd_grp]
  have HP : Hid (0 < (grp l r).length) := grp_pos l hr
  have HM : Hid (∀ z, z ∈ ahd l r 5 → 0 ≤ z ∧ z < 5) := ahd_room l r 5
  have hlen := ahd_len l r 5
  have hri : (r : Int) < 5 := by omega
  clear h hc
  obtain ⟨xs, hxs⟩ : ∃ xs, xs = ahd l r 5 := ⟨_, rfl⟩
  rw [← hxs] at c0 HC HG HM hlen
  clear hxs
  go_enter Tryd.func17, Tryd.ntmps17
  go_wp2
  go_loopw [5, 14] (fun o i wr => ∃ k : Nat, k ≤ xs.length ∧ i = .int .i64 k ∧ wr.ownsRow w.heap.size 3 1 o (rgTo l r xs k).length (ints (rgTo l r xs k)) ∧ Below w.heap.size w wr) (fun _ i _ => xs.length - (intOf i).toNat)
  case atStart => exact ⟨0, Nat.zero_le _, rfl, World.ownsRow_nil _ _ _ _, Below.refl _ _⟩
  case round =>
    obtain ⟨k, hk, rfl, own, hB⟩ := hrel
    have hgl := rgTo_len l r xs k
    by_cases hkl : k < xs.length
    · have hki : (k : Int) < (xs.length : Int) := by omega
      obtain ⟨z, hz⟩ : ∃ z, xs[k]? = some z := ⟨xs[k], List.getElem?_eq_getElem hkl⟩
      have d0 := (hB.cell (p := ⟨g, k, none⟩) hg).trans (HC.out k z hz)
      obtain ⟨hz0', hz5⟩ := HM.out z (List.mem_of_getElem? hz)
      obtain ⟨q, rfl⟩ : ∃ q : Nat, z = q := ⟨z.toNat, by omega⟩
      have hq5 : q < 5 := by omega
      have hrc := lvreach_any l kb r q wr (HH.out.below hB) hr hq5
      have hsz := hB.size
      cases hw : way l r q with
      | false =>
        have HY : Hid (rgTo l r xs (k + 1) = rgTo l r xs k) := rgTo_no hz hw
        rw [hw] at hrc
        clear hw hz
        go_wp2_with (go_at_call 22; refine hrc.mono ?_; rintro e w1 ⟨rfl, rfl⟩; clear hrc)
        go_roundw
        case rel => exact ⟨k + 1, by omega, by go_num, by rw [HY.out]; exact own, hB⟩
        case measure => simp [intOf]; omega
      | true =>
        have HY : Hid (rgTo l r xs (k + 1) = rgTo l r xs k ++ [(q : Int)]) := rgTo_yes hz hw
        rw [hw] at hrc
        clear hw hz
        go_wp2_with (first
          | (go_at_call 22; refine hrc.mono ?_; rintro e w1 ⟨rfl, rfl⟩; clear hrc)
          | (at_builtin; refine wpList_append_own _ rfl _ _ 26 rfl w.heap.size 3 ii (.int .i64 0) 1 8 Tryd.underlying26 hi hz0 hz1 hz2 rfl (by decide) _ _ _ rfl (own.alloc _) ⟨w1.heap.size, 0, none⟩ 1 1 [.int .i64 q] rfl rfl ?c1A ?c2A ?c3A ?c4A ?c5A ?_))
        case c1A => exact one_new_at rfl _ _
        case c2A => exact one_one q
        case c3A => unfold maxLen; omega
        case c4A => omega
        case c5A => simp; omega
        intro v1 w2 own2 hg1 _
        have hB2 : Below w.heap.size w w2 := (hB.alloc hB.size _).grown hg1 (by simp; omega) (fun j hj => (own.lt j hj).1)
        have HO : Hid (w2.ownsRow w.heap.size 3 1 v1 (rgTo l r xs (k + 1)).length (ints (rgTo l r xs (k + 1)))) := by
          show World.ownsRow _ _ _ _ _ _ _
          rw [HY.out, ints_snoc, List.length_append]
          exact own2
        clear own own2 hg1
        go_wp2
        go_roundw
        case rel => exact ⟨k + 1, by omega, by go_num, HO.out, hB2⟩
        case measure => simp [intOf]; omega
    · obtain rfl : k = xs.length := by omega
      have hki : decide ((xs.length : Int) < (xs.length : Int)) = false := by simp
      rw [← HG.out] at own hgl
      have HO : Hid (wr.ownsRow w.heap.size 3 1 u5 (grp l r).length (ints (grp l r))) := own
      obtain ⟨gb, gcap, rfl⟩ : ∃ gb gcap, u5 = Value.slice (some ⟨gb, 0, none⟩) (grp l r).length gcap := by
        rcases row_form own with ⟨_, h0⟩ | h1
        · have := HP.out
          omega
        · exact h1
      clear own
      go_wp2
      go_ret
      exact ⟨_, _, rfl, HO.out, hB⟩
end Go.Proofs.YtbnliibgnnegeagDoor

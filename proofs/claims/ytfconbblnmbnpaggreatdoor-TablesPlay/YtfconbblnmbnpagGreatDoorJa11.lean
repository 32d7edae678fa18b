/-
  WSend, DLineOps, GSmall, GUse, GTake: joined into one text.
-/
import Derived.Test.YtfconbblnmbnpagGreatDoorJa10
import Derived.Test.YtfconbblnmbnpagGreatDoorJa1
import Derived.Test.YtfconbblnmbnpagGreatDoorJa2
import Derived.Deep.RegionHeld3
import Derived.Deep.CutRange
import Derived.Deep.RegionWith
import Derived.BigQuiet
import Derived.RangeFuncNested
import Derived.Test.YtfconbblnmbnpagGreatDoorPlAny
import Derived.Test.YtfconbblnmbnpagGreatDoorJa4
namespace Go.Proofs.YtfconbblnmbnpagGreatDoor
open Go.RowKit

set_option maxRecDepth 100000 in
set_option maxHeartbeats 2000000 in
theorem wnew_no (f t k d : Int) (w : World) (h : wchk f t k d ≠ 0) : Calls Tryz.prog 37 #[wV f t k d] w fun e w' => e = .returned (.tuple #[.pointer none, .iface 64 (.int .i64 (wchk f t k d))]) ∧ Below w.heap.size w w' := by
  have hA : Below w.heap.size w (w.alloc (.cells #[.int .i64 f, .int .i64 t, .int .i64 k, .int .i64 d] 60)) := (Below.refl _ _).alloc (Nat.le_refl _) _
  have hc := wcheck_any f t k d (w.alloc (.cells #[.int .i64 f, .int .i64 t, .int .i64 k, .int .i64 d] 60))
  rw [wErr_not h] at hc
  clear h
  generalize wchk f t k d = q at hc ⊢
  unfold wV at hc ⊢
  go_enter Tryz.func37, Tryz.ntmps37
  go_wp2_with (go_at_call 46; refine hc.mono ?_; rintro e w1 ⟨rfl, b1⟩; clear hc)
  go_ret2
  exact ⟨rfl, hA.trans (b1.mono hA.size)⟩
set_option maxRecDepth 100000 in
set_option maxHeartbeats 2000000 in
theorem wnew_ok (f t k d : Int) (w : World) (h : wchk f t k d = 0) : Calls Tryz.prog 37 #[wV f t k d] w fun e w' => ∃ b, e = .returned (.tuple #[.pointer (some ⟨b, 0, none⟩), .nilIface]) ∧ LnC w' b k d 0 (.slice none 0 0) ∧ w.heap.size ≤ b ∧ b < w'.heap.size ∧ Below w.heap.size w w' := by
  have hA : Below w.heap.size w (w.alloc (.cells #[.int .i64 f, .int .i64 t, .int .i64 k, .int .i64 d] 60)) := (Below.refl _ _).alloc (Nat.le_refl _) _
  have hc := wcheck_any f t k d (w.alloc (.cells #[.int .i64 f, .int .i64 t, .int .i64 k, .int .i64 d] 60))
  rw [h] at hc
  have hc' : Calls Tryz.prog 46 #[wV f t k d] (w.alloc (.cells #[.int .i64 f, .int .i64 t, .int .i64 k, .int .i64 d] 60)) fun e w' => e = .returned .nilIface ∧ Below (w.heap.size + 1) (w.alloc (.cells #[.int .i64 f, .int .i64 t, .int .i64 k, .int .i64 d] 60)) w' := hc.mono fun e w' ⟨h1, h2⟩ => ⟨h1, by simpa using h2⟩
  clear h hc
  unfold wV at hc' ⊢
  go_enter Tryz.func37, Tryz.ntmps37
  go_wp2_with (go_at_call 46; refine hc'.mono ?_; rintro e w1 ⟨rfl, b1⟩; clear hc'; have r2 : w1.cell? ⟨w.heap.size, 2, none⟩ = some (.int .i64 k) := (b1.cell (p := ⟨w.heap.size, 2, none⟩) (by simp)).trans (by simp); have r3 : w1.cell? ⟨w.heap.size, 3, none⟩ = some (.int .i64 d) := (b1.cell (p := ⟨w.heap.size, 3, none⟩) (by simp)).trans (by simp))
  go_ret2
  have hz : w.heap.size + 1 ≤ w1.heap.size := by have := b1.size; simpa using this
  refine ⟨w1.heap.size, rfl, ⟨by simp, by simp, by simp, by simp, by simp, by simp⟩, by omega, by simp, ?_⟩
  exact (hA.trans (b1.mono (by omega))).alloc (by omega) _

set_option maxRecDepth 100000 in
set_option maxHeartbeats 2000000 in
theorem send_range (v : Value) (n : Int) (w : World) (h : n < 0 ∨ 1000 ≤ n) : Calls Tryz.prog 85 #[v, .int .i64 n] w fun e w' => e = .returned (.tuple #[.bool false, .iface 64 (.int .i64 1)]) ∧ w' = w := by
  have ho := wout_yes n w h
  clear h
  go_enter Tryz.func85, Tryz.ntmps85
  go_wp2_with (go_at_call 90; refine ho.mono ?_; rintro e w1 ⟨rfl, hw1⟩; subst hw1; clear ho)
  go_ret2
  exact ⟨rfl, rfl⟩

set_option maxRecDepth 100000 in
set_option maxHeartbeats 4000000 in
theorem send_full (base b : Nat) (dp : Int) (xs : List Int) (ls : Int) (v : Value) (n : Int) (w : World) (hn0 : 0 ≤ n) (hn1 : n < 1000) (hls : 0 ≤ ls ∧ ls < 1000000000) (hL : Ln w base b 2 dp xs ls v) (hdp : dp ≤ (xs.length : Int)) :
    Calls Tryz.prog 85 #[.pointer (some ⟨b, 0, none⟩), .int .i64 n] w fun e w' => e = .returned (.tuple #[.bool false, .nilIface]) ∧ Ln w' base b 2 dp xs (ls + 1) v ∧ Touch w w' b v v := by
  have hcc := hL.c
  have hlt := hcc.lt
  obtain ⟨c0, c1, c2, c3, f2, f3⟩ := hcc
  obtain ⟨ao, cap, rfl⟩ : ∃ ao cap, v = .slice ao xs.length cap := by
    rcases row_form hL.row with ⟨rfl, h⟩ | ⟨g, cap, rfl⟩
    · exact ⟨_, _, by rw [h]⟩
    · exact ⟨_, _, rfl⟩
  have HL : Hid (Ln w base b 2 dp xs ls (.slice ao xs.length cap)) := hL
  clear hL
  obtain ⟨hls0, hls1⟩ := hls
  go_enter Tryz.func85, Tryz.ntmps85
  go_wp2_with (go_at_call 90; refine (wout_no n _ hn0 hn1).mono ?_; rintro e wz ⟨rfl, hwz⟩; subst wz)
  go_quiet (fail)
  go_wp2
  go_ret2
  have hq := HL.out.below (below_dN (Below.refl _ w) nq)
  exact ⟨rfl, ⟨hq.c.lost _, ownsRow_setCell_below hq.row (a := ⟨b, 3, none⟩) hq.lt _, hq.lt, by have := hq.le; simpa using this⟩, ((Touch.refl w b _).dN nq).set 3 _⟩

set_option maxRecDepth 100000 in
set_option maxHeartbeats 4000000 in
theorem send_room (base b : Nat) (dp : Int) (xs : List Int) (ls : Int) (v : Value) (n : Int) (w : World) (hn0 : 0 ≤ n) (hn1 : n < 1000) (hL : Ln w base b 2 dp xs ls v) (hdp : (xs.length : Int) < dp) (hx : xs.length ≤ 1000000) :
    Calls Tryz.prog 85 #[.pointer (some ⟨b, 0, none⟩), .int .i64 n] w fun e w' => ∃ v', e = .returned (.tuple #[.bool true, .nilIface]) ∧ Ln w' base b 2 dp (xs ++ [n]) ls v' ∧ Touch w w' b v v' := by
  obtain ⟨ii, hi, hz0, hz1, hz2⟩ := info_parts infoInt
  have hcc := hL.c
  have hlt := hcc.lt
  obtain ⟨c0, c1, c2, c3, f2, f3⟩ := hcc
  obtain ⟨ao, cap, rfl⟩ : ∃ ao cap, v = .slice ao xs.length cap := by
    rcases row_form hL.row with ⟨rfl, h⟩ | ⟨g, cap, rfl⟩
    · exact ⟨_, _, by rw [h]⟩
    · exact ⟨_, _, rfl⟩
  have HL : Hid (Ln w base b 2 dp xs ls (.slice ao xs.length cap)) := hL
  clear hL
  go_enter Tryz.func85, Tryz.ntmps85
  go_wp2_with (go_at_call 90; refine (wout_no n _ hn0 hn1).mono ?_; rintro e wz ⟨rfl, hwz⟩; subst wz)
  go_quiet (fail)
  have hq := HL.out.below (below_dN (Below.refl _ w) nq)
  have HQ : Hid (Ln (w.drewN nq) base b 2 dp xs ls (.slice ao xs.length cap)) := hq
  have hrow := hq.row
  clear hq
  go_wp2_with (at_builtin; refine wpList_append_at _ rfl _ _ 28 rfl base 3 ii (.int .i64 0) 1 8 Tryz.underlying28 hi hz0 hz1 hz2 rfl (by decide) _ _ _ rfl (hrow.alloc _) ⟨(w.drewN nq).heap.size, 0, none⟩ 1 1 [.int .i64 n] rfl rfl ?c1A ?c2A ?c3A ?c4A ?c5A ?_)
  case c1A => exact one_new _ _ _
  case c2A => exact one_one n
  case c3A => unfold maxLen; omega
  case c4A => omega
  case c5A => have := HQ.out.le; simp at this ⊢; omega
  intro v1 w2 own1 hg1 hat1
  have hne1 : some b ≠ (Value.slice ao xs.length cap).ownBlock := fun e => by have := (hrow.lt _ e.symm).1; have := HQ.out.lt; omega
  have hs1 : w.heap.size + 1 ≤ w2.heap.size := by have := hg1.size; simpa using this
  have hT : Touch w w2 b (.slice ao xs.length cap) v1 := (((Touch.refl w b _).dN nq).alloc _).grown hg1 (fun k hk => by have := hat1 k hk; simpa using this)
  have hc2 : LnC w2 b 2 dp ls (.slice ao xs.length cap) := (HQ.out.c.block (Below.heap_alloc _ _ _ (by simpa using hlt))).block (hg1.block b (by simp; omega) hne1)
  have HC : Hid (LnC w2 b 2 dp ls (.slice ao xs.length cap)) := hc2
  obtain ⟨k0, k1, k2, k3, k4, k5⟩ := hc2
  clear hrow hg1 hat1 c0 c1 c2 c3 f2 f3 k0 k1 k3 k5
  have hlt2 : b < w2.heap.size := by omega
  have hrow2 := ownsRow_setCell_below own1 (a := ⟨b, 2, none⟩) HQ.out.lt v1
  obtain ⟨g1, cap1, rfl⟩ : ∃ g cap, v1 = .slice (some ⟨g, 0, none⟩) (xs.length + 1) cap := by
    rcases row_form own1 with ⟨_, h⟩ | h
    · omega
    · exact h
  clear own1
  go_wp2
  go_ret2
  exact ⟨_, rfl, ⟨HC.out.items _, by rw [ints_snoc, List.length_append]; exact hrow2, HQ.out.lt, by have := HQ.out.le; simp at this ⊢; omega⟩, hT.set 2 _⟩

set_option maxRecDepth 100000 in
set_option maxHeartbeats 4000000 in
theorem send_sample (base b : Nat) (xs : List Int) (ls : Int) (v : Value) (n : Int) (w : World) (hn0 : 0 ≤ n) (hn1 : n < 1000) (hL : Ln w base b 1 1 xs ls v) :
    Calls Tryz.prog 85 #[.pointer (some ⟨b, 0, none⟩), .int .i64 n] w fun e w' => ∃ v', e = .returned (.tuple #[.bool true, .nilIface]) ∧ Ln w' base b 1 1 [n] ls v' ∧ Touch w w' b v v' := by
  obtain ⟨ii, hi, hz0, hz1, hz2⟩ := info_parts infoInt
  have hcc := hL.c
  have hlt := hcc.lt
  obtain ⟨c0, c1, c2, c3, f2, f3⟩ := hcc
  have HL : Hid (Ln w base b 1 1 xs ls v) := hL
  have hrw := hL.row
  clear hL
  rcases row_form hrw with ⟨rfl, hx0⟩ | ⟨g, cap, rfl⟩
  · have hrow0 := World.ownsRow_nil w base 3 1
    clear hrw
    have hL1 : Ln (w.setCell ⟨b, 2, none⟩ (.slice none 0 0)) base b 1 1 [] ls (.slice none 0 0) := ⟨HL.out.c.items _, ownsRow_setCell_below hrow0 (a := ⟨b, 2, none⟩) HL.out.lt _, HL.out.lt, by have := HL.out.le; simpa using this⟩
    have hT1 : Touch w (w.setCell ⟨b, 2, none⟩ (.slice none 0 0)) b (.slice none 0 0) (.slice none 0 0) := ((Touch.refl w b _).set 2 _).cut rfl
    have HL1 : Hid (Ln (w.setCell ⟨b, 2, none⟩ (.slice none 0 0)) base b 1 1 [] ls (.slice none 0 0)) := hL1
    clear hL1
    go_enter Tryz.func85, Tryz.ntmps85
    go_wp2_with (go_at_call 90; refine (wout_no n _ hn0 hn1).mono ?_; rintro e wz ⟨rfl, hwz⟩; subst wz)
    go_quiet (fail)
    have hq := HL1.out.below (below_dN (Below.refl _ _) nq)
    have HQ : Hid (Ln ((w.setCell ⟨b, 2, none⟩ (.slice none 0 0)).drewN nq) base b 1 1 [] ls (.slice none 0 0)) := hq
    have hrow := hq.row
    clear hq
    go_wp2_with (at_builtin; refine wpList_append_at _ rfl _ _ 28 rfl base 3 ii (.int .i64 0) 1 8 Tryz.underlying28 hi hz0 hz1 hz2 rfl (by decide) _ _ _ rfl (hrow.alloc _) ⟨w.heap.size, 0, none⟩ 1 1 [.int .i64 n] rfl rfl ?c1A ?c2A ?c3A ?c4A ?c5A ?_)
    case c1A => exact one_new_at (by simp) _ _
    case c2A => exact one_one n
    case c3A => unfold maxLen; simp
    case c4A => simp
    case c5A => have := HQ.out.le; simp at this ⊢; omega
    intro v1 w2 own1 hg1 hat1
    have hne1 : some b ≠ (Value.slice none 0 0).ownBlock := fun e => by have := (hrow.lt _ e.symm).1; have := HQ.out.lt; omega
    have hs1 : w.heap.size + 1 ≤ w2.heap.size := by have := hg1.size; simpa using this
    have hT : Touch w w2 b (.slice none 0 0) v1 := ((hT1.dN nq).alloc _).grown hg1 (fun k hk => by have := hat1 k hk; simpa using this)
    have hc2 : LnC w2 b 1 1 ls (.slice none 0 0) := (HQ.out.c.block (Below.heap_alloc _ _ _ (by simpa using hlt))).block (hg1.block b (by simp; omega) hne1)
    have HC : Hid (LnC w2 b 1 1 ls (.slice none 0 0)) := hc2
    obtain ⟨k0, k1, k2, k3, k4, k5⟩ := hc2
    clear hrow hg1 hat1 c0 c1 c2 c3 f2 f3 k0 k1 k3 k5
    have hlt2 : b < w2.heap.size := by omega
    have hrow2 := ownsRow_setCell_below own1 (a := ⟨b, 2, none⟩) HQ.out.lt v1
    obtain ⟨g1, cap1, rfl⟩ : ∃ g cap, v1 = .slice (some ⟨g, 0, none⟩) 1 cap := by
      rcases row_form own1 with ⟨_, h⟩ | h
      · simp at h
      · simpa using h
    clear own1
    go_wp2
    go_ret2
    exact ⟨_, rfl, ⟨HC.out.items _, hrow2, HQ.out.lt, by have := HQ.out.le; simp at this ⊢; omega⟩, hT.set 2 _⟩
  · obtain ⟨hg0, hg1, hg2, hg3, _, _, _⟩ := own_cap hrw
    have hrow0 := own_cut hrw (Nat.zero_le _)
    unfold maxLen at hg3
    clear hrw
    have hL1 : Ln (w.setCell ⟨b, 2, none⟩ (.slice (some ⟨g, 0, none⟩) 0 cap)) base b 1 1 [] ls (.slice (some ⟨g, 0, none⟩) 0 cap) := ⟨HL.out.c.items _, ownsRow_setCell_below hrow0 (a := ⟨b, 2, none⟩) HL.out.lt _, HL.out.lt, by have := HL.out.le; simpa using this⟩
    have hT1 : Touch w (w.setCell ⟨b, 2, none⟩ (.slice (some ⟨g, 0, none⟩) 0 cap)) b (.slice (some ⟨g, 0, none⟩) xs.length cap) (.slice (some ⟨g, 0, none⟩) 0 cap) := ((Touch.refl w b _).set 2 _).cut rfl
    have HL1 : Hid (Ln (w.setCell ⟨b, 2, none⟩ (.slice (some ⟨g, 0, none⟩) 0 cap)) base b 1 1 [] ls (.slice (some ⟨g, 0, none⟩) 0 cap)) := hL1
    clear hL1
    go_enter Tryz.func85, Tryz.ntmps85
    go_wp2_with (go_at_call 90; refine (wout_no n _ hn0 hn1).mono ?_; rintro e wz ⟨rfl, hwz⟩; subst wz)
    go_quiet (fail)
    have hq := HL1.out.below (below_dN (Below.refl _ _) nq)
    have HQ : Hid (Ln ((w.setCell ⟨b, 2, none⟩ (.slice (some ⟨g, 0, none⟩) 0 cap)).drewN nq) base b 1 1 [] ls (.slice (some ⟨g, 0, none⟩) 0 cap)) := hq
    have hrow := hq.row
    clear hq
    go_wp2_with (at_builtin; refine wpList_append_at _ rfl _ _ 28 rfl base 3 ii (.int .i64 0) 1 8 Tryz.underlying28 hi hz0 hz1 hz2 rfl (by decide) _ _ _ rfl (hrow.alloc _) ⟨w.heap.size, 0, none⟩ 1 1 [.int .i64 n] rfl rfl ?c1A ?c2A ?c3A ?c4A ?c5A ?_)
    case c1A => exact one_new_at (by simp) _ _
    case c2A => exact one_one n
    case c3A => unfold maxLen; simp
    case c4A => simp
    case c5A => have := HQ.out.le; simp at this ⊢; omega
    intro v1 w2 own1 hg1 hat1
    have hne1 : some b ≠ (Value.slice (some ⟨g, 0, none⟩) 0 cap).ownBlock := fun e => by have := (hrow.lt _ e.symm).1; have := HQ.out.lt; omega
    have hs1 : w.heap.size + 1 ≤ w2.heap.size := by have := hg1.size; simpa using this
    have hT : Touch w w2 b (.slice (some ⟨g, 0, none⟩) xs.length cap) v1 := ((hT1.dN nq).alloc _).grown hg1 (fun k hk => by have := hat1 k hk; simpa using this)
    have hc2 : LnC w2 b 1 1 ls (.slice (some ⟨g, 0, none⟩) 0 cap) := (HQ.out.c.block (Below.heap_alloc _ _ _ (by simpa using hlt))).block (hg1.block b (by simp; omega) hne1)
    have HC : Hid (LnC w2 b 1 1 ls (.slice (some ⟨g, 0, none⟩) 0 cap)) := hc2
    obtain ⟨k0, k1, k2, k3, k4, k5⟩ := hc2
    clear hrow hg1 hat1 c0 c1 c2 c3 f2 f3 k0 k1 k3 k5
    have hlt2 : b < w2.heap.size := by omega
    have hrow2 := ownsRow_setCell_below own1 (a := ⟨b, 2, none⟩) HQ.out.lt v1
    obtain ⟨g1, cap1, rfl⟩ : ∃ g cap, v1 = .slice (some ⟨g, 0, none⟩) 1 cap := by
      rcases row_form own1 with ⟨_, h⟩ | h
      · simp at h
      · simpa using h
    clear own1
    go_wp2
    go_ret2
    exact ⟨_, rfl, ⟨HC.out.items _, hrow2, HQ.out.lt, by have := HQ.out.le; simp at this ⊢; omega⟩, hT.set 2 _⟩
end Go.Proofs.YtfconbblnmbnpagGreatDoor
namespace Go.Proofs.YtfconbblnmbnpagGreatDoor
open Go.RowKit

theorem Ln.first {w : World} {base b : Nat} {kd dp ls : Int} {x : Int} {ys : List Int} {v : Value} (h : Ln w base b kd dp (x :: ys) ls v) : ∃ g cap, v = .slice (some ⟨g, 0, none⟩) (ys.length + 1) cap ∧ w.cell? ⟨g, 0, none⟩ = some (.int .i64 x) := by
  rcases h.form with ⟨_, e⟩ | ⟨g, cap, rfl⟩
  · cases e
  · have := h.row.cells (g := g) rfl 0 (.int .i64 x) (by simp [ints])
    rw [Addr.add_lit, Nat.zero_add] at this
    exact ⟨g, cap, rfl, this⟩
theorem Ln.none {w : World} {base b : Nat} {kd dp ls : Int} {v : Value} (h : Ln w base b kd dp [] ls v) : ∃ ao cap, v = .slice ao 0 cap := by
  rcases h.form with ⟨rfl, _⟩ | ⟨g, cap, rfl⟩
  · exact ⟨_, _, rfl⟩
  · exact ⟨_, _, rfl⟩
theorem dpeek_l (base b : Nat) (l : LnD) (u : Value) (w : World) (hL : Ln w base b l.w.2.2.1 l.w.2.2.2 l.xs l.ls u) :
    Calls Tryz.prog 78 #[.pointer (some ⟨b, 0, none⟩)] w fun e w' => e = .returned (.tuple #[.int .i64 (headL l).1, .bool (headL l).2]) ∧ w' = w := by
  obtain ⟨x, xs, ls⟩ := l
  cases xs with
  | nil =>
    obtain ⟨ao, cap, rfl⟩ := Ln.none hL
    exact peek_none b _ _ ls ao cap w hL.c
  | cons n ys =>
    obtain ⟨g, cap, rfl, h1⟩ := Ln.first hL
    exact peek_some b _ _ ls g _ cap n w hL.c (by omega) h1
theorem dtake_l (base b : Nat) (l : LnD) (u : Value) (w : World) (hk : l.w.2.2.1 = 1 ∨ l.w.2.2.1 = 2) (hh : (headL l).2 = true) (hL : Ln w base b l.w.2.2.1 l.w.2.2.2 l.xs l.ls u) :
    Calls Tryz.prog 84 #[.pointer (some ⟨b, 0, none⟩)] w fun e w' => ∃ u', e = .returned (.tuple #[.int .i64 (headL l).1, .nilIface]) ∧ Ln w' base b (restL l).w.2.2.1 (restL l).w.2.2.2 (restL l).xs (restL l).ls u' ∧ Touch w w' b u u' := by
  obtain ⟨x, xs, ls⟩ := l
  simp only at hk hL
  cases xs with
  | nil => simp [headL] at hh
  | cons n ys =>
    rcases hk with h1 | h2
    · have e2 : restL ⟨x, n :: ys, ls⟩ = ⟨x, n :: ys, ls⟩ := by simp [restL, h1]
      rw [e2]
      obtain ⟨g, cap, rfl, hc⟩ := Ln.first hL
      rw [h1] at hL
      refine (take_sample b _ ls g _ cap n w hL.c (by omega) hc).mono ?_
      rintro e w' ⟨rfl, rfl⟩
      exact ⟨_, rfl, by simp only [h1]; exact hL, Touch.refl _ _ _⟩
    · have e2 : restL ⟨x, n :: ys, ls⟩ = ⟨x, ys, ls⟩ := by simp [restL, h2]
      rw [e2]
      rw [h2] at hL
      refine (take_queue base b _ ls n ys u w hL).mono ?_
      rintro e w' ⟨u', rfl, h3, h4⟩
      exact ⟨u', rfl, by simp only [h2]; exact h3, h4⟩
theorem dsend_l (base b : Nat) (l : LnD) (u : Value) (n : Int) (w : World) (hk : (l.w.2.2.1 = 1 ∧ l.w.2.2.2 = 1) ∨ l.w.2.2.1 = 2) (hn : 0 ≤ n ∧ n ≤ 999) (hls : 0 ≤ l.ls ∧ l.ls < 1000000000) (hx : l.xs.length ≤ 1000000) (hL : Ln w base b l.w.2.2.1 l.w.2.2.2 l.xs l.ls u) :
    Calls Tryz.prog 85 #[.pointer (some ⟨b, 0, none⟩), .int .i64 n] w fun e w' => ∃ u', e = .returned (.tuple #[.bool (fitL l), .nilIface]) ∧ Ln w' base b (putL l n).w.2.2.1 (putL l n).w.2.2.2 (putL l n).xs (putL l n).ls u' ∧ Touch w w' b u u' := by
  obtain ⟨x, xs, ls⟩ := l
  simp only at hk hls hx hL
  rcases hk with ⟨h1, h1'⟩ | h2
  · have e1 : fitL ⟨x, xs, ls⟩ = true := by simp [fitL, h1]
    have e2 : putL ⟨x, xs, ls⟩ n = ⟨x, [n], ls⟩ := by simp [putL, h1]
    rw [e1, e2]
    rw [h1, h1'] at hL
    refine (send_sample base b xs ls u n w hn.1 (by omega) hL).mono ?_
    rintro e w' ⟨u', rfl, h3, h4⟩
    exact ⟨u', rfl, by simp only [h1, h1']; exact h3, h4⟩
  · rw [h2] at hL
    by_cases hd : (xs.length : Int) < x.2.2.2
    · have e1 : fitL ⟨x, xs, ls⟩ = true := by simp [fitL, hd]
      have e2 : putL ⟨x, xs, ls⟩ n = ⟨x, xs ++ [n], ls⟩ := by simp [putL, h2, hd]
      rw [e1, e2]
      refine (send_room base b _ xs ls u n w hn.1 (by omega) hL hd hx).mono ?_
      rintro e w' ⟨u', rfl, h3, h4⟩
      exact ⟨u', rfl, by simp only [h2]; exact h3, h4⟩
    · have e1 : fitL ⟨x, xs, ls⟩ = false := by simp [fitL, h2]; omega
      have e2 : putL ⟨x, xs, ls⟩ n = ⟨x, xs, ls + 1⟩ := by simp [putL, h2, hd]
      rw [e1, e2]
      refine (send_full base b _ xs ls u n w hn.1 (by omega) hls hL (by omega)).mono ?_
      rintro e w' ⟨rfl, h3, h4⟩
      exact ⟨u, rfl, by simp only [h2]; exact h3, h4⟩
end Go.Proofs.YtfconbblnmbnpagGreatDoor
namespace Go.Proofs.YtfconbblnmbnpagGreatDoor
open Go.RowKit

set_option maxRecDepth 100000 in
set_option maxHeartbeats 1000000 in
theorem kbelow_yes (n b : Int) (w : World) (h0 : 0 ≤ n) (h1 : n < b) : Calls Tryz.prog 42 #[.int .i64 n, .int .i64 b] w fun e w' => e = .returned (.bool true) ∧ w' = w := by
  go_enter Tryz.func42, Tryz.ntmps42
  go_wp2
  go_ret
  exact ⟨rfl, rfl⟩
set_option maxRecDepth 100000 in
set_option maxHeartbeats 1000000 in
theorem kbelow_no (n b : Int) (w : World) (h : ¬ (0 ≤ n ∧ n < b)) : Calls Tryz.prog 42 #[.int .i64 n, .int .i64 b] w fun e w' => e = .returned (.bool false) ∧ w' = w := by
  by_cases h0 : 0 ≤ n
  · have h1 : decide (n < b) = false := by simp; omega
    clear h
    go_enter Tryz.func42, Tryz.ntmps42
    go_wp2
    go_ret
    exact ⟨rfl, rfl⟩
  · have h0' : decide (0 ≤ n) = false := by simp; omega
    clear h
    go_enter Tryz.func42, Tryz.ntmps42
    go_wp2
    go_ret
    exact ⟨rfl, rfl⟩
theorem kbelow_any (n b : Int) (w : World) : Calls Tryz.prog 42 #[.int .i64 n, .int .i64 b] w fun e w' => e = .returned (.bool (decide (0 ≤ n) && decide (n < b))) ∧ w' = w := by
  by_cases h : 0 ≤ n ∧ n < b
  · refine (kbelow_yes n b w h.1 h.2).mono ?_
    rintro e w' ⟨rfl, rfl⟩
    simp [h.1, h.2]
  · refine (kbelow_no n b w h).mono ?_
    rintro e w' ⟨rfl, rfl⟩
    refine ⟨?_, rfl⟩
    have : (decide (0 ≤ n) && decide (n < b)) = false := by
      rw [← Bool.decide_and]
      exact decide_eq_false h
    rw [this]
set_option maxRecDepth 100000 in
set_option maxHeartbeats 4000000 in
theorem gstate_any (p : PD) (k : KD) (kb base : Nat) (a : GW) (r : Int) (w : World) (h : GK w base p k kb a) :
    Calls Tryz.prog 27 #[.pointer (some ⟨kb, 0, none⟩), .int .i64 r] w fun e w' => e = .returned (.tuple #[stA (roomK k r), wErr (errB (noRoom k r))]) ∧ Below w.heap.size w w' := by
  have c3 := h.c3
  have hkb := h.lt.1
  by_cases hr : 0 ≤ r ∧ r < (k.rooms.length : Int)
  · obtain ⟨n, rfl⟩ : ∃ n : Nat, r = n := ⟨r.toNat, by omega⟩
    have hn : n < k.rooms.length := by omega
    have hni : (n : Int) < (k.rooms.length : Int) := by omega
    have hno : noRoom k n = false := by
      unfold noRoom
      rw [Bool.or_eq_false_iff]
      exact ⟨decide_eq_false (by omega), decide_eq_false (by omega)⟩
    have hrk : roomK k n = k.rooms[n] := by
      unfold roomK
      rw [if_neg (by rw [hno]; decide), Int.toNat_natCast]
      simp [List.getD, hn]
    have hst := h.rooms n k.rooms[n] (List.getElem?_eq_getElem hn)
    rw [hrk, hno]
    generalize k.rooms[n] = s at hst ⊢
    obtain ⟨s0, s1, s2, s3, s4, s5, s6, s7⟩ := hst
    have hrb := wlt s0
    have hn0 := World.new_ne w ⟨a.rb, n * 8, none⟩ s0
    have hnk := World.new_ne w ⟨kb, 3, none⟩ c3
    clear h hno hrk hr
    go_enter Tryz.func27, Tryz.ntmps27
    go_wp2_with (go_at_call 42; refine (kbelow_yes _ _ _ (by omega) hni).mono ?_; rintro e w1 ⟨rfl, hw1⟩; subst hw1)
    refine bodyPost_ret (v := .tuple #[stA s, wErr (errB false)]) ?_ rfl ⟨rfl, ?_⟩
    · simp [results, Tryz.results27, go_sem, stA, wErr, errB]
    · repeat' first | exact Below.refl _ _ | refine Below.drew ?_ | refine Below.alloc ?_ (by simp <;> omega) _ | refine Below.setCell ?_ (by simp <;> omega) _
  · have hno : noRoom k r = true := by
      unfold noRoom
      rw [Bool.or_eq_true]
      by_cases h0 : r < 0
      · exact Or.inl (decide_eq_true h0)
      · exact Or.inr (decide_eq_true (by omega))
    have hrk : roomK k r = stNew := by
      unfold roomK
      rw [if_pos hno]
    rw [hrk, hno]
    have hnk := World.new_ne w ⟨kb, 3, none⟩ c3
    clear h hno hrk
    go_enter Tryz.func27, Tryz.ntmps27
    go_wp2_with (go_at_call 42; refine (kbelow_no _ _ _ hr).mono ?_; rintro e w1 ⟨rfl, hw1⟩; subst hw1)
    refine bodyPost_ret (v := .tuple #[stA stNew, wErr (errB true)]) ?_ rfl ⟨rfl, ?_⟩
    · simp [results, Tryz.results27, go_sem, stA, stNew, wErr, errB]
    · repeat' first | exact Below.refl _ _ | refine Below.drew ?_ | refine Below.alloc ?_ (by simp <;> omega) _ | refine Below.setCell ?_ (by simp <;> omega) _
end Go.Proofs.YtfconbblnmbnpagGreatDoor
namespace Go.Proofs.YtfconbblnmbnpagGreatDoor
open Go.RowKit

/-- A span's room is not there. -/
def notThere (n : Nat) (s : S3) : Bool := !(decide (0 ≤ s.2.2) && decide (s.2.2 < (n : Int)))
set_option maxRecDepth 100000 in
set_option maxHeartbeats 1000000 in
theorem usenot_any (s : S3) (bb kb n rc : Nat) (ra : Option Addr) (w : World) (h0 : w.cell? ⟨bb, 0, none⟩ = some (.pointer (some ⟨kb, 0, none⟩))) (h3 : w.cell? ⟨kb, 3, none⟩ = some (.slice ra n rc)) :
    Calls Tryz.prog 56 #[.agg #[.int .i64 s.1, .int .i64 s.2.1, .int .i64 s.2.2], .pointer (some ⟨bb, 0, none⟩)] w fun e w' => e = .returned (.bool (notThere n s)) ∧ Below w.heap.size w w' := by
  have hn0 := World.new_ne w ⟨bb, 0, none⟩ h0
  have hn3 := World.new_ne w ⟨kb, 3, none⟩ h3
  obtain ⟨a, b, r⟩ := s
  unfold notThere
  simp only
  have HB : Hid (∀ W, Calls Tryz.prog 42 #[.int .i64 r, .int .i64 n] W fun e w' => e = .returned (.bool (decide (0 ≤ r) && decide (r < (n : Int)))) ∧ w' = W) := fun W => kbelow_any r n W
  generalize (decide (0 ≤ r) && decide (r < (n : Int))) = q at HB ⊢
  go_enter Tryz.func56, Tryz.ntmps56
  go_upto_region 1 with fail
  have hA : Below w.heap.size w (w.alloc (.cells #[.int .i64 a, .int .i64 b, .int .i64 r] 58)) := (Below.refl _ _).alloc (Nat.le_refl _) _
  have k0 := (hA.cell (p := ⟨bb, 0, none⟩) (wlt h0)).trans h0
  have k3 := (hA.cell (p := ⟨kb, 3, none⟩) (wlt h3)).trans h3
  have kr : (w.alloc (.cells #[.int .i64 a, .int .i64 b, .int .i64 r] 58)).cell? ⟨w.heap.size, 2, none⟩ = some (.int .i64 r) := by simp
  generalize w.alloc (.cells #[.int .i64 a, .int .i64 b, .int .i64 r] 58) = W1 at *
  go_quiet ((go_at_call 42; exact Calls.quiet_of_same (HB.out _)))
  go_wp2_with fail
  go_ret
  exact ⟨rfl, below_dN hA _⟩
set_option maxRecDepth 100000 in
set_option maxHeartbeats 2000000 in
theorem idx_use (l : List S3) (P : S3 → Bool) (b off cap rb : Nat) (w : World) (hlen : l.length ≤ 12) (hlt : b < w.heap.size) (hc : SpC w b off l)
    (hcl : ∀ W, Below w.heap.size w W → ∀ o ∈ l, Calls Tryz.prog 56 #[.agg #[.int .i64 o.1, .int .i64 o.2.1, .int .i64 o.2.2], .pointer (some ⟨rb, 0, none⟩)] W fun e w' => e = .returned (.bool (P o)) ∧ Below W.heap.size W w') :
    Calls Tryz.prog 63 #[.slice (some ⟨b, off, none⟩) l.length cap, .func (.func 56) #[] #[.pointer (some ⟨rb, 0, none⟩)]] w fun e w' =>
      (∃ r : Int, e = .returned (.int .i64 r) ∧ decide (0 ≤ r) = l.any P) ∧ Below w.heap.size w w' := by
  have HCL : Hid (∀ W, Below w.heap.size w W → ∀ o ∈ l, Calls Tryz.prog 56 #[.agg #[.int .i64 o.1, .int .i64 o.2.1, .int .i64 o.2.2], .pointer (some ⟨rb, 0, none⟩)] W fun e w' => e = .returned (.bool (P o)) ∧ Below W.heap.size W w') := hcl
  have HC : Hid (SpC w b off l) := hc
  clear hcl hc
  go_enter Tryz.func63, Tryz.ntmps63
  go_wp2
  go_loopw [8] (fun i wr => ∃ k : Nat, k ≤ l.length ∧ i = .int .i64 k ∧ Hid (∀ (j : Nat) x, j < k → l[j]? = some x → P x = false) ∧ Below w.heap.size w wr) (fun i _ => l.length - (intOf i).toNat)
  case atStart => exact ⟨0, Nat.zero_le _, rfl, fun j x hj => by omega, Below.refl _ _⟩
  case round =>
    obtain ⟨k, hk, rfl, Hall, hb⟩ := hrel
    by_cases hkl : k < l.length
    · obtain ⟨o, ho⟩ : ∃ o, l[k]? = some o := ⟨l[k], List.getElem?_eq_getElem hkl⟩
      have HO : Hid (l[k]? = some o) := ho
      obtain ⟨c0, c1, c2⟩ := HC.out.below hb hlt k o ho
      have hon := HCL.out wr hb o (List.mem_of_getElem? ho)
      clear ho
      cases hok : P o with
      | false =>
        have HN : Hid (P o = false) := hok
        rw [hok] at hon
        clear hok
        go_wp2_with (go_at_call 56; refine hon.mono ?_; rintro e w1 ⟨rfl, b1⟩; clear hon)
        go_roundw
        case rel => exact ⟨k + 1, by omega, by go_num, upto_next Hall.out HO.out HN.out, hb.trans (b1.mono hb.size)⟩
        case measure => simp [intOf]; omega
      | true =>
        have HF : Hid (l.any P = true) := cany_hit HO.out hok
        rw [hok] at hon
        clear hok
        go_wp2_with (go_at_call 56; refine hon.mono ?_; rintro e w1 ⟨rfl, b1⟩; clear hon)
        go_ret
        exact ⟨⟨_, rfl, by rw [HF.out]; simp⟩, hb.trans (b1.mono hb.size)⟩
    · have HF : Hid (l.any P = false) := cany_miss (fun i x hi hx => Hall.out i x (by omega) hx)
      go_wp2
      go_ret
      exact ⟨⟨_, rfl, by rw [HF.out]; simp⟩, hb⟩
set_option maxRecDepth 100000 in
set_option maxHeartbeats 2000000 in
theorem con_use (l : List S3) (P : S3 → Bool) (v : Value) (rb : Nat) (w : World) (hlen : l.length ≤ 12) (hv : Sps w v l)
    (hcl : ∀ W, Below w.heap.size w W → ∀ o ∈ l, Calls Tryz.prog 56 #[.agg #[.int .i64 o.1, .int .i64 o.2.1, .int .i64 o.2.2], .pointer (some ⟨rb, 0, none⟩)] W fun e w' => e = .returned (.bool (P o)) ∧ Below W.heap.size W w') :
    Calls Tryz.prog 45 #[v, .func (.func 56) #[] #[.pointer (some ⟨rb, 0, none⟩)]] w fun e w' => e = .returned (.bool (l.any P)) ∧ Below w.heap.size w w' := by
  have h : ∃ ao n cap, v = .slice ao n cap ∧ Calls Tryz.prog 63 #[.slice ao n cap, .func (.func 56) #[] #[.pointer (some ⟨rb, 0, none⟩)]] w fun e w' => (∃ r : Int, e = .returned (.int .i64 r) ∧ decide (0 ≤ r) = l.any P) ∧ Below w.heap.size w w' := by
    rcases hv with ⟨rfl, ao, cap, rfl⟩ | ⟨b, off, cap, rfl, _, hlt, hc⟩
    · refine ⟨ao, 0, cap, rfl, (idx_spn_nil _ ao cap w).mono ?_⟩
      rintro e w' ⟨rfl, hb⟩
      exact ⟨⟨_, rfl, by simp⟩, hb⟩
    · exact ⟨_, _, cap, rfl, idx_use l P b off cap rb w hlen hlt hc hcl⟩
  obtain ⟨ao, n, cap, rfl, h⟩ := h
  clear hv hcl
  go_enter Tryz.func45, Tryz.ntmps45
  go_wp2_with (go_at_call 63; refine h.mono ?_; rintro e w1 ⟨⟨r, rfl, hr⟩, bb⟩; clear h; have HR : Hid (decide (0 ≤ r) = l.any P) := hr; clear hr)
  go_ret
  exact ⟨ret_bool HR.out, bb⟩
/-- Spans that fit name rooms that are there. -/
theorem fit_there {p : PD} (h : plchk p = 0) : p.spans.any (notThere p.code.length) = false := by
  obtain ⟨_, _, h3, _, h5, _⟩ := plchk_zero h
  obtain ⟨_, _, _, h6, _⟩ := fchk_zero h3
  rw [List.any_eq_false] at h5 ⊢
  intro s hs
  have h7 := h6 s hs
  have h8 := h5 s hs
  unfold spOk at h7
  unfold spanOut at h8
  simp only [decide_eq_true_eq] at h7 h8
  unfold notThere
  simp only [Bool.not_eq_true', Bool.not_eq_false, Bool.and_eq_true, decide_eq_true_eq]
  omega
/-- Other spans are laid into it. -/
theorem GK.use {w w3 : World} {base : Nat} {p : PD} {k : KD} {kb : Nat} {a : GW} {sp : List S3} {sv : Value} (h : GK w base p k kb a) (hbw : base ≤ w.heap.size) (hb : Below w.heap.size w w3) (hown : w3.ownsRow w.heap.size 58 3 sv sp.length (spCells sp)) :
    GK (w3.setCell ⟨kb, 2, none⟩ sv) base (withS p sp) k kb { a with sv := sv, F0 := sv.ownBlock.toList ++ a.F0 } := by
  have h3 := h.all hb
  have hs := hb.size
  have ht : KTouch [kb] w3 (w3.setCell ⟨kb, 2, none⟩ sv) := KTouch.set w3 (by simp) 2 _
  have hblk : ∀ g, g ≠ kb → (w3.setCell ⟨kb, 2, none⟩ sv).heap[g]? = w3.heap[g]? := fun g hg => Below.heap_setCell _ _ _ _ hg
  have b2 : (w3.setCell ⟨kb, 2, none⟩ sv).heap[a.rb]? = w3.heap[a.rb]? := hblk _ (Ne.symm h.ap.1)
  have hkb := h.lt.1
  have hrb := h.lt.2.1
  have hsz : (w3.setCell ⟨kb, 2, none⟩ sv).heap.size = w3.heap.size := by simp
  have hnew : ∀ g, sv.ownBlock = some g → w.heap.size ≤ g ∧ g < w3.heap.size := fun g hg => hown.lt g hg
  have hF : ∀ g ∈ sv.ownBlock.toList ++ a.F0, (sv.ownBlock = some g) ∨ g ∈ a.F0 := fun g hg => (List.mem_append.1 hg).imp ofOwn id
  have hown9 : (w3.setCell ⟨kb, 2, none⟩ sv).ownsRow w.heap.size 58 3 sv sp.length (spCells sp) := own_block hown (fun g hg => hblk g (by have := (hnew g hg).1; omega))
  refine ⟨by simpa [go_sem] using h3.c0, by simpa [go_sem, withS] using h3.c1, by simp [go_sem, h3.c2], by simpa [go_sem] using h3.c3, by simpa [go_sem] using h3.c4, by simpa [go_sem] using h3.c5, by simpa using h3.f5, by simpa using h3.f2, fun w' hs' hb' => ⟨?_, ?_⟩, fun i s hi => (h3.rooms i s hi).block b2, fun o => by simpa using h3.rf o, h3.lines.frame ht (fun m hm => ?_), fun g hg => ?_, ⟨by rw [hsz]; omega, by rw [hsz]; show a.rb < _; omega, fun g hg => ?_⟩, h.ap, ⟨fun hm => ?_, fun hm => ?_, fun g hg => ?_⟩⟩
  · refine (h3.src w' (by omega) (fun g hg => ?_)).1
    exact (hb' g (List.mem_append_right _ hg)).trans (hblk g (fun e => h.ap0.1 (by rw [← e]; exact hg)))
  · exact sps_of_own (own_block hown9 (fun g hg => hb' g (List.mem_append_left _ (by simp [hg]))))
  · rw [List.mem_singleton] at hm
    subst hm
    exact h.ap.2.1
  · unfold GW.F at hg
    simp only [List.mem_cons, List.mem_append] at hg
    have hold : ∀ g, g ∈ a.F kb → base ≤ g := h.ge
    unfold GW.F at hold
    simp only [List.mem_cons, List.mem_append] at hold
    rcases hg with e | e | (e | e) | e
    · exact hold g (Or.inl e)
    · exact hold g (Or.inr (Or.inl e))
    · have := (hnew g (ofOwn e)).1
      omega
    · exact hold g (Or.inr (Or.inr (Or.inl e)))
    · exact hold g (Or.inr (Or.inr (Or.inr e)))
  · rw [hsz]
    rcases hF g hg with e | e
    · exact (hnew g e).2
    · have := h.lt.2.2 g e
      omega
  · rcases hF kb hm with e | e
    · have := (hnew kb e).1
      omega
    · exact h.ap0.1 e
  · rcases hF a.rb hm with e | e
    · have := (hnew a.rb e).1
      omega
    · exact h.ap0.2.1 e
  · rcases hF g hg with e | e
    · intro hm
      have h1 := h.lines.flt g hm
      have h2 := (hnew g e).1
      omega
    · exact h.ap0.2.2 g e
set_option maxRecDepth 100000 in
set_option maxHeartbeats 8000000 in
theorem guse_ok (p : PD) (k : KD) (kb base : Nat) (a : GW) (sp : List S3) (v : Value) (w : World) (h : GK w base p k kb a) (hbw : base ≤ w.heap.size) (hv : Sps w v sp) (hp : plchk (withS p sp) = 0) (hk : KOk p k) :
    Calls Tryz.prog 39 #[.pointer (some ⟨kb, 0, none⟩), v] w fun e w' => e = .returned .nilIface ∧ ∃ a', GK w' base (withS p sp) k kb a' ∧ KTouch [kb] w w' ∧ ∀ g ∈ a'.F kb, g ∈ a.F kb ∨ w.heap.size ≤ g := by
  obtain ⟨sa, sc, rfl⟩ := hv.form
  have hfz : (fchk p.ticks sp).2 = 0 := (plchk_zero hp).2.2.1
  have hf0 : fchk p.ticks sp = (0, 0) := (fchk_zero hfz).2.2.2.2
  have hsl : sp.length ≤ 12 := (fchk_zero hfz).2.2.1
  have hany : sp.any (notThere k.rooms.length) = false := by rw [hk.rl]; exact fit_there hp
  have hA : Below w.heap.size w (w.alloc (.cells #[.pointer (some ⟨kb, 0, none⟩)] 65)) := (Below.refl _ _).alloc (Nat.le_refl _) _
  have hbox : (w.alloc (.cells #[.pointer (some ⟨kb, 0, none⟩)] 65)).cell? ⟨w.heap.size, 0, none⟩ = some (.pointer (some ⟨kb, 0, none⟩)) := by simp
  have hlt0 : w.heap.size < (w.alloc (.cells #[.pointer (some ⟨kb, 0, none⟩)] 65)).heap.size := by simp
  generalize hW1 : w.alloc (.cells #[.pointer (some ⟨kb, 0, none⟩)] 65) = W1 at hA hbox hlt0
  have HF : Hid (Calls Tryz.prog 31 #[.int .i64 p.ticks, .slice sa sp.length sc] W1 fun e w' => e = .returned (.tuple #[.int .i64 0, .nilIface]) ∧ Below W1.heap.size W1 w') := by
    have := fcheck_any p.ticks sp _ W1 (hv.all hA)
    rw [hf0] at this
    exact this
  have hkb := h.lt.1
  have HC : Hid (∀ W, Below W1.heap.size W1 W → Calls Tryz.prog 45 #[.slice sa sp.length sc, .func (.func 56) #[] #[.pointer (some ⟨w.heap.size, 0, none⟩)]] W fun e w' => e = .returned (.bool false) ∧ Below W.heap.size W w') := fun W hW => by
    have hwW := hA.trans (hW.mono hA.size)
    have := con_use sp (notThere k.rooms.length) _ w.heap.size W hsl (hv.all hwW) (fun W' hW' o _ => usenot_any o w.heap.size kb k.rooms.length a.rcap (some ⟨a.rb, 0, none⟩) W' ((hW'.cell (p := ⟨w.heap.size, 0, none⟩) (Nat.lt_of_lt_of_le hlt0 hW.size)).trans ((hW.cell (p := ⟨w.heap.size, 0, none⟩) hlt0).trans hbox)) ((h.all hwW).all hW').c3)
    rw [hany] at this
    exact this
  have HCl : Hid (∀ W, Below w.heap.size w W → Calls Tryz.prog 18 #[.slice sa sp.length sc] W fun e w' => ∃ ao n cap, e = .returned (.slice ao n cap) ∧ w'.ownsRow W.heap.size 58 3 (.slice ao n cap) sp.length (spCells sp) ∧ Below W.heap.size W w') := fun W hb => by
    refine (clone_sps sp _ W (hv.all hb) (by omega)).mono ?_
    rintro e w' ⟨v, rfl, h1, h2⟩
    obtain ⟨ao, n, cap, rfl⟩ := own_form h1
    exact ⟨ao, n, cap, rfl, h1, h2⟩
  have H : Hid (GK w base p k kb a) := h
  have c1 := (h.all hA).c1
  clear h hv hp hk hfz hf0 hany
  go_enter Tryz.func39, Tryz.ntmps39
  go_upto_region 1 with fail
  go_upto_region 7 with (first
    | (go_at_call 31; refine HF.out.mono ?_; rintro e w1 ⟨rfl, b1⟩)
    | (go_at_call 45; refine (HC.out w1 b1).mono ?_; rintro e w2 ⟨rfl, b2⟩))
  have hb2 : Below W1.heap.size W1 w2 := b1.trans (b2.mono b1.size)
  have hbw2 : Below w.heap.size w w2 := hA.trans (hb2.mono hA.size)
  have k0 : w2.cell? ⟨w.heap.size, 0, none⟩ = some (.pointer (some ⟨kb, 0, none⟩)) := (hb2.cell (p := ⟨w.heap.size, 0, none⟩) hlt0).trans hbox
  have hlt2 : w.heap.size < w2.heap.size := Nat.lt_of_lt_of_le hlt0 hb2.size
  clear HF HC b1 b2 hb2 c1 hbox hlt0 hW1 hA
  go_cut [25] from 25 to 29 (fun _ wx => ∃ w3 sv, Below w.heap.size w w3 ∧ w3.ownsRow w.heap.size 58 3 sv sp.length (spCells sp) ∧ wx = w3.setCell ⟨kb, 2, none⟩ sv)
  case first =>
    have bQ : Below w.heap.size w w2.drew := hbw2.drew
    have hkn : w.heap.size ≠ kb := by omega
    have kq : w2.drew.cell? ⟨w.heap.size, 0, none⟩ = some (.pointer (some ⟨kb, 0, none⟩)) := k0
    go_region_held3 (fun w' => w'.cell? ⟨w.heap.size, 0, none⟩ = some (.pointer (some ⟨kb, 0, none⟩)))
      (first | exact kq | exact k3 | exact k4 _ | go_keep)
      (first
        | (go_at_call 18; refine (HCl.out _ bQ).mono ?_; rintro e w3 ⟨ao, n, cap, rfl, hown, b3⟩; have k3 : w3.cell? ⟨w.heap.size, 0, none⟩ = some (.pointer (some ⟨kb, 0, none⟩)) := (b3.cell (p := ⟨w.heap.size, 0, none⟩) hlt2).trans kq; have k4 : ∀ v, (w3.setCell ⟨kb, 2, none⟩ v).cell? ⟨w.heap.size, 0, none⟩ = some (.pointer (some ⟨kb, 0, none⟩)) := fun v => (World.cell?_of_block (w := w3) (a := ⟨w.heap.size, 0, none⟩) (Below.heap_setCell _ _ _ _ hkn)).trans k3; have hb3 := bQ.trans (b3.mono bQ.size); have c2 := (H.out.all hb3).c2; have f2 := (H.out.all hb3).f2))
    go_wp2_with fail
    go_meet
    case rel => exact ⟨w3, _, hb3, own_base hown bQ.size, rfl⟩
  case rest =>
  obtain ⟨w3, sv, hb3, hown, rfl⟩ := hcut
  have D := H.out.use hbw hb3 hown
  go_wp2
  go_ret
  refine ⟨rfl, _, D, (KTouch.of hb3).trans (KTouch.set w3 (by simp) 2 _), fun g hg => ?_⟩
  unfold GW.F at hg ⊢
  simp only [List.mem_cons, List.mem_append] at hg ⊢
  rcases hg with e | e | (e | e) | e
  · exact Or.inl (Or.inl e)
  · exact Or.inl (Or.inr (Or.inl e))
  · exact Or.inr (hown.lt g (ofOwn e)).1
  · exact Or.inl (Or.inr (Or.inr (Or.inl e)))
  · exact Or.inl (Or.inr (Or.inr (Or.inr e)))
end Go.Proofs.YtfconbblnmbnpagGreatDoor
namespace Go.Proofs.YtfconbblnmbnpagGreatDoor
open Go.RowKit

set_option maxRecDepth 100000 in
set_option maxHeartbeats 4000000 in
theorem gturn_any (p : PD) (k : KD) (kb base : Nat) (a : GW) (w : World) (h : GK w base p k kb a) (hp : plchk p = 0) (hti : 0 ≤ k.time) :
    Calls Tryz.prog 40 #[.pointer (some ⟨kb, 0, none⟩)] w fun e w' => e = .returned (.int .i64 (hold p.spans (k.time % p.ticks))) ∧ Below w.heap.size w w' := by
  have hfz := (plchk_zero hp).2.2.1
  have hwr : whoR p.ticks p.spans k.time = (hold p.spans (k.time % p.ticks), 0) := by
    unfold whoR
    rw [if_pos hfz, if_neg (by omega)]
  have hsp := h.src.here.2
  obtain ⟨sa, sc, hsv⟩ := hsp.form
  rw [hsv] at hsp
  have HW : Hid (∀ W, Below w.heap.size w W → Calls Tryz.prog 57 #[.int .i64 p.ticks, .slice sa p.spans.length sc, .int .i64 k.time] W fun e w' => e = .returned (.tuple #[.int .i64 (hold p.spans (k.time % p.ticks)), .nilIface]) ∧ Below W.heap.size W w') := fun W hb => by
    have := who_any p.ticks p.spans (.slice sa p.spans.length sc) k.time W (hsp.all hb)
    rw [hwr] at this
    exact this
  have hkb := h.lt.1
  have c1 := h.c1
  have c2 := h.c2
  have c5 := h.c5
  rw [hsv] at c2
  have hcs : ∀ W, Below w.heap.size w W → W.cell? ⟨kb, 1, none⟩ = some (.int .i64 p.ticks) ∧ W.cell? ⟨kb, 2, none⟩ = some (.slice sa p.spans.length sc) ∧ W.cell? ⟨kb, 5, none⟩ = some (.int .i64 k.time) := fun W hb => ⟨(hb.cell (p := ⟨kb, 1, none⟩) hkb).trans c1, (hb.cell (p := ⟨kb, 2, none⟩) hkb).trans c2, (hb.cell (p := ⟨kb, 5, none⟩) hkb).trans c5⟩
  have bQ : Below w.heap.size w w.drew := (Below.refl _ _).drew
  clear h hsp hsv hwr hfz hp
  generalize hold p.spans (k.time % p.ticks) = r at HW ⊢
  go_enter Tryz.func40, Tryz.ntmps40
  go_upto_region 1 with fail
  go_region_held3 (fun w' => w'.cell? ⟨kb, 1, none⟩ = some (.int .i64 p.ticks) ∧ w'.cell? ⟨kb, 2, none⟩ = some (.slice sa p.spans.length sc) ∧ w'.cell? ⟨kb, 5, none⟩ = some (.int .i64 k.time))
    (first | exact ⟨c1, c2, c5⟩ | exact hcs _ bW | go_keep)
    (first
      | (go_at_call 57; refine (HW.out _ bQ).mono ?_; rintro e w1 ⟨rfl, b1⟩; have bW : Below w.heap.size w w1 := bQ.trans (b1.mono (by simp))))
  go_wp2
  go_ret
  exact ⟨rfl, bW⟩
/-- What an op may take. -/
def offG (k : KD) (o : O3) : Int × Bool := if o.1 = 9 then headL (lineAt k o) else (0, false)
set_option maxRecDepth 100000 in
set_option maxHeartbeats 4000000 in
theorem goff_no (kb : Nat) (x y z : Int) (w : World) (h9 : x ≠ 9) :
    Calls Tryz.prog 58 #[.pointer (some ⟨kb, 0, none⟩), .agg #[.int .i64 x, .int .i64 y, .int .i64 z]] w fun e w' => e = .returned (.tuple #[.int .i64 0, .bool false]) ∧ Below w.heap.size w w' := by
  have h9' : (x == 9) = false := by simpa using h9
  have h9'' : (x != 9) = true := by simpa using h9
  go_enter Tryz.func58, Tryz.ntmps58
  go_wp2
  go_ret2
  exact ⟨rfl, (Below.refl _ _).alloc (Nat.le_refl _) _⟩
set_option maxRecDepth 100000 in
set_option maxHeartbeats 4000000 in
theorem goff_yes (p : PD) (k : KD) (kb base : Nat) (a : GW) (y : Int) (n : Nat) (l : LnD) (w : World) (h : GK w base p k kb a) (hl : k.lines[n]? = some l) :
    Calls Tryz.prog 58 #[.pointer (some ⟨kb, 0, none⟩), .agg #[.int .i64 9, .int .i64 y, .int .i64 n]] w fun e w' => e = .returned (.tuple #[.int .i64 (headL l).1, .bool (headL l).2]) ∧ Below w.heap.size w w' := by
  have hn := (List.getElem?_eq_some_iff.1 hl).1
  have hni : (n : Int) < (k.lines.length : Int) := by omega
  obtain ⟨b, u, cap, l', hl', hb, hu, hlv, hcap, hptr, hln⟩ := h.lines.at hn
  obtain rfl : l = l' := Option.some.inj (hl.symm.trans hl')
  have c4 := h.c4
  rw [hlv] at c4
  have hnk := World.new_ne w ⟨kb, 4, none⟩ c4
  have hnl := World.new_ne w ⟨a.lr, n, none⟩ hptr
  have HP : Hid (∀ W, Below w.heap.size w W → Calls Tryz.prog 78 #[.pointer (some ⟨b, 0, none⟩)] W fun e w' => e = .returned (.tuple #[.int .i64 (headL l).1, .bool (headL l).2]) ∧ w' = W) := fun W hb => dpeek_l _ b l u W (hln.below hb)
  clear h hl hl' hb hu hlv hln
  go_enter Tryz.func58, Tryz.ntmps58
  go_upto_region 3 with fail
  have hA : Below w.heap.size w (w.alloc (.cells #[.int .i64 9, .int .i64 y, .int .i64 n] 81)).drew := ((Below.refl _ w).alloc (Nat.le_refl _) _).drew
  have d4 : (w.alloc (.cells #[.int .i64 9, .int .i64 y, .int .i64 n] 81)).drew.cell? ⟨kb, 4, none⟩ = some (.slice (some ⟨a.lr, 0, none⟩) k.lines.length cap) := (hA.cell (p := ⟨kb, 4, none⟩) (wlt c4)).trans c4
  have dl : (w.alloc (.cells #[.int .i64 9, .int .i64 y, .int .i64 n] 81)).drew.cell? ⟨a.lr, n, none⟩ = some (.pointer (some ⟨b, 0, none⟩)) := (hA.cell (p := ⟨a.lr, n, none⟩) (wlt hptr)).trans hptr
  have dn : (w.alloc (.cells #[.int .i64 9, .int .i64 y, .int .i64 n] 81)).drew.cell? ⟨w.heap.size, 2, none⟩ = some (.int .i64 n) := by simp
  go_region_held3 (fun w' => w'.cell? ⟨kb, 4, none⟩ = some (.slice (some ⟨a.lr, 0, none⟩) k.lines.length cap) ∧ w'.cell? ⟨w.heap.size, 2, none⟩ = some (.int .i64 n) ∧ w'.cell? ⟨a.lr, n, none⟩ = some (.pointer (some ⟨b, 0, none⟩)))
    (first | exact ⟨d4, dn, dl⟩ | go_keep)
    (first
      | (go_at_call 78; refine (HP.out _ hA).mono ?_; rintro e w1 ⟨rfl, hw1⟩; subst hw1))
  go_wp2
  go_ret2
  exact ⟨rfl, hA⟩
set_option maxRecDepth 100000 in
set_option maxHeartbeats 4000000 in
theorem gtake_none (p : PD) (k : KD) (kb base : Nat) (a : GW) (n : Nat) (l : LnD) (w : World) (h : GK w base p k kb a) (hl : k.lines[n]? = some l) (hh : (headL l).2 = false) :
    Calls Tryz.prog 60 #[.pointer (some ⟨kb, 0, none⟩), .int .i64 n] w fun e w' => e = .returned (.int .i64 3) ∧ w' = w := by
  have hn := (List.getElem?_eq_some_iff.1 hl).1
  have hni : (n : Int) < (k.lines.length : Int) := by omega
  obtain ⟨b, u, cap, l', hl', hb, hu, hlv, hcap, hptr, hln⟩ := h.lines.at hn
  obtain rfl : l = l' := Option.some.inj (hl.symm.trans hl')
  have c4 := h.c4
  rw [hlv] at c4
  have hx : l.xs = [] := by
    unfold headL at hh
    split at hh
    · assumption
    · cases hh
  rw [hx] at hln
  obtain ⟨ao, cu, rfl⟩ := Ln.none hln
  have HT : Hid (Calls Tryz.prog 84 #[.pointer (some ⟨b, 0, none⟩)] w fun e w' => e = .returned (.tuple #[.int .i64 0, .iface 64 (.int .i64 5)]) ∧ w' = w) := take_none b _ _ _ ao cu w hln.c
  clear h hl hl' hb hu hlv hln hx hh
  go_enter Tryz.func60, Tryz.ntmps60
  go_wp2_with (go_at_call 84; refine HT.out.mono ?_; rintro e w1 ⟨rfl, hw1⟩; subst hw1)
  go_ret
  exact ⟨rfl, rfl⟩
set_option maxRecDepth 100000 in
set_option maxHeartbeats 4000000 in
theorem gtake_some (p : PD) (k : KD) (kb base : Nat) (a : GW) (n : Nat) (l : LnD) (w : World) (h : GK w base p k kb a) (hbw : base ≤ w.heap.size) (hl : k.lines[n]? = some l) (hk : l.w.2.2.1 = 1 ∨ l.w.2.2.1 = 2) (hh : (headL l).2 = true) :
    Calls Tryz.prog 60 #[.pointer (some ⟨kb, 0, none⟩), .int .i64 n] w fun e w' => e = .returned (.int .i64 2) ∧ ∃ a', GK w' base p ⟨k.rooms, k.lines.set n (restL l), k.time⟩ kb a' ∧ KTouch (a.F kb) w w' ∧ ∀ g ∈ a'.F kb, g ∈ a.F kb ∨ w.heap.size ≤ g := by
  have hn := (List.getElem?_eq_some_iff.1 hl).1
  have hni : (n : Int) < (k.lines.length : Int) := by omega
  obtain ⟨b, u, cap, l', hl', hb, hu, hlv, hcap, hptr, hln⟩ := h.lines.at hn
  obtain rfl : l = l' := Option.some.inj (hl.symm.trans hl')
  have c4 := h.c4
  rw [hlv] at c4
  have HT : Hid (Calls Tryz.prog 84 #[.pointer (some ⟨b, 0, none⟩)] w fun e w' => e = .returned (.tuple #[.int .i64 (headL l).1, .nilIface]) ∧ ∃ a', GK w' base p ⟨k.rooms, k.lines.set n (restL l), k.time⟩ kb a' ∧ KTouch (a.F kb) w w' ∧ ∀ g ∈ a'.F kb, g ∈ a.F kb ∨ w.heap.size ≤ g) := by
    refine (dtake_l _ b l u w hk hh hln).mono ?_
    rintro e w' ⟨u', rfl, h3, h4⟩
    exact ⟨rfl, _, h.line hbw hb hu h4 h3⟩
  clear h hl hl' hb hu hlv hln hh hk
  go_enter Tryz.func60, Tryz.ntmps60
  go_wp2_with (go_at_call 84; refine HT.out.mono ?_; rintro e w1 ⟨rfl, hq⟩)
  go_ret
  exact ⟨rfl, hq⟩
set_option maxRecDepth 100000 in
set_option maxHeartbeats 4000000 in
theorem gsend_any (p : PD) (k : KD) (kb base : Nat) (a : GW) (n : Nat) (l : LnD) (x : Int) (w : World) (h : GK w base p k kb a) (hbw : base ≤ w.heap.size) (hl : k.lines[n]? = some l) (hk : (l.w.2.2.1 = 1 ∧ l.w.2.2.2 = 1) ∨ l.w.2.2.1 = 2) (hx : 0 ≤ x ∧ x ≤ 999) (hls : 0 ≤ l.ls ∧ l.ls < 1000000000) (hxs : l.xs.length ≤ 1000000) :
    Calls Tryz.prog 61 #[.pointer (some ⟨kb, 0, none⟩), .int .i64 n, .int .i64 x] w fun e w' => e = .returned (.int .i64 (if fitL l = true then 1 else 3)) ∧ ∃ a', GK w' base p ⟨k.rooms, k.lines.set n (putL l x), k.time⟩ kb a' ∧ KTouch (a.F kb) w w' ∧ ∀ g ∈ a'.F kb, g ∈ a.F kb ∨ w.heap.size ≤ g := by
  have hn := (List.getElem?_eq_some_iff.1 hl).1
  have hni : (n : Int) < (k.lines.length : Int) := by omega
  obtain ⟨b, u, cap, l', hl', hb, hu, hlv, hcap, hptr, hln⟩ := h.lines.at hn
  obtain rfl : l = l' := Option.some.inj (hl.symm.trans hl')
  have c4 := h.c4
  rw [hlv] at c4
  have HT : Hid (Calls Tryz.prog 85 #[.pointer (some ⟨b, 0, none⟩), .int .i64 x] w fun e w' => e = .returned (.tuple #[.bool (fitL l), .nilIface]) ∧ ∃ a', GK w' base p ⟨k.rooms, k.lines.set n (putL l x), k.time⟩ kb a' ∧ KTouch (a.F kb) w w' ∧ ∀ g ∈ a'.F kb, g ∈ a.F kb ∨ w.heap.size ≤ g) := by
    refine (dsend_l _ b l u x w hk hx hls hxs hln).mono ?_
    rintro e w' ⟨u', rfl, h3, h4⟩
    exact ⟨rfl, _, h.line hbw hb hu h4 h3⟩
  clear h hl hl' hb hu hlv hln hk hls hxs
  cases hfl : fitL l with
  | true =>
    rw [hfl] at HT
    go_enter Tryz.func61, Tryz.ntmps61
    go_wp2_with (go_at_call 85; refine HT.out.mono ?_; rintro e w1 ⟨rfl, hq⟩)
    go_ret
    exact ⟨rfl, hq⟩
  | false =>
    rw [hfl] at HT
    go_enter Tryz.func61, Tryz.ntmps61
    go_wp2_with (go_at_call 85; refine HT.out.mono ?_; rintro e w1 ⟨rfl, hq⟩)
    go_ret
    exact ⟨rfl, hq⟩
end Go.Proofs.YtfconbblnmbnpagGreatDoor

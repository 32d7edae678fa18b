/-
  WSame, WSend, WTake, WClone, WDel, WTake2, DLineOps, GSmall, GPoke, WHeld, DHeld, GWire: joined into one text.
-/
import Derived.Test.YtajfgmlockjmhadGreatDoorJa3
import Derived.Deep.RegionLaw
import Derived.Deep.RegionWith
import Derived.Lib.SliceRun
import Derived.Deep.RegionHeld3
import Derived.Deep.CutRange
import Derived.BigQuiet
import Derived.RangeFuncNested
namespace Go.Proofs.YtajfgmlockjmhadGreatDoor
open Go.RowKit

set_option maxRecDepth 1000000 in
set_option maxHeartbeats 4000000 in
theorem wheld_any (va vb : Value) (zs : List Int) (ls : Int) (w : World) (ha : Rd w va zs) (hb : Rd w vb zs) (hl : zs.length ≤ 1000000) :
    Calls Tryz.prog 15 #[.agg #[va, .int .i64 ls], .agg #[vb, .int .i64 ls]] w fun e w' => e = .returned (.bool true) ∧ Below w.heap.size w w' := by
  obtain ⟨aa, ac, rfl⟩ := ha.form
  obtain ⟨ba, bc, rfl⟩ := hb.form
  have hA : Below w.heap.size w ((w.alloc (.cells #[.slice aa zs.length ac, .int .i64 ls] 54)).alloc (.cells #[.slice ba zs.length bc, .int .i64 ls] 54)) := ((Below.refl _ _).alloc (Nat.le_refl _) _).alloc (by simp) _
  have h := wints_any _ _ zs _ (ha.all hA) (hb.all hA) hl
  clear ha hb
  go_enter Tryz.func15, Tryz.ntmps15
  go_wp2_with (go_at_call 39; refine h.mono ?_; rintro e w1 ⟨rfl, b1⟩; clear h)
  go_ret
  exact ⟨rfl, hA.trans (b1.mono hA.size)⟩
end Go.Proofs.YtajfgmlockjmhadGreatDoor
namespace Go.Proofs.YtajfgmlockjmhadGreatDoor
open Go.RowKit

set_option maxRecDepth 100000 in
set_option maxHeartbeats 2000000 in
theorem wnew_no (f t k d : Int) (w : World) (h : wchk f t k d ≠ 0) : Calls Tryz.prog 31 #[wV f t k d] w fun e w' => e = .returned (.tuple #[.pointer none, .iface 95 (.int .i64 (wchk f t k d))]) ∧ Below w.heap.size w w' := by
  have hA : Below w.heap.size w (w.alloc (.cells #[.int .i64 f, .int .i64 t, .int .i64 k, .int .i64 d] 56)) := (Below.refl _ _).alloc (Nat.le_refl _) _
  have hc := wcheck_any f t k d (w.alloc (.cells #[.int .i64 f, .int .i64 t, .int .i64 k, .int .i64 d] 56))
  rw [wErr_not h] at hc
  clear h
  generalize wchk f t k d = q at hc ⊢
  unfold wV at hc ⊢
  go_enter Tryz.func31, Tryz.ntmps31
  go_wp2_with (go_at_call 47; refine hc.mono ?_; rintro e w1 ⟨rfl, b1⟩; clear hc)
  go_ret2
  exact ⟨rfl, hA.trans (b1.mono hA.size)⟩
set_option maxRecDepth 100000 in
set_option maxHeartbeats 2000000 in
theorem wnew_ok (f t k d : Int) (w : World) (h : wchk f t k d = 0) : Calls Tryz.prog 31 #[wV f t k d] w fun e w' => ∃ b, e = .returned (.tuple #[.pointer (some ⟨b, 0, none⟩), .nilIface]) ∧ LnC w' b k d 0 (.slice none 0 0) ∧ w.heap.size ≤ b ∧ b < w'.heap.size ∧ Below w.heap.size w w' := by
  have hA : Below w.heap.size w (w.alloc (.cells #[.int .i64 f, .int .i64 t, .int .i64 k, .int .i64 d] 56)) := (Below.refl _ _).alloc (Nat.le_refl _) _
  have hc := wcheck_any f t k d (w.alloc (.cells #[.int .i64 f, .int .i64 t, .int .i64 k, .int .i64 d] 56))
  rw [h] at hc
  have hc' : Calls Tryz.prog 47 #[wV f t k d] (w.alloc (.cells #[.int .i64 f, .int .i64 t, .int .i64 k, .int .i64 d] 56)) fun e w' => e = .returned .nilIface ∧ Below (w.heap.size + 1) (w.alloc (.cells #[.int .i64 f, .int .i64 t, .int .i64 k, .int .i64 d] 56)) w' := hc.mono fun e w' ⟨h1, h2⟩ => ⟨h1, by simpa using h2⟩
  clear h hc
  unfold wV at hc' ⊢
  go_enter Tryz.func31, Tryz.ntmps31
  go_wp2_with (go_at_call 47; refine hc'.mono ?_; rintro e w1 ⟨rfl, b1⟩; clear hc'; have r2 : w1.cell? ⟨w.heap.size, 2, none⟩ = some (.int .i64 k) := (b1.cell (p := ⟨w.heap.size, 2, none⟩) (by simp)).trans (by simp); have r3 : w1.cell? ⟨w.heap.size, 3, none⟩ = some (.int .i64 d) := (b1.cell (p := ⟨w.heap.size, 3, none⟩) (by simp)).trans (by simp))
  go_ret2
  have hz : w.heap.size + 1 ≤ w1.heap.size := by have := b1.size; simpa using this
  refine ⟨w1.heap.size, rfl, ⟨by simp, by simp, by simp, by simp, by simp, by simp⟩, by omega, by simp, ?_⟩
  exact (hA.trans (b1.mono (by omega))).alloc (by omega) _

set_option maxRecDepth 100000 in
set_option maxHeartbeats 2000000 in
theorem send_range (v : Value) (n : Int) (w : World) (h : n < 0 ∨ 1000 ≤ n) : Calls Tryz.prog 81 #[v, .int .i64 n] w fun e w' => e = .returned (.tuple #[.bool false, .iface 95 (.int .i64 1)]) ∧ w' = w := by
  have ho := wout_yes n w h
  clear h
  go_enter Tryz.func81, Tryz.ntmps81
  go_wp2_with (go_at_call 97; refine ho.mono ?_; rintro e w1 ⟨rfl, hw1⟩; subst hw1; clear ho)
  go_ret2
  exact ⟨rfl, rfl⟩

set_option maxRecDepth 100000 in
set_option maxHeartbeats 4000000 in
theorem send_full (base b : Nat) (dp : Int) (xs : List Int) (ls : Int) (v : Value) (n : Int) (w : World) (hn0 : 0 ≤ n) (hn1 : n < 1000) (hls : 0 ≤ ls ∧ ls < 1000000000) (hL : Ln w base b 2 dp xs ls v) (hdp : dp ≤ (xs.length : Int)) :
    Calls Tryz.prog 81 #[.pointer (some ⟨b, 0, none⟩), .int .i64 n] w fun e w' => e = .returned (.tuple #[.bool false, .nilIface]) ∧ Ln w' base b 2 dp xs (ls + 1) v ∧ Touch w w' b v v := by
  have hcc := hL.c
  have hlt := hcc.lt
  obtain ⟨c0, c1, c2, c3, f2, f3⟩ := hcc
  obtain ⟨ao, cap, rfl⟩ : ∃ ao cap, v = .slice ao xs.length cap := by
    rcases row_form hL.row with ⟨rfl, h⟩ | ⟨g, cap, rfl⟩
    · exact ⟨_, _, by rw [h]⟩
    · exact ⟨_, _, rfl⟩
  have HL : Hid (Ln w base b 2 dp xs ls (.slice ao xs.length cap)) := hL
  clear hL
  obtain ⟨hls0, hls1⟩ := hls
  go_enter Tryz.func81, Tryz.ntmps81
  go_wp2_with (go_at_call 97; refine (wout_no n _ hn0 hn1).mono ?_; rintro e wz ⟨rfl, hwz⟩; subst wz)
  go_quiet (fail)
  go_wp2
  go_ret2
  have hq := HL.out.below (below_dN (Below.refl _ w) nq)
  exact ⟨rfl, ⟨hq.c.lost _, ownsRow_setCell_below hq.row (a := ⟨b, 3, none⟩) hq.lt _, hq.lt, by have := hq.le; simpa using this⟩, ((Touch.refl w b _).dN nq).set 3 _⟩

set_option maxRecDepth 100000 in
set_option maxHeartbeats 4000000 in
theorem send_room (base b : Nat) (dp : Int) (xs : List Int) (ls : Int) (v : Value) (n : Int) (w : World) (hn0 : 0 ≤ n) (hn1 : n < 1000) (hL : Ln w base b 2 dp xs ls v) (hdp : (xs.length : Int) < dp) (hx : xs.length ≤ 1000000) :
    Calls Tryz.prog 81 #[.pointer (some ⟨b, 0, none⟩), .int .i64 n] w fun e w' => ∃ v', e = .returned (.tuple #[.bool true, .nilIface]) ∧ Ln w' base b 2 dp (xs ++ [n]) ls v' ∧ Touch w w' b v v' := by
  obtain ⟨ii, hi, hz0, hz1, hz2⟩ := info_parts infoInt
  have hcc := hL.c
  have hlt := hcc.lt
  obtain ⟨c0, c1, c2, c3, f2, f3⟩ := hcc
  obtain ⟨ao, cap, rfl⟩ : ∃ ao cap, v = .slice ao xs.length cap := by
    rcases row_form hL.row with ⟨rfl, h⟩ | ⟨g, cap, rfl⟩
    · exact ⟨_, _, by rw [h]⟩
    · exact ⟨_, _, rfl⟩
  have HL : Hid (Ln w base b 2 dp xs ls (.slice ao xs.length cap)) := hL
  clear hL
  go_enter Tryz.func81, Tryz.ntmps81
  go_wp2_with (go_at_call 97; refine (wout_no n _ hn0 hn1).mono ?_; rintro e wz ⟨rfl, hwz⟩; subst wz)
  go_quiet (fail)
  have hq := HL.out.below (below_dN (Below.refl _ w) nq)
  have HQ : Hid (Ln (w.drewN nq) base b 2 dp xs ls (.slice ao xs.length cap)) := hq
  have hrow := hq.row
  clear hq
  go_wp2_with (at_builtin; refine wpList_append_at _ rfl _ _ 38 rfl base 3 ii (.int .i64 0) 1 8 Tryz.underlying38 hi hz0 hz1 hz2 rfl (by decide) _ _ _ rfl (hrow.alloc _) ⟨(w.drewN nq).heap.size, 0, none⟩ 1 1 [.int .i64 n] rfl rfl ?c1A ?c2A ?c3A ?c4A ?c5A ?_)
  case c1A => exact one_new _ _ _
  case c2A => exact one_one n
  case c3A => unfold maxLen; omega
  case c4A => omega
  case c5A => have := HQ.out.le; simp at this ⊢; omega
  intro v1 w2 own1 hg1 hat1
  have hne1 : some b ≠ (Value.slice ao xs.length cap).ownBlock := fun e => by have := (hrow.lt _ e.symm).1; have := HQ.out.lt; omega
  have hs1 : w.heap.size + 1 ≤ w2.heap.size := by have := hg1.size; simpa using this
  have hT : Touch w w2 b (.slice ao xs.length cap) v1 := (((Touch.refl w b _).dN nq).alloc _).grown hg1 (fun k hk => by have := hat1 k hk; simpa using this)
  have hc2 : LnC w2 b 2 dp ls (.slice ao xs.length cap) := (HQ.out.c.block (Below.heap_alloc _ _ _ (by simpa using hlt))).block (hg1.block b (by simp; omega) hne1)
  have HC : Hid (LnC w2 b 2 dp ls (.slice ao xs.length cap)) := hc2
  obtain ⟨k0, k1, k2, k3, k4, k5⟩ := hc2
  clear hrow hg1 hat1 c0 c1 c2 c3 f2 f3 k0 k1 k3 k5
  have hlt2 : b < w2.heap.size := by omega
  have hrow2 := ownsRow_setCell_below own1 (a := ⟨b, 2, none⟩) HQ.out.lt v1
  obtain ⟨g1, cap1, rfl⟩ : ∃ g cap, v1 = .slice (some ⟨g, 0, none⟩) (xs.length + 1) cap := by
    rcases row_form own1 with ⟨_, h⟩ | h
    · omega
    · exact h
  clear own1
  go_wp2
  go_ret2
  exact ⟨_, rfl, ⟨HC.out.items _, by rw [ints_snoc, List.length_append]; exact hrow2, HQ.out.lt, by have := HQ.out.le; simp at this ⊢; omega⟩, hT.set 2 _⟩

set_option maxRecDepth 100000 in
set_option maxHeartbeats 4000000 in
theorem send_sample (base b : Nat) (xs : List Int) (ls : Int) (v : Value) (n : Int) (w : World) (hn0 : 0 ≤ n) (hn1 : n < 1000) (hL : Ln w base b 1 1 xs ls v) :
    Calls Tryz.prog 81 #[.pointer (some ⟨b, 0, none⟩), .int .i64 n] w fun e w' => ∃ v', e = .returned (.tuple #[.bool true, .nilIface]) ∧ Ln w' base b 1 1 [n] ls v' ∧ Touch w w' b v v' := by
  obtain ⟨ii, hi, hz0, hz1, hz2⟩ := info_parts infoInt
  have hcc := hL.c
  have hlt := hcc.lt
  obtain ⟨c0, c1, c2, c3, f2, f3⟩ := hcc
  have HL : Hid (Ln w base b 1 1 xs ls v) := hL
  have hrw := hL.row
  clear hL
  rcases row_form hrw with ⟨rfl, hx0⟩ | ⟨g, cap, rfl⟩
  · have hrow0 := World.ownsRow_nil w base 3 1
    clear hrw
    have hL1 : Ln (w.setCell ⟨b, 2, none⟩ (.slice none 0 0)) base b 1 1 [] ls (.slice none 0 0) := ⟨HL.out.c.items _, ownsRow_setCell_below hrow0 (a := ⟨b, 2, none⟩) HL.out.lt _, HL.out.lt, by have := HL.out.le; simpa using this⟩
    have hT1 : Touch w (w.setCell ⟨b, 2, none⟩ (.slice none 0 0)) b (.slice none 0 0) (.slice none 0 0) := ((Touch.refl w b _).set 2 _).cut rfl
    have HL1 : Hid (Ln (w.setCell ⟨b, 2, none⟩ (.slice none 0 0)) base b 1 1 [] ls (.slice none 0 0)) := hL1
    clear hL1
    go_enter Tryz.func81, Tryz.ntmps81
    go_wp2_with (go_at_call 97; refine (wout_no n _ hn0 hn1).mono ?_; rintro e wz ⟨rfl, hwz⟩; subst wz)
    go_quiet (fail)
    have hq := HL1.out.below (below_dN (Below.refl _ _) nq)
    have HQ : Hid (Ln ((w.setCell ⟨b, 2, none⟩ (.slice none 0 0)).drewN nq) base b 1 1 [] ls (.slice none 0 0)) := hq
    have hrow := hq.row
    clear hq
    go_wp2_with (at_builtin; refine wpList_append_at _ rfl _ _ 38 rfl base 3 ii (.int .i64 0) 1 8 Tryz.underlying38 hi hz0 hz1 hz2 rfl (by decide) _ _ _ rfl (hrow.alloc _) ⟨w.heap.size, 0, none⟩ 1 1 [.int .i64 n] rfl rfl ?c1A ?c2A ?c3A ?c4A ?c5A ?_)
    case c1A => exact one_new_at (by simp) _ _
    case c2A => exact one_one n
    case c3A => unfold maxLen; simp
    case c4A => simp
    case c5A => have := HQ.out.le; simp at this ⊢; omega
    intro v1 w2 own1 hg1 hat1
    have hne1 : some b ≠ (Value.slice none 0 0).ownBlock := fun e => by have := (hrow.lt _ e.symm).1; have := HQ.out.lt; omega
    have hs1 : w.heap.size + 1 ≤ w2.heap.size := by have := hg1.size; simpa using this
    have hT : Touch w w2 b (.slice none 0 0) v1 := ((hT1.dN nq).alloc _).grown hg1 (fun k hk => by have := hat1 k hk; simpa using this)
    have hc2 : LnC w2 b 1 1 ls (.slice none 0 0) := (HQ.out.c.block (Below.heap_alloc _ _ _ (by simpa using hlt))).block (hg1.block b (by simp; omega) hne1)
    have HC : Hid (LnC w2 b 1 1 ls (.slice none 0 0)) := hc2
    obtain ⟨k0, k1, k2, k3, k4, k5⟩ := hc2
    clear hrow hg1 hat1 c0 c1 c2 c3 f2 f3 k0 k1 k3 k5
    have hlt2 : b < w2.heap.size := by omega
    have hrow2 := ownsRow_setCell_below own1 (a := ⟨b, 2, none⟩) HQ.out.lt v1
    obtain ⟨g1, cap1, rfl⟩ : ∃ g cap, v1 = .slice (some ⟨g, 0, none⟩) 1 cap := by
      rcases row_form own1 with ⟨_, h⟩ | h
      · simp at h
      · simpa using h
    clear own1
    go_wp2
    go_ret2
    exact ⟨_, rfl, ⟨HC.out.items _, hrow2, HQ.out.lt, by have := HQ.out.le; simp at this ⊢; omega⟩, hT.set 2 _⟩
  · obtain ⟨hg0, hg1, hg2, hg3, _, _, _⟩ := own_cap hrw
    have hrow0 := own_cut hrw (Nat.zero_le _)
    unfold maxLen at hg3
    clear hrw
    have hL1 : Ln (w.setCell ⟨b, 2, none⟩ (.slice (some ⟨g, 0, none⟩) 0 cap)) base b 1 1 [] ls (.slice (some ⟨g, 0, none⟩) 0 cap) := ⟨HL.out.c.items _, ownsRow_setCell_below hrow0 (a := ⟨b, 2, none⟩) HL.out.lt _, HL.out.lt, by have := HL.out.le; simpa using this⟩
    have hT1 : Touch w (w.setCell ⟨b, 2, none⟩ (.slice (some ⟨g, 0, none⟩) 0 cap)) b (.slice (some ⟨g, 0, none⟩) xs.length cap) (.slice (some ⟨g, 0, none⟩) 0 cap) := ((Touch.refl w b _).set 2 _).cut rfl
    have HL1 : Hid (Ln (w.setCell ⟨b, 2, none⟩ (.slice (some ⟨g, 0, none⟩) 0 cap)) base b 1 1 [] ls (.slice (some ⟨g, 0, none⟩) 0 cap)) := hL1
    clear hL1
    go_enter Tryz.func81, Tryz.ntmps81
    go_wp2_with (go_at_call 97; refine (wout_no n _ hn0 hn1).mono ?_; rintro e wz ⟨rfl, hwz⟩; subst wz)
    go_quiet (fail)
    have hq := HL1.out.below (below_dN (Below.refl _ _) nq)
    have HQ : Hid (Ln ((w.setCell ⟨b, 2, none⟩ (.slice (some ⟨g, 0, none⟩) 0 cap)).drewN nq) base b 1 1 [] ls (.slice (some ⟨g, 0, none⟩) 0 cap)) := hq
    have hrow := hq.row
    clear hq
    go_wp2_with (at_builtin; refine wpList_append_at _ rfl _ _ 38 rfl base 3 ii (.int .i64 0) 1 8 Tryz.underlying38 hi hz0 hz1 hz2 rfl (by decide) _ _ _ rfl (hrow.alloc _) ⟨w.heap.size, 0, none⟩ 1 1 [.int .i64 n] rfl rfl ?c1A ?c2A ?c3A ?c4A ?c5A ?_)
    case c1A => exact one_new_at (by simp) _ _
    case c2A => exact one_one n
    case c3A => unfold maxLen; simp
    case c4A => simp
    case c5A => have := HQ.out.le; simp at this ⊢; omega
    intro v1 w2 own1 hg1 hat1
    have hne1 : some b ≠ (Value.slice (some ⟨g, 0, none⟩) 0 cap).ownBlock := fun e => by have := (hrow.lt _ e.symm).1; have := HQ.out.lt; omega
    have hs1 : w.heap.size + 1 ≤ w2.heap.size := by have := hg1.size; simpa using this
    have hT : Touch w w2 b (.slice (some ⟨g, 0, none⟩) xs.length cap) v1 := ((hT1.dN nq).alloc _).grown hg1 (fun k hk => by have := hat1 k hk; simpa using this)
    have hc2 : LnC w2 b 1 1 ls (.slice (some ⟨g, 0, none⟩) 0 cap) := (HQ.out.c.block (Below.heap_alloc _ _ _ (by simpa using hlt))).block (hg1.block b (by simp; omega) hne1)
    have HC : Hid (LnC w2 b 1 1 ls (.slice (some ⟨g, 0, none⟩) 0 cap)) := hc2
    obtain ⟨k0, k1, k2, k3, k4, k5⟩ := hc2
    clear hrow hg1 hat1 c0 c1 c2 c3 f2 f3 k0 k1 k3 k5
    have hlt2 : b < w2.heap.size := by omega
    have hrow2 := ownsRow_setCell_below own1 (a := ⟨b, 2, none⟩) HQ.out.lt v1
    obtain ⟨g1, cap1, rfl⟩ : ∃ g cap, v1 = .slice (some ⟨g, 0, none⟩) 1 cap := by
      rcases row_form own1 with ⟨_, h⟩ | h
      · simp at h
      · simpa using h
    clear own1
    go_wp2
    go_ret2
    exact ⟨_, rfl, ⟨HC.out.items _, hrow2, HQ.out.lt, by have := HQ.out.le; simp at this ⊢; omega⟩, hT.set 2 _⟩
end Go.Proofs.YtajfgmlockjmhadGreatDoor
namespace Go.Proofs.YtajfgmlockjmhadGreatDoor
open Go.RowKit

theorem Ln.form {w : World} {base b : Nat} {kd dp ls : Int} {xs : List Int} {v : Value} (h : Ln w base b kd dp xs ls v) : (v = .slice none 0 0 ∧ xs = []) ∨ ∃ g cap, v = .slice (some ⟨g, 0, none⟩) xs.length cap := by
  rcases row_form h.row with ⟨rfl, h0⟩ | ⟨g, cap, rfl⟩
  · exact Or.inl ⟨rfl, List.eq_nil_of_length_eq_zero h0⟩
  · exact Or.inr ⟨_, _, rfl⟩

set_option maxRecDepth 100000 in
set_option maxHeartbeats 2000000 in
theorem peek_none (b : Nat) (kd dp ls : Int) (ao : Option Addr) (cap : Nat) (w : World) (hL : LnC w b kd dp ls (.slice ao 0 cap)) :
    Calls Tryz.prog 74 #[.pointer (some ⟨b, 0, none⟩)] w fun e w' => e = .returned (.tuple #[.int .i64 0, .bool false]) ∧ w' = w := by
  have hlt := hL.lt
  obtain ⟨c0, c1, c2, c3, f2, f3⟩ := hL
  go_enter Tryz.func74, Tryz.ntmps74
  go_wp2
  go_ret2
  exact ⟨rfl, rfl⟩
set_option maxRecDepth 100000 in
set_option maxHeartbeats 2000000 in
theorem peek_some (b : Nat) (kd dp ls : Int) (g m cap : Nat) (x : Int) (w : World) (hL : LnC w b kd dp ls (.slice (some ⟨g, 0, none⟩) m cap)) (hm : 0 < m) (hx : w.cell? ⟨g, 0, none⟩ = some (.int .i64 x)) :
    Calls Tryz.prog 74 #[.pointer (some ⟨b, 0, none⟩)] w fun e w' => e = .returned (.tuple #[.int .i64 x, .bool true]) ∧ w' = w := by
  have hlt := hL.lt
  have hlt2 := wlt hx
  have hm' : ¬ m = 0 := by omega
  obtain ⟨c0, c1, c2, c3, f2, f3⟩ := hL
  go_enter Tryz.func74, Tryz.ntmps74
  go_wp2
  go_ret2
  exact ⟨rfl, rfl⟩
end Go.Proofs.YtajfgmlockjmhadGreatDoor
namespace Go.Proofs.YtajfgmlockjmhadGreatDoor
open Go.RowKit

set_option maxRecDepth 100000 in
set_option maxHeartbeats 4000000 in
theorem clone_nil (w : World) : Calls Tryz.prog 58 #[.slice none 0 0] w fun e w' => e = .returned (.slice none 0 0) ∧ w' = w := by
  have q : ∀ (w : World) (a : Option Addr) (n c n' c' : Nat), (binOp .eql 38 (.slice a n c) (.slice none n' c')).run Tryz.prog w = .ok (.bool a.isNone) w := fun w a n c n' c' => Lib.run_eql_slice_nil w _ _ a n c n' c' Tryz.underlying38
  go_enter Tryz.func58, Tryz.ntmps58
  go_wp2
  go_ret
  exact ⟨rfl, rfl⟩
set_option maxRecDepth 100000 in
set_option maxHeartbeats 4000000 in
theorem clone_some (g cap : Nat) (xs : List Int) (w : World) (hx : xs.length ≤ 1000000) (hc : ∀ i x, (ints xs)[i]? = some x → w.cell? ⟨g, i, none⟩ = some x) :
    Calls Tryz.prog 58 #[.slice (some ⟨g, 0, none⟩) xs.length cap] w fun e w' => ∃ v', e = .returned v' ∧ w'.ownsRow w.heap.size 3 1 v' xs.length (ints xs) ∧ Below w.heap.size w w' := by
  obtain ⟨ii, hi, hz0, hz1, hz2⟩ := info_parts infoInt
  have q : ∀ (w : World) (a : Option Addr) (n c n' c' : Nat), (binOp .eql 38 (.slice a n c) (.slice none n' c')).run Tryz.prog w = .ok (.bool a.isNone) w := fun w a n c n' c' => Lib.run_eql_slice_nil w _ _ a n c n' c' Tryz.underlying38
  have HC : Hid (∀ i x, (ints xs)[i]? = some x → w.cell? ⟨g, i, none⟩ = some x) := hc
  clear hc
  go_enter Tryz.func58, Tryz.ntmps58
  go_wp2_with (at_builtin; refine wpList_append_at _ rfl _ _ 38 rfl w.heap.size 3 ii (.int .i64 0) 1 8 Tryz.underlying38 hi hz0 hz1 hz2 rfl (by decide) _ _ _ rfl (World.ownsRow_made w #[] 0 (Nat.le_refl _) (Nat.zero_le _) rfl) ⟨g, 0, none⟩ xs.length cap (ints xs) rfl ?c0A ?c1A ?c2A ?c3A ?c4A ?c5A ?_)
  case c0A => rw [ints_len, Nat.mul_one]
  case c1A =>
    intro j u hj
    have h := HC.out j u hj
    rw [Addr.add_lit, Nat.zero_add]
    exact (((Below.refl _ w).alloc (Nat.le_refl _) _).cell (p := ⟨g, j, none⟩) (wlt h)).trans h
  case c2A => intro u hu; obtain ⟨x, _, rfl⟩ := List.mem_map.1 hu; rfl
  case c3A => unfold maxLen; omega
  case c4A => omega
  case c5A => simp
  intro v1 w2 own1 hg1 hat1
  clear q
  go_wp2
  go_ret
  refine ⟨v1, rfl, by simpa using own1, ((Below.refl _ w).alloc (Nat.le_refl _) _).grown hg1 (by simp) (by intro k hk; simp [Value.ownBlock] at hk; omega)⟩
end Go.Proofs.YtajfgmlockjmhadGreatDoor
namespace Go.Proofs.YtajfgmlockjmhadGreatDoor
open Go.RowKit

set_option maxRecDepth 1000000 in
set_option maxHeartbeats 4000000 in
theorem del_walk (g cap : Nat) (x : Int) (ys : List Int) (w : World) (hcap : ys.length + 1 ≤ cap) (hm : cap ≤ 9223372036854775807) (hc : ∀ i x', (ints (x :: ys))[i]? = some x' → w.cell? ⟨g, i, none⟩ = some x') (hs : ∀ i, i < cap → (w.cell? ⟨g, i, none⟩).isSome = true) (hf : ∀ i, w.frozen? ⟨g, i, none⟩ = false) :
    Calls Tryz.prog 96 #[.slice (some ⟨g, 0, none⟩) (ys.length + 1) cap, .int .i64 0, .int .i64 1] w fun e w' => e = .returned (.slice (some ⟨g, 0, none⟩) ys.length cap) ∧ w' = (w.drew.setCells g 0 (ints ys)).setCells g ys.length [.int .i64 0] := by
  obtain ⟨ii, hi, hz0, hz1, hz2⟩ := info_parts infoInt
  obtain ⟨A, hA, hsrc⟩ : ∃ A : Addr, (if cap = 1 then some (⟨g, 0, none⟩ : Addr) else some ⟨g, 1, none⟩) = some A ∧ Hid (∀ t u, (ints ys)[t]? = some u → w.drew.cell? (A.add t) = some u) := by
    by_cases h : cap = 1
    · refine ⟨⟨g, 0, none⟩, by simp [h], fun t u hu => ?_⟩
      have h0 : ys = [] := List.eq_nil_of_length_eq_zero (by omega)
      subst h0
      simp [ints] at hu
    · refine ⟨⟨g, 1, none⟩, by simp [h], fun t u hu => ?_⟩
      rw [Addr.add_lit, Nat.add_comm]
      exact hc (t + 1) u (by simpa [ints] using hu)
  have s1 : Hid ((ints ys).length = ys.length * 1) := by show _ = _; rw [ints_len, Nat.mul_one]
  have s2 : Hid (∀ u ∈ ints ys, u.oneCell' = true) := by
    intro u hu
    obtain ⟨x, _, rfl⟩ := List.mem_map.1 hu
    rfl
  have s3 : Hid (∀ t, t < (ints ys).length → (w.drew.cell? ⟨g, 0 + 0 * 1 + t, none⟩).isSome = true ∧ w.drew.frozen? ⟨g, 0 + 0 * 1 + t, none⟩ = false) := by
    intro t ht
    rw [ints_len] at ht
    exact ⟨by rw [show 0 + 0 * 1 + t = t by omega]; exact hs t (by omega), hf _⟩
  obtain ⟨W1, hW1⟩ : ∃ W1, W1 = w.drew.setCells g (0 + 0 * 1) (ints ys) := ⟨_, rfl⟩
  have hcl : ∀ ty, (Builtin.clear_ #[38] ty #[.slice (some ⟨g, ys.length, none⟩) 1 (cap - ys.length)]).run Tryz.prog W1 = .ok (.tuple #[]) (W1.setCells g ys.length [.int .i64 0]) := by
    intro ty
    have hce : W1.cell? ⟨g, ys.length, none⟩ = w.cell? ⟨g, ys.length, none⟩ := by
      rw [hW1, World.cell?_setCells_out g _ _ _ _ (fun _ _ => by right; show 0 + 0 * 1 + (ints ys).length ≤ ys.length; rw [ints_len]; omega)]
      rfl
    have hfe : W1.frozen? ⟨g, ys.length, none⟩ = w.frozen? ⟨g, ys.length, none⟩ := by
      rw [hW1, World.frozen?_setCells]
      rfl
    exact Lib.run_clear_slice W1 38 3 ty (.int .i64 0) Tryz.underlying38 Tryz.zeroValue3 rfl rfl g ys.length 1 (cap - ys.length) (by omega)
      (fun j hj => by obtain rfl : j = 0 := by omega
                      rw [Nat.add_zero, hce]; exact hs _ (by omega))
      (fun j hj => by obtain rfl : j = 0 := by omega
                      rw [Nat.add_zero, hfe]; exact hf _)
  have hW : Hid (W1 = w.drew.setCells g (0 + 0 * 1) (ints ys)) := hW1
  clear hW1
  have h1c : 1 ≤ cap := by omega
  have h1i : (1 : Int) ≤ (ys.length : Int) + 1 := by omega
  clear hc hs hf
  go_enter Tryz.func96, Tryz.ntmps96
  go_wp2_with fail
  go_region_law (refine step_append_room rfl (.tmp 22) (.tmp 25) 38 rfl 3 ii 1 Tryz.underlying38 hi hz1 g 0 0 cap (by simp [Act.eval, Act.put]) A ys.length (cap - 1) (ints ys) (by simp [Act.eval, Act.put]) s1.out hsrc.out s2.out (by omega) s3.out ?_; rw [← hW.out])
  all_goals go_wp2
  all_goals go_ret
  all_goals exact ⟨rfl, by rw [hW.out]⟩

theorem cells_heap {g : Nat} {e : TypeId} : ∀ (vs : List Value) (o : Nat) (w : World) (cur : Array Value), w.heap[g]? = some (.cells cur e (0, 0)) → ∃ cur', (w.setCells g o vs).heap[g]? = some (.cells cur' e (0, 0)) ∧ cur'.size = cur.size
  | [], _, _, cur, h => ⟨cur, h, rfl⟩
  | v :: r, o, w, cur, h => by
    obtain ⟨c, h1, h2⟩ := cells_heap r (o + 1) (w.setCell ⟨g, o, none⟩ v) _ (heap_setCell_same w g o cur e v h)
    exact ⟨c, h1, by simpa using h2⟩
theorem cells_other {g k : Nat} (hk : k ≠ g) : ∀ (vs : List Value) (o : Nat) (w : World), (w.setCells g o vs).heap[k]? = w.heap[k]?
  | [], _, _ => rfl
  | v :: r, o, w => by rw [World.setCells, cells_other hk r, heap_setCell_other _ _ _ _ hk]
theorem cells_rest (g : Nat) : ∀ (vs : List Value) (o : Nat) (w : World), (w.setCells g o vs).os = w.os ∧ (w.setCells g o vs).tape = w.tape ∧ (w.setCells g o vs).output = w.output ∧ (w.setCells g o vs).heap.size = w.heap.size
  | [], _, _ => ⟨rfl, rfl, rfl, rfl⟩
  | v :: r, o, w => by
    obtain ⟨h1, h2, h3, h4⟩ := cells_rest g r (o + 1) (w.setCell ⟨g, o, none⟩ v)
    exact ⟨h1, h2, h3, h4.trans (by simp [World.setCell])⟩
/-- Behind it the row is what it was without its first. -/
theorem del_row {base g cap : Nat} {x : Int} {ys : List Int} {w : World} (h : w.ownsRow base 3 1 (.slice (some ⟨g, 0, none⟩) (ys.length + 1) cap) (ys.length + 1) (ints (x :: ys))) :
    ((w.drew.setCells g 0 (ints ys)).setCells g ys.length [.int .i64 0]).ownsRow base 3 1 (.slice (some ⟨g, 0, none⟩) ys.length cap) ys.length (ints ys) ∧ w.grownBy ((w.drew.setCells g 0 (ints ys)).setCells g ys.length [.int .i64 0]) (some g) := by
  have hcap := own_cap h
  rcases h.2 with ⟨h2, _⟩ | ⟨g', cap', cur, e0, h3, h4, h5, h6, h7, h8⟩
  · cases h2
  · injection e0 with e1 _ e3
    injection e1 with e1
    injection e1 with e1
    subst e1
    subst e3
    obtain ⟨c1, i1, i2⟩ := cells_heap (g := g) (ints ys) 0 w.drew cur h4
    obtain ⟨c2, j1, j2⟩ := cells_heap (g := g) [.int .i64 0] ys.length _ c1 i1
    obtain ⟨a1, a2, a3, a4⟩ := cells_rest g (ints ys) 0 w.drew
    obtain ⟨b1, b2, b3, b4⟩ := cells_rest g [.int .i64 0] ys.length (w.drew.setCells g 0 (ints ys))
    refine ⟨⟨by rw [ints_len, Nat.mul_one], Or.inr ⟨g, cap, c2, rfl, h3, j1, by omega, h6, by omega, ?_⟩⟩, ⟨b1.trans a1, b2.trans a2, b3.trans a3, by rw [b4, a4]; exact Nat.le_refl _, fun k _ hk => ?_⟩⟩
    · apply List.ext_getElem?
      intro i
      rw [List.getElem?_take, Nat.mul_one]
      by_cases hi : i < ys.length
      · rw [if_pos hi, Array.getElem?_toList]
        have hin := World.cell?_setCells_in g (ints ys) 0 w.drew (fun j hj => hcap.2.2.2.2.2.1 _ (by rw [ints_len] at hj; omega)) i (by rw [ints_len]; exact hi)
        rw [Nat.zero_add] at hin
        have hout := World.cell?_setCells_out g [.int .i64 0] ys.length (w.drew.setCells g 0 (ints ys)) ⟨g, i, none⟩ (fun _ _ => Or.inl hi)
        rw [hin, cell_of_row _ g i c2 _ _ j1] at hout
        rw [hout, List.getElem?_eq_getElem (by rw [ints_len]; exact hi)]
      · rw [if_neg hi, List.getElem?_eq_none (by rw [ints_len]; omega)]
    · have hkg : k ≠ g := fun e => hk (by rw [e])
      rw [cells_other hkg, cells_other hkg]
      rfl
theorem del_first (base g cap : Nat) (x : Int) (ys : List Int) (w : World) (h : w.ownsRow base 3 1 (.slice (some ⟨g, 0, none⟩) (ys.length + 1) cap) (ys.length + 1) (ints (x :: ys))) :
    Calls Tryz.prog 96 #[.slice (some ⟨g, 0, none⟩) (ys.length + 1) cap, .int .i64 0, .int .i64 1] w fun e w' => e = .returned (.slice (some ⟨g, 0, none⟩) ys.length cap) ∧
      w'.ownsRow base 3 1 (.slice (some ⟨g, 0, none⟩) ys.length cap) ys.length (ints ys) ∧ w.grownBy w' (some g) := by
  obtain ⟨_, _, h3, h4, h5, h6, h7⟩ := own_cap h
  refine (del_walk g cap x ys w h3 (by simpa [maxLen] using h4) h5 h6 h7).mono fun e w' ⟨he, hw⟩ => ?_
  subst hw
  exact ⟨he, del_row h⟩
end Go.Proofs.YtajfgmlockjmhadGreatDoor
namespace Go.Proofs.YtajfgmlockjmhadGreatDoor
open Go.RowKit

set_option maxRecDepth 100000 in
set_option maxHeartbeats 2000000 in
theorem take_none (b : Nat) (kd dp ls : Int) (ao : Option Addr) (cap : Nat) (w : World) (hL : LnC w b kd dp ls (.slice ao 0 cap)) :
    Calls Tryz.prog 80 #[.pointer (some ⟨b, 0, none⟩)] w fun e w' => e = .returned (.tuple #[.int .i64 0, .iface 95 (.int .i64 5)]) ∧ w' = w := by
  have hp := peek_none b kd dp ls ao cap w hL
  clear hL
  go_enter Tryz.func80, Tryz.ntmps80
  go_wp2_with (go_at_call 74; refine hp.mono ?_; rintro e w1 ⟨rfl, rfl⟩; clear hp)
  go_ret2
  exact ⟨rfl, rfl⟩
set_option maxRecDepth 100000 in
set_option maxHeartbeats 2000000 in
theorem take_sample (b : Nat) (dp ls : Int) (g m cap : Nat) (x : Int) (w : World) (hL : LnC w b 1 dp ls (.slice (some ⟨g, 0, none⟩) m cap)) (hm : 0 < m) (hx : w.cell? ⟨g, 0, none⟩ = some (.int .i64 x)) :
    Calls Tryz.prog 80 #[.pointer (some ⟨b, 0, none⟩)] w fun e w' => e = .returned (.tuple #[.int .i64 x, .nilIface]) ∧ w' = w := by
  have hp := peek_some b 1 dp ls g m cap x w hL hm hx
  have hlt := hL.lt
  obtain ⟨c0, c1, c2, c3, f2, f3⟩ := hL
  clear c1 c2 c3 f2 f3 hx
  go_enter Tryz.func80, Tryz.ntmps80
  go_wp2_with (go_at_call 74; refine hp.mono ?_; rintro e w1 ⟨rfl, rfl⟩; clear hp)
  go_ret2
  exact ⟨rfl, rfl⟩
set_option maxRecDepth 100000 in
set_option maxHeartbeats 4000000 in
theorem take_queue (base b : Nat) (dp ls : Int) (x : Int) (ys : List Int) (v : Value) (w : World) (hL : Ln w base b 2 dp (x :: ys) ls v) :
    Calls Tryz.prog 80 #[.pointer (some ⟨b, 0, none⟩)] w fun e w' => ∃ v', e = .returned (.tuple #[.int .i64 x, .nilIface]) ∧ Ln w' base b 2 dp ys ls v' ∧ Touch w w' b v v' := by
  obtain ⟨g, cap, rfl⟩ : ∃ g cap, v = .slice (some ⟨g, 0, none⟩) (ys.length + 1) cap := by
    rcases row_form hL.row with ⟨_, h⟩ | h
    · simp at h
    · exact h
  have hrow := hL.row
  have hcp := own_cap hrow
  have hx : w.cell? ⟨g, 0, none⟩ = some (.int .i64 x) := hcp.2.2.2.2.1 0 _ rfl
  have hp := peek_some b 2 dp ls g (ys.length + 1) cap x w hL.c (by omega) hx
  have hd := del_first base g cap x ys w hrow
  have HL : Hid (Ln w base b 2 dp (x :: ys) ls (.slice (some ⟨g, 0, none⟩) (ys.length + 1) cap)) := hL
  have hlt := hL.c.lt
  have hbg : b ≠ g := by have := hL.lt; have := hcp.1; omega
  obtain ⟨c0, c1, c2, c3, f2, f3⟩ := hL.c
  clear c1 c3 f3 hx hL hrow hcp
  go_enter Tryz.func80, Tryz.ntmps80
  go_wp2_with (first | (go_at_call 74; refine hp.mono ?_; rintro e w1 ⟨rfl, rfl⟩; clear hp) | (go_at_call 96; refine hd.mono ?_; rintro e w2 ⟨rfl, own2, hg2⟩; clear hd; have hb2 := hg2.block b hlt (fun e => hbg (Option.some.inj e)); have hc2 := HL.out.c.block hb2; have HC : Hid (LnC w2 b 2 dp ls (.slice (some ⟨g, 0, none⟩) (ys.length + 1) cap)) := hc2; obtain ⟨k0, k1, k2, k3, k4, k5⟩ := hc2; clear k0 k1 k3 k5; have hlt2 := HC.out.lt))
  go_ret2
  refine ⟨_, rfl, ⟨HC.out.items _, ownsRow_setCell_below own2 (a := ⟨b, 2, none⟩) HL.out.lt _, HL.out.lt, by have := HL.out.le; have := hg2.size; simp; omega⟩, ?_⟩
  exact ((Touch.refl w1 b (.slice (some ⟨g, 0, none⟩) (ys.length + 1) cap)).grown (v2 := .slice (some ⟨g, 0, none⟩) ys.length cap) hg2 (fun k hk => Or.inl hk)).set 2 _
end Go.Proofs.YtajfgmlockjmhadGreatDoor
namespace Go.Proofs.YtajfgmlockjmhadGreatDoor
open Go.RowKit

theorem Ln.first {w : World} {base b : Nat} {kd dp ls : Int} {x : Int} {ys : List Int} {v : Value} (h : Ln w base b kd dp (x :: ys) ls v) : ∃ g cap, v = .slice (some ⟨g, 0, none⟩) (ys.length + 1) cap ∧ w.cell? ⟨g, 0, none⟩ = some (.int .i64 x) := by
  rcases h.form with ⟨_, e⟩ | ⟨g, cap, rfl⟩
  · cases e
  · have := h.row.cells (g := g) rfl 0 (.int .i64 x) (by simp [ints])
    rw [Addr.add_lit, Nat.zero_add] at this
    exact ⟨g, cap, rfl, this⟩
theorem Ln.none {w : World} {base b : Nat} {kd dp ls : Int} {v : Value} (h : Ln w base b kd dp [] ls v) : ∃ ao cap, v = .slice ao 0 cap := by
  rcases h.form with ⟨rfl, _⟩ | ⟨g, cap, rfl⟩
  · exact ⟨_, _, rfl⟩
  · exact ⟨_, _, rfl⟩
theorem dpeek_l (base b : Nat) (l : LnD) (u : Value) (w : World) (hL : Ln w base b l.w.2.2.1 l.w.2.2.2 l.xs l.ls u) :
    Calls Tryz.prog 74 #[.pointer (some ⟨b, 0, none⟩)] w fun e w' => e = .returned (.tuple #[.int .i64 (headL l).1, .bool (headL l).2]) ∧ w' = w := by
  obtain ⟨x, xs, ls⟩ := l
  cases xs with
  | nil =>
    obtain ⟨ao, cap, rfl⟩ := Ln.none hL
    exact peek_none b _ _ ls ao cap w hL.c
  | cons n ys =>
    obtain ⟨g, cap, rfl, h1⟩ := Ln.first hL
    exact peek_some b _ _ ls g _ cap n w hL.c (by omega) h1
theorem dtake_l (base b : Nat) (l : LnD) (u : Value) (w : World) (hk : l.w.2.2.1 = 1 ∨ l.w.2.2.1 = 2) (hh : (headL l).2 = true) (hL : Ln w base b l.w.2.2.1 l.w.2.2.2 l.xs l.ls u) :
    Calls Tryz.prog 80 #[.pointer (some ⟨b, 0, none⟩)] w fun e w' => ∃ u', e = .returned (.tuple #[.int .i64 (headL l).1, .nilIface]) ∧ Ln w' base b (restL l).w.2.2.1 (restL l).w.2.2.2 (restL l).xs (restL l).ls u' ∧ Touch w w' b u u' := by
  obtain ⟨x, xs, ls⟩ := l
  simp only at hk hL
  cases xs with
  | nil => simp [headL] at hh
  | cons n ys =>
    rcases hk with h1 | h2
    · have e2 : restL ⟨x, n :: ys, ls⟩ = ⟨x, n :: ys, ls⟩ := by simp [restL, h1]
      rw [e2]
      obtain ⟨g, cap, rfl, hc⟩ := Ln.first hL
      rw [h1] at hL
      refine (take_sample b _ ls g _ cap n w hL.c (by omega) hc).mono ?_
      rintro e w' ⟨rfl, rfl⟩
      exact ⟨_, rfl, by simp only [h1]; exact hL, Touch.refl _ _ _⟩
    · have e2 : restL ⟨x, n :: ys, ls⟩ = ⟨x, ys, ls⟩ := by simp [restL, h2]
      rw [e2]
      rw [h2] at hL
      refine (take_queue base b _ ls n ys u w hL).mono ?_
      rintro e w' ⟨u', rfl, h3, h4⟩
      exact ⟨u', rfl, by simp only [h2]; exact h3, h4⟩
theorem dsend_l (base b : Nat) (l : LnD) (u : Value) (n : Int) (w : World) (hk : (l.w.2.2.1 = 1 ∧ l.w.2.2.2 = 1) ∨ l.w.2.2.1 = 2) (hn : 0 ≤ n ∧ n ≤ 999) (hls : 0 ≤ l.ls ∧ l.ls < 1000000000) (hx : l.xs.length ≤ 1000000) (hL : Ln w base b l.w.2.2.1 l.w.2.2.2 l.xs l.ls u) :
    Calls Tryz.prog 81 #[.pointer (some ⟨b, 0, none⟩), .int .i64 n] w fun e w' => ∃ u', e = .returned (.tuple #[.bool (fitL l), .nilIface]) ∧ Ln w' base b (putL l n).w.2.2.1 (putL l n).w.2.2.2 (putL l n).xs (putL l n).ls u' ∧ Touch w w' b u u' := by
  obtain ⟨x, xs, ls⟩ := l
  simp only at hk hls hx hL
  rcases hk with ⟨h1, h1'⟩ | h2
  · have e1 : fitL ⟨x, xs, ls⟩ = true := by simp [fitL, h1]
    have e2 : putL ⟨x, xs, ls⟩ n = ⟨x, [n], ls⟩ := by simp [putL, h1]
    rw [e1, e2]
    rw [h1, h1'] at hL
    refine (send_sample base b xs ls u n w hn.1 (by omega) hL).mono ?_
    rintro e w' ⟨u', rfl, h3, h4⟩
    exact ⟨u', rfl, by simp only [h1, h1']; exact h3, h4⟩
  · rw [h2] at hL
    by_cases hd : (xs.length : Int) < x.2.2.2
    · have e1 : fitL ⟨x, xs, ls⟩ = true := by simp [fitL, hd]
      have e2 : putL ⟨x, xs, ls⟩ n = ⟨x, xs ++ [n], ls⟩ := by simp [putL, h2, hd]
      rw [e1, e2]
      refine (send_room base b _ xs ls u n w hn.1 (by omega) hL hd hx).mono ?_
      rintro e w' ⟨u', rfl, h3, h4⟩
      exact ⟨u', rfl, by simp only [h2]; exact h3, h4⟩
    · have e1 : fitL ⟨x, xs, ls⟩ = false := by simp [fitL, h2]; omega
      have e2 : putL ⟨x, xs, ls⟩ n = ⟨x, xs, ls + 1⟩ := by simp [putL, h2, hd]
      rw [e1, e2]
      refine (send_full base b _ xs ls u n w hn.1 (by omega) hls hL (by omega)).mono ?_
      rintro e w' ⟨rfl, h3, h4⟩
      exact ⟨u, rfl, by simp only [h2]; exact h3, h4⟩
end Go.Proofs.YtajfgmlockjmhadGreatDoor
namespace Go.Proofs.YtajfgmlockjmhadGreatDoor
open Go.RowKit

set_option maxRecDepth 100000 in
set_option maxHeartbeats 1000000 in
theorem kbelow_yes (n b : Int) (w : World) (h0 : 0 ≤ n) (h1 : n < b) : Calls Tryz.prog 37 #[.int .i64 n, .int .i64 b] w fun e w' => e = .returned (.bool true) ∧ w' = w := by
  go_enter Tryz.func37, Tryz.ntmps37
  go_wp2
  go_ret
  exact ⟨rfl, rfl⟩
set_option maxRecDepth 100000 in
set_option maxHeartbeats 1000000 in
theorem kbelow_no (n b : Int) (w : World) (h : ¬ (0 ≤ n ∧ n < b)) : Calls Tryz.prog 37 #[.int .i64 n, .int .i64 b] w fun e w' => e = .returned (.bool false) ∧ w' = w := by
  by_cases h0 : 0 ≤ n
  · have h1 : decide (n < b) = false := by simp; omega
    clear h
    go_enter Tryz.func37, Tryz.ntmps37
    go_wp2
    go_ret
    exact ⟨rfl, rfl⟩
  · have h0' : decide (0 ≤ n) = false := by simp; omega
    clear h
    go_enter Tryz.func37, Tryz.ntmps37
    go_wp2
    go_ret
    exact ⟨rfl, rfl⟩
theorem kbelow_any (n b : Int) (w : World) : Calls Tryz.prog 37 #[.int .i64 n, .int .i64 b] w fun e w' => e = .returned (.bool (decide (0 ≤ n) && decide (n < b))) ∧ w' = w := by
  by_cases h : 0 ≤ n ∧ n < b
  · refine (kbelow_yes n b w h.1 h.2).mono ?_
    rintro e w' ⟨rfl, rfl⟩
    simp [h.1, h.2]
  · refine (kbelow_no n b w h).mono ?_
    rintro e w' ⟨rfl, rfl⟩
    refine ⟨?_, rfl⟩
    have : (decide (0 ≤ n) && decide (n < b)) = false := by
      rw [← Bool.decide_and]
      exact decide_eq_false h
    rw [this]
set_option maxRecDepth 100000 in
set_option maxHeartbeats 4000000 in
theorem gstate_any (p : PD) (k : KD) (kb base : Nat) (a : GW) (r : Int) (w : World) (h : GK w base p k kb a) :
    Calls Tryz.prog 13 #[.pointer (some ⟨kb, 0, none⟩), .int .i64 r] w fun e w' => e = .returned (.tuple #[stA (roomK k r), wErr (errB (noRoom k r))]) ∧ Below w.heap.size w w' := by
  have c3 := h.c3
  have hkb := h.lt.1
  by_cases hr : 0 ≤ r ∧ r < (k.rooms.length : Int)
  · obtain ⟨n, rfl⟩ : ∃ n : Nat, r = n := ⟨r.toNat, by omega⟩
    have hn : n < k.rooms.length := by omega
    have hni : (n : Int) < (k.rooms.length : Int) := by omega
    have hno : noRoom k n = false := by
      unfold noRoom
      rw [Bool.or_eq_false_iff]
      exact ⟨decide_eq_false (by omega), decide_eq_false (by omega)⟩
    have hrk : roomK k n = k.rooms[n] := by
      unfold roomK
      rw [if_neg (by rw [hno]; decide), Int.toNat_natCast]
      simp [List.getD, hn]
    have hst := h.rooms n k.rooms[n] (List.getElem?_eq_getElem hn)
    rw [hrk, hno]
    generalize k.rooms[n] = s at hst ⊢
    obtain ⟨s0, s1, s2, s3, s4, s5, s6, s7⟩ := hst
    have hrb := wlt s0
    have hn0 := World.new_ne w ⟨a.rb, n * 8, none⟩ s0
    have hnk := World.new_ne w ⟨kb, 3, none⟩ c3
    clear h hno hrk hr
    go_enter Tryz.func13, Tryz.ntmps13
    go_wp2_with (go_at_call 37; refine (kbelow_yes _ _ _ (by omega) hni).mono ?_; rintro e w1 ⟨rfl, hw1⟩; subst hw1)
    refine bodyPost_ret (v := .tuple #[stA s, wErr (errB false)]) ?_ rfl ⟨rfl, ?_⟩
    · simp [results, Tryz.results13, go_sem, stA, wErr, errB]
    · repeat' first | exact Below.refl _ _ | refine Below.drew ?_ | refine Below.alloc ?_ (by simp <;> omega) _ | refine Below.setCell ?_ (by simp <;> omega) _
  · have hno : noRoom k r = true := by
      unfold noRoom
      rw [Bool.or_eq_true]
      by_cases h0 : r < 0
      · exact Or.inl (decide_eq_true h0)
      · exact Or.inr (decide_eq_true (by omega))
    have hrk : roomK k r = stNew := by
      unfold roomK
      rw [if_pos hno]
    rw [hrk, hno]
    have hnk := World.new_ne w ⟨kb, 3, none⟩ c3
    clear h hno hrk
    go_enter Tryz.func13, Tryz.ntmps13
    go_wp2_with (go_at_call 37; refine (kbelow_no _ _ _ hr).mono ?_; rintro e w1 ⟨rfl, hw1⟩; subst hw1)
    refine bodyPost_ret (v := .tuple #[stA stNew, wErr (errB true)]) ?_ rfl ⟨rfl, ?_⟩
    · simp [results, Tryz.results13, go_sem, stA, stNew, wErr, errB]
    · repeat' first | exact Below.refl _ _ | refine Below.drew ?_ | refine Below.alloc ?_ (by simp <;> omega) _ | refine Below.setCell ?_ (by simp <;> omega) _
end Go.Proofs.YtajfgmlockjmhadGreatDoor
namespace Go.Proofs.YtajfgmlockjmhadGreatDoor
open Go.RowKit

set_option maxRecDepth 100000 in
set_option maxHeartbeats 4000000 in
theorem gcheck_any (p : PD) (k : KD) (kb base : Nat) (a : GW) (r c n : Int) (w : World) (h : GK w base p k kb a) :
    Calls Tryz.prog 33 #[.pointer (some ⟨kb, 0, none⟩), .int .i64 r, .int .i64 c, .int .i64 n] w fun e w' => e = .returned (wErr (pokeN k r c n)) ∧ w' = w := by
  have c3 := h.c3
  have H : Hid (GK w base p k kb a) := h
  clear h
  go_enter Tryz.func33, Tryz.ntmps33
  go_upto_region 1 with fail
  go_cut [26] from 9 to 25 (fun s26 wx => s26 = .bool (pokeB k r c n) ∧ wx = w)
  case first =>
    by_cases h0 : 0 ≤ r ∧ r < (k.rooms.length : Int)
    · by_cases h1 : 0 ≤ c ∧ c < 6
      · have HX : Hid (pokeB k r c n = !(decide (0 ≤ n) && decide (n < 1000))) := by
          show _ = _
          unfold pokeB
          have e1 : decide (r < 0) = false := decide_eq_false (by omega)
          have e2 : decide ((k.rooms.length : Int) ≤ r) = false := decide_eq_false (by omega)
          have e3 : decide (c < 0) = false := decide_eq_false (by omega)
          have e4 : decide (5 < c) = false := decide_eq_false (by omega)
          simp only [e1, e2, e3, e4, Bool.false_or]
          by_cases e5 : n < 0
          · simp [e5] <;> omega
          · by_cases e6 : 999 < n
            · simp [e6] <;> omega
            · simp [e5, e6] <;> omega
        have b0 : (decide (0 ≤ r) && decide (r < (k.rooms.length : Int))) = true := by simp [h0.1, h0.2]
        have b1 : (decide (0 ≤ c) && decide (c < 6)) = true := by simp [h1.1, h1.2]
        go_wp2_with (go_at_call 37; refine (kbelow_any _ _ _).mono ?_; rintro e w1 ⟨rfl, hw1⟩; subst hw1; first | rw [b0] | rw [b1] | skip)
        go_meet
        case rel => exact ⟨by rw [HX.out, Bool.not_and], rfl⟩
      · have HX : Hid (pokeB k r c n = true) := by
          show _ = _
          unfold pokeB
          by_cases e3 : c < 0
          · simp [e3]
          · have e4 : 5 < c := by omega
            simp [e4]
        have b0 : (decide (0 ≤ r) && decide (r < (k.rooms.length : Int))) = true := by simp [h0.1, h0.2]
        have b1 : (decide (0 ≤ c) && decide (c < 6)) = false := by
          rw [← Bool.decide_and]
          exact decide_eq_false h1
        go_wp2_with (go_at_call 37; refine (kbelow_any _ _ _).mono ?_; rintro e w1 ⟨rfl, hw1⟩; subst hw1; first | rw [b0] | rw [b1] | skip)
        go_meet
        case rel => exact ⟨by rw [HX.out], rfl⟩
    · have HX : Hid (pokeB k r c n = true) := by
        show _ = _
        unfold pokeB
        by_cases e1 : r < 0
        · simp [e1]
        · have e2 : (k.rooms.length : Int) ≤ r := by omega
          simp [e2]
      go_wp2_with (go_at_call 37; refine (kbelow_no _ _ _ h0).mono ?_; rintro e w1 ⟨rfl, hw1⟩; subst hw1)
      go_meet
      case rel => exact ⟨by rw [HX.out], rfl⟩
  case rest =>
  obtain ⟨rfl, hwc⟩ := hcut
  rw [hwc]
  clear hwc
  have HN : Hid (pokeN k r c n = if pokeB k r c n = true then 1 else 0) := rfl
  cases hb : pokeB k r c n with
  | true =>
    go_wp2
    go_ret
    exact ⟨by rw [HN.out, hb]; rfl, rfl⟩
  | false =>
    go_wp2
    go_ret
    exact ⟨by rw [HN.out, hb]; rfl, rfl⟩
set_option maxRecDepth 100000 in
set_option maxHeartbeats 4000000 in
theorem gpoke_any (p : PD) (k : KD) (kb base : Nat) (a : GW) (r c n : Int) (w : World) (h : GK w base p k kb a) :
    Calls Tryz.prog 10 #[.pointer (some ⟨kb, 0, none⟩), .int .i64 r, .int .i64 c, .int .i64 n] w fun e w' => e = .returned (wErr (pokeN k r c n)) ∧ GK w' base p (pokeK k r c n) kb a ∧ KTouch (a.F kb) w w' := by
  have c3 := h.c3
  have hck := gcheck_any p k kb base a r c n w h
  have H : Hid (GK w base p k kb a) := h
  clear h
  cases hb : pokeB k r c n with
  | true =>
    have HN : Hid (pokeN k r c n = 1) := by show _ = _; unfold pokeN; rw [hb]; rfl
    rw [HN.out, show wErr 1 = .iface 95 (.int .i64 1) from rfl] at hck
    go_enter Tryz.func10, Tryz.ntmps10
    go_wp2_with (go_at_call 33; refine hck.mono ?_; rintro e w1 ⟨rfl, rfl⟩; clear hck)
    go_ret
    exact ⟨by rw [HN.out]; rfl, by unfold pokeK; rw [hb, if_pos rfl]; exact H.out, KTouch.refl _ _⟩
  | false =>
    obtain ⟨h0, h1, h2, h3, h4, h5⟩ := pokeB_false hb
    obtain ⟨rn, rfl⟩ : ∃ m : Nat, r = m := ⟨r.toNat, by omega⟩
    obtain ⟨cn, rfl⟩ : ∃ m : Nat, c = m := ⟨c.toNat, by omega⟩
    have hrl : rn < k.rooms.length := by omega
    have hcl : cn ≤ 5 := by omega
    have hc6 : (cn : Int) < 6 := by omega
    have hs : k.rooms[rn]? = some k.rooms[rn] := List.getElem?_eq_getElem hrl
    have hst := H.out.rooms rn _ hs
    have hcell : ∃ v, w.cell? ⟨a.rb, rn * 8 + 1 + cn, none⟩ = some v := by
      obtain ⟨q0, q1, q2, q3, q4, q5, q6, q7⟩ := hst
      match cn, hcl with
      | 0, _ => exact ⟨_, q1⟩
      | 1, _ => exact ⟨_, q2⟩
      | 2, _ => exact ⟨_, q3⟩
      | 3, _ => exact ⟨_, q4⟩
      | 4, _ => exact ⟨_, q5⟩
      | 5, _ => exact ⟨_, q6⟩
    obtain ⟨v0, hv0⟩ := hcell
    have hfz := H.out.rf (rn * 8 + 1 + cn)
    have HK : Hid (pokeK k rn cn n = ⟨k.rooms.set rn (pokeS k.rooms[rn] cn n), k.lines, k.time⟩) := by
      show _ = _
      unfold pokeK
      rw [hb, if_neg (by decide)]
      simp [List.getD, hs]
    clear hst hs
    have HN : Hid (pokeN k rn cn n = 0) := by show _ = _; unfold pokeN; rw [hb]; rfl
    rw [HN.out, show wErr 0 = .nilIface from rfl] at hck
    clear hb
    go_enter Tryz.func10, Tryz.ntmps10
    go_wp2_with (go_at_call 33; refine hck.mono ?_; rintro e w1 ⟨rfl, rfl⟩; clear hck)
    go_ret
    refine ⟨by rw [HN.out]; rfl, ?_, KTouch.set _ (by simp [GW.F]) _ _⟩
    rw [HK.out]
    exact H.out.poke (List.getElem?_eq_getElem hrl) hcl n
end Go.Proofs.YtajfgmlockjmhadGreatDoor
namespace Go.Proofs.YtajfgmlockjmhadGreatDoor
open Go.RowKit

theorem own_mono {w : World} {base B : Nat} {e : TypeId} {size : Nat} {v : Value} {n : Nat} {xs : List Value} (h : w.ownsRow base e size v n xs) (hB : B ≤ base) : w.ownsRow B e size v n xs := by
  refine ⟨h.1, ?_⟩
  rcases h.2 with h2 | ⟨g, cap, cur, rfl, h3, r⟩
  · exact Or.inl h2
  · exact Or.inr ⟨g, cap, cur, rfl, Nat.le_trans hB h3, r⟩
set_option maxRecDepth 100000 in
set_option maxHeartbeats 4000000 in
theorem held_any (base b : Nat) (kd dp : Int) (xs : List Int) (ls : Int) (v : Value) (w : World) (hx : xs.length ≤ 1000000) (hL : Ln w base b kd dp xs ls v) :
    Calls Tryz.prog 38 #[.pointer (some ⟨b, 0, none⟩)] w fun e w' => ∃ ao cap, e = .returned (.agg #[.slice ao xs.length cap, .int .i64 ls]) ∧ w'.ownsRow w.heap.size 3 1 (.slice ao xs.length cap) xs.length (ints xs) ∧ Below w.heap.size w w' := by
  have hlt := hL.c.lt
  have hA : Below w.heap.size w (w.alloc (.cells #[.slice none 0 0, .int .i64 0] 54)) := (Below.refl _ _).alloc (Nat.le_refl _) _
  have hcl : Calls Tryz.prog 58 #[v] (w.alloc (.cells #[.slice none 0 0, .int .i64 0] 54)).drew fun e w' => ∃ ao cap, e = .returned (.slice ao xs.length cap) ∧ w'.ownsRow (w.heap.size + 1) 3 1 (.slice ao xs.length cap) xs.length (ints xs) ∧ Below (w.heap.size + 1) (w.alloc (.cells #[.slice none 0 0, .int .i64 0] 54)) w' := by
    rcases hL.form with ⟨rfl, rfl⟩ | ⟨g, cap, rfl⟩
    · refine (clone_nil _).mono fun e w' ⟨he, hw⟩ => ?_
      subst hw
      exact ⟨_, _, he, World.ownsRow_nil _ _ _ _, (Below.refl _ _).drew⟩
    · have hcp := own_cap hL.row
      refine (clone_some g cap xs _ hx (fun i x h => ((hA.drew).cell (p := ⟨g, i, none⟩) hcp.2.1).trans (hcp.2.2.2.2.1 i x h))).mono fun e w' ⟨v', he, hr, hb⟩ => ?_
      have hr' : w'.ownsRow (w.heap.size + 1) 3 1 v' xs.length (ints xs) := by simpa using hr
      rcases row_form hr' with ⟨rfl, h0⟩ | ⟨g', cap', rfl⟩
      · exact ⟨none, 0, by rw [h0]; exact he, by rw [h0] at hr' ⊢; exact hr', (Below.refl _ _).drew.trans (by simpa using hb)⟩
      · exact ⟨_, _, he, hr', (Below.refl _ _).drew.trans (by simpa using hb)⟩
  obtain ⟨sa, sm, sc, rfl⟩ : ∃ sa sm sc, v = .slice sa sm sc := by
    rcases row_form hL.row with ⟨rfl, _⟩ | ⟨g, cap, rfl⟩
    · exact ⟨_, _, _, rfl⟩
    · exact ⟨_, _, _, rfl⟩
  obtain ⟨c0, c1, c2, c3, f2, f3⟩ := hL.c
  clear c0 c1 f2 f3 hL
  go_enter Tryz.func38, Tryz.ntmps38
  go_wp2
  go_region_with (go_at_call 58; refine hcl.mono ?_; rintro e w1 ⟨ao, cap, rfl, own1, b1⟩; have d3 : w1.cell? ⟨b, 3, none⟩ = some (.int .i64 ls) := (b1.cell (p := ⟨b, 3, none⟩) (show b < _ by omega)).trans ((hA.cell (p := ⟨b, 3, none⟩) hlt).trans c3); have e0 : w1.cell? ⟨w.heap.size, 0, none⟩ = some (.slice none 0 0) := (b1.cell (p := ⟨w.heap.size, 0, none⟩) (by simp)).trans (by simp); have e1 : w1.cell? ⟨w.heap.size, 1, none⟩ = some (.int .i64 0) := (b1.cell (p := ⟨w.heap.size, 1, none⟩) (by simp)).trans (by simp); have g0 : w1.frozen? ⟨w.heap.size, 0, none⟩ = false := (b1.frozen (p := ⟨w.heap.size, 0, none⟩) (by simp)).trans (by simp); have g1 : w1.frozen? ⟨w.heap.size, 1, none⟩ = false := (b1.frozen (p := ⟨w.heap.size, 1, none⟩) (by simp)).trans (by simp))
  all_goals (try go_wp2)
  all_goals
    refine bodyPost_ret (v := .agg #[.slice ao xs.length cap, .int .i64 ls]) (by simp [results, Tryz.results38, go_sem, e0, e1]) rfl ⟨_, _, rfl, own_mono (ownsRow_setCell_below (ownsRow_setCell_below own1 (a := ⟨w.heap.size, 0, none⟩) (Nat.lt_succ_self _) _) (a := ⟨w.heap.size, 1, none⟩) (Nat.lt_succ_self _) _) (Nat.le_succ _), ?_⟩
    exact ((hA.trans (b1.mono (Nat.le_succ _))).setCell (p := ⟨w.heap.size, 0, none⟩) (Nat.le_refl _) _).setCell (p := ⟨w.heap.size, 1, none⟩) (Nat.le_refl _) _
end Go.Proofs.YtajfgmlockjmhadGreatDoor
namespace Go.Proofs.YtajfgmlockjmhadGreatDoor
open Go.RowKit

theorem dheld_l (base b : Nat) (l : LnD) (u : Value) (w : World) (hx : l.xs.length ≤ 1000000) (hL : Ln w base b l.w.2.2.1 l.w.2.2.2 l.xs l.ls u) :
    Calls Tryz.prog 38 #[.pointer (some ⟨b, 0, none⟩)] w fun e w' => ∃ v, e = .returned (.agg #[v, .int .i64 l.ls]) ∧ Rd w' v l.xs ∧ (∀ g, v.ownBlock = some g → w.heap.size ≤ g ∧ g < w'.heap.size) ∧ Below w.heap.size w w' := by
  refine (held_any base b _ _ l.xs l.ls u w hx hL).mono ?_
  rintro e w' ⟨ao, cap, rfl, h1, h2⟩
  refine ⟨_, rfl, ?_, fun g hg => h1.lt g hg, h2⟩
  rcases h1.2 with ⟨h3, h4⟩ | ⟨g, cap', cur, h3, h4, h5, h6, h7, _⟩
  · rw [h3]
    exact Or.inl ⟨List.length_eq_zero_iff.1 h4, _, _, rfl⟩
  · injection h3 with e1 e2 e3
    subst e1
    subst e3
    refine Or.inr ⟨g, 0, cap, rfl, h6, h7, (Array.getElem?_eq_some_iff.1 h5).1, fun i x hx => ?_⟩
    have := h1.cells (g := g) rfl i (.int .i64 x) (ints_at hx)
    rw [Addr.add_lit] at this
    exact this
end Go.Proofs.YtajfgmlockjmhadGreatDoor
namespace Go.Proofs.YtajfgmlockjmhadGreatDoor
open Go.RowKit

set_option maxRecDepth 100000 in
set_option maxHeartbeats 4000000 in
theorem gwire_any (p : PD) (k : KD) (kb base : Nat) (a : GW) (i : Int) (w : World) (h : GK w base p k kb a) (hx : ∀ l ∈ k.lines, l.xs.length ≤ 1000000) :
    Calls Tryz.prog 14 #[.pointer (some ⟨kb, 0, none⟩), .int .i64 i] w fun e w' => ∃ u, e = .returned (.tuple #[.agg #[u, .int .i64 (lineK k i).ls], wErr (errB (noLine k i))]) ∧ Rd w' u (lineK k i).xs ∧ (∀ g, u.ownBlock = some g → w.heap.size ≤ g ∧ g < w'.heap.size) ∧ Below w.heap.size w w' := by
  have c4 := h.c4
  have hkb := h.lt.1
  have hnk := World.new_ne w ⟨kb, 4, none⟩ c4
  by_cases hr : 0 ≤ i ∧ i < (k.lines.length : Int)
  · obtain ⟨n, rfl⟩ : ∃ n : Nat, i = n := ⟨i.toNat, by omega⟩
    have hn : n < k.lines.length := by omega
    have hni : (n : Int) < (k.lines.length : Int) := by omega
    have hno : noLine k n = false := by
      unfold noLine
      rw [Bool.or_eq_false_iff]
      exact ⟨decide_eq_false (by omega), decide_eq_false (by omega)⟩
    obtain ⟨b, u, cap, l, hl, hb, hu, hlv, hcap, hptr, hln⟩ := h.lines.at hn
    have hlk : lineK k n = l := by
      unfold lineK
      rw [if_neg (by rw [hno]; decide), Int.toNat_natCast]
      simp [List.getD, hl]
    have hxl := hx l (List.mem_of_getElem? hl)
    rw [hlk, hno]
    rw [hlv] at c4
    have HH : Hid (∀ W, Below w.heap.size w W → Calls Tryz.prog 38 #[.pointer (some ⟨b, 0, none⟩)] W fun e w' => ∃ ao m cu, e = .returned (.agg #[.slice ao m cu, .int .i64 l.ls]) ∧ Rd w' (.slice ao m cu) l.xs ∧ (∀ g, (Value.slice ao m cu).ownBlock = some g → W.heap.size ≤ g ∧ g < w'.heap.size) ∧ Below W.heap.size W w') := fun W hb => by
      refine (dheld_l _ b l u W hxl (hln.below hb)).mono ?_
      rintro e w' ⟨v, rfl, h1, h2, h3⟩
      have hf : ∃ ao m cu, v = .slice ao m cu := by
        rcases h1 with ⟨_, ao, cu, h4⟩ | ⟨g, off, cu, h4, _⟩
        · exact ⟨_, _, _, h4⟩
        · exact ⟨_, _, _, h4⟩
      obtain ⟨ao, m, cu, rfl⟩ := hf
      exact ⟨ao, m, cu, rfl, h1, h2, h3⟩
    have hnl := World.new_ne w ⟨a.lr, n, none⟩ hptr
    have hA : Below w.heap.size w (w.alloc (.cells #[.slice none 0 0, .int .i64 0] 54)) := (Below.refl _ w).alloc (Nat.le_refl _) _
    have dl : (w.alloc (.cells #[.slice none 0 0, .int .i64 0] 54)).cell? ⟨a.lr, n, none⟩ = some (.pointer (some ⟨b, 0, none⟩)) := (hA.cell (p := ⟨a.lr, n, none⟩) (wlt hptr)).trans hptr
    have d4 : (w.alloc (.cells #[.slice none 0 0, .int .i64 0] 54)).cell? ⟨kb, 4, none⟩ = some (.slice (some ⟨a.lr, 0, none⟩) k.lines.length cap) := (hA.cell (p := ⟨kb, 4, none⟩) (wlt c4)).trans c4
    clear h hno hlk hr hx hln hl hu hb hlv
    go_enter Tryz.func14, Tryz.ntmps14
    go_upto_region 3 with (go_at_call 37; refine (kbelow_yes _ _ _ (by omega) hni).mono ?_; rintro e w1 ⟨rfl, hw1⟩; subst hw1)
    clear c4 hptr
    generalize hW : w.alloc (.cells #[.slice none 0 0, .int .i64 0] 54) = WA at hA dl d4 ⊢
    go_cut [4, 5] from 16 to 23 (fun s4 s5 wx => s4 = .pointer (some ⟨w.heap.size, 0, none⟩) ∧ s5 = .nilIface ∧ ∃ v, wx.cell? ⟨w.heap.size, 0, none⟩ = some v ∧ wx.cell? ⟨w.heap.size, 1, none⟩ = some (.int .i64 l.ls) ∧ Rd wx v l.xs ∧ (∀ g, v.ownBlock = some g → w.heap.size + 1 ≤ g ∧ g < wx.heap.size) ∧ Below w.heap.size w wx)
    case first =>
      go_wp2_with (go_at_call 38; refine (HH.out _ hA).mono ?_; rintro e w1 ⟨ao, m, cu, rfl, hrd, hown, hb1⟩; have z0 : w1.cell? ⟨w.heap.size, 0, none⟩ = some (.slice none 0 0) := (hb1.cell (p := ⟨w.heap.size, 0, none⟩) (by rw [← hW]; simp)).trans (by rw [← hW]; simp); have z1 : w1.cell? ⟨w.heap.size, 1, none⟩ = some (.int .i64 0) := (hb1.cell (p := ⟨w.heap.size, 1, none⟩) (by rw [← hW]; simp)).trans (by rw [← hW]; simp); have y0 : w1.frozen? ⟨w.heap.size, 0, none⟩ = false := (hb1.frozen (p := ⟨w.heap.size, 0, none⟩) (by rw [← hW]; simp)).trans (by rw [← hW]; simp); have y1 : w1.frozen? ⟨w.heap.size, 1, none⟩ = false := (hb1.frozen (p := ⟨w.heap.size, 1, none⟩) (by rw [← hW]; simp)).trans (by rw [← hW]; simp))
      go_meet
      case rel =>
        have hWs : WA.heap.size = w.heap.size + 1 := by rw [← hW]; simp
        rw [hWs] at hown
        refine ⟨rfl, rfl, .slice ao m cu, by simp [go_sem, z0], by simp [go_sem, z1], ?_, ?_, ?_⟩
        · refine hrd.block (fun g hg ho => ?_) (by simp)
          have := (hown g ho).1
          rw [Below.heap_setCell _ _ _ _ (show g ≠ w.heap.size by omega), Below.heap_setCell _ _ _ _ (show g ≠ w.heap.size by omega)]
        · simpa using hown
        · exact ((hA.trans (hb1.mono (by omega))).setCell (p := ⟨w.heap.size, 0, none⟩) (by simp) _).setCell (p := ⟨w.heap.size, 1, none⟩) (by simp) _
    case rest =>
      obtain ⟨rfl, rfl, v, z0, z1, hrd, hown, hbl⟩ := hcut
      go_wp2
      refine bodyPost_ret (v := .tuple #[.agg #[v, .int .i64 l.ls], wErr (errB false)]) ?_ rfl ⟨v, rfl, hrd, fun g hg => ⟨by have := (hown g hg).1; omega, (hown g hg).2⟩, hbl⟩
      simp [results, Tryz.results14, go_sem, z0, z1, wErr, errB]
  · have hno : noLine k i = true := by
      unfold noLine
      rw [Bool.or_eq_true]
      by_cases h0 : i < 0
      · exact Or.inl (decide_eq_true h0)
      · exact Or.inr (decide_eq_true (by omega))
    have hlk : lineK k i = LnD.none := by
      unfold lineK
      rw [if_pos hno]
    have hform : ∃ ao cap, a.lv = .slice ao k.lines.length cap := by
      rcases h.lines.lv with ⟨h1, h2⟩ | ⟨cap, h1, _⟩
      · exact ⟨none, 0, by rw [h2, h1]; rfl⟩
      · exact ⟨_, cap, h1⟩
    obtain ⟨ao, cap, hlv⟩ := hform
    rw [hlk, hno]
    rw [hlv] at c4
    clear h hno hlk hlv hx
    go_enter Tryz.func14, Tryz.ntmps14
    go_wp2_with (go_at_call 37; refine (kbelow_no _ _ _ hr).mono ?_; rintro e w1 ⟨rfl, hw1⟩; subst hw1)
    refine bodyPost_ret (v := .tuple #[.agg #[.slice none 0 0, .int .i64 LnD.none.ls], wErr (errB true)]) ?_ rfl ⟨.slice none 0 0, rfl, Or.inl ⟨rfl, _, _, rfl⟩, fun g hg => (by simp [Value.ownBlock] at hg), ?_⟩
    · simp [results, Tryz.results14, go_sem, LnD.none, wErr, errB]
    · repeat' first | exact Below.refl _ _ | refine Below.drew ?_ | refine Below.alloc ?_ (by simp <;> omega) _ | refine Below.setCell ?_ (by simp <;> omega) _
end Go.Proofs.YtajfgmlockjmhadGreatDoor

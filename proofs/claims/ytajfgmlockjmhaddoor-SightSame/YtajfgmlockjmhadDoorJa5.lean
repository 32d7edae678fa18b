/-
  WTake2, DLineOps, GSmall, GPoke, WHeld, DHeld, GWire, FHold: joined into one text.
-/
import Derived.Test.YtajfgmlockjmhadDoorJa4
import Derived.Test.YtajfgmlockjmhadDoorJa3
import Derived.Deep.RegionHeld3
import Derived.Deep.CutRange
import Derived.Deep.RegionWith
import Derived.BigQuiet
import Derived.RangeFuncNested
import Derived.Test.YtajfgmlockjmhadDoorJa1
namespace Go.Proofs.YtajfgmlockjmhadDoor
open Go.RowKit

set_option maxRecDepth 100000 in
set_option maxHeartbeats 2000000 in
theorem take_none (b : Nat) (kd dp ls : Int) (ao : Option Addr) (cap : Nat) (w : World) (hL : LnC w b kd dp ls (.slice ao 0 cap)) :
    Calls Tryd.prog 76 #[.pointer (some ⟨b, 0, none⟩)] w fun e w' => e = .returned (.tuple #[.int .i64 0, .iface 71 (.int .i64 5)]) ∧ w' = w := by
  have hp := peek_none b kd dp ls ao cap w hL
  clear hL
  go_enter Tryd.func76, Tryd.ntmps76
  go_wp2_with (go_at_call 70; refine hp.mono ?_; rintro e w1 ⟨rfl, rfl⟩; clear hp)
  go_ret2
  exact ⟨rfl, rfl⟩
set_option maxRecDepth 100000 in
set_option maxHeartbeats 2000000 in
theorem take_sample (b : Nat) (dp ls : Int) (g m cap : Nat) (x : Int) (w : World) (hL : LnC w b 1 dp ls (.slice (some ⟨g, 0, none⟩) m cap)) (hm : 0 < m) (hx : w.cell? ⟨g, 0, none⟩ = some (.int .i64 x)) :
    Calls Tryd.prog 76 #[.pointer (some ⟨b, 0, none⟩)] w fun e w' => e = .returned (.tuple #[.int .i64 x, .nilIface]) ∧ w' = w := by
  have hp := peek_some b 1 dp ls g m cap x w hL hm hx
  have hlt := hL.lt
  obtain ⟨c0, c1, c2, c3, f2, f3⟩ := hL
  clear c1 c2 c3 f2 f3 hx
  go_enter Tryd.func76, Tryd.ntmps76
  go_wp2_with (go_at_call 70; refine hp.mono ?_; rintro e w1 ⟨rfl, rfl⟩; clear hp)
  go_ret2
  exact ⟨rfl, rfl⟩
set_option maxRecDepth 100000 in
set_option maxHeartbeats 4000000 in
theorem take_queue (base b : Nat) (dp ls : Int) (x : Int) (ys : List Int) (v : Value) (w : World) (hL : Ln w base b 2 dp (x :: ys) ls v) :
    Calls Tryd.prog 76 #[.pointer (some ⟨b, 0, none⟩)] w fun e w' => ∃ v', e = .returned (.tuple #[.int .i64 x, .nilIface]) ∧ Ln w' base b 2 dp ys ls v' ∧ Touch w w' b v v' := by
  obtain ⟨g, cap, rfl⟩ : ∃ g cap, v = .slice (some ⟨g, 0, none⟩) (ys.length + 1) cap := by
    rcases row_form hL.row with ⟨_, h⟩ | h
    · simp at h
    · exact h
  have hrow := hL.row
  have hcp := own_cap hrow
  have hx : w.cell? ⟨g, 0, none⟩ = some (.int .i64 x) := hcp.2.2.2.2.1 0 _ rfl
  have hp := peek_some b 2 dp ls g (ys.length + 1) cap x w hL.c (by omega) hx
  have hd := del_first base g cap x ys w hrow
  have HL : Hid (Ln w base b 2 dp (x :: ys) ls (.slice (some ⟨g, 0, none⟩) (ys.length + 1) cap)) := hL
  have hlt := hL.c.lt
  have hbg : b ≠ g := by have := hL.lt; have := hcp.1; omega
  obtain ⟨c0, c1, c2, c3, f2, f3⟩ := hL.c
  clear c1 c3 f3 hx hL hrow hcp
  go_enter Tryd.func76, Tryd.ntmps76
  go_wp2_with (first | (go_at_call 70; refine hp.mono ?_; rintro e w1 ⟨rfl, rfl⟩; clear hp) | (go_at_call 83; refine hd.mono ?_; rintro e w2 ⟨rfl, own2, hg2⟩; clear hd; have hb2 := hg2.block b hlt (fun e => hbg (Option.some.inj e)); have hc2 := HL.out.c.block hb2; have HC : Hid (LnC w2 b 2 dp ls (.slice (some ⟨g, 0, none⟩) (ys.length + 1) cap)) := hc2; obtain ⟨k0, k1, k2, k3, k4, k5⟩ := hc2; clear k0 k1 k3 k5; have hlt2 := HC.out.lt))
  go_ret2
  refine ⟨_, rfl, ⟨HC.out.items _, ownsRow_setCell_below own2 (a := ⟨b, 2, none⟩) HL.out.lt _, HL.out.lt, by have := HL.out.le; have := hg2.size; simp; omega⟩, ?_⟩
  exact ((Touch.refl w1 b (.slice (some ⟨g, 0, none⟩) (ys.length + 1) cap)).grown (v2 := .slice (some ⟨g, 0, none⟩) ys.length cap) hg2 (fun k hk => Or.inl hk)).set 2 _
end Go.Proofs.YtajfgmlockjmhadDoor
namespace Go.Proofs.YtajfgmlockjmhadDoor
open Go.RowKit

theorem Ln.first {w : World} {base b : Nat} {kd dp ls : Int} {x : Int} {ys : List Int} {v : Value} (h : Ln w base b kd dp (x :: ys) ls v) : ∃ g cap, v = .slice (some ⟨g, 0, none⟩) (ys.length + 1) cap ∧ w.cell? ⟨g, 0, none⟩ = some (.int .i64 x) := by
  rcases h.form with ⟨_, e⟩ | ⟨g, cap, rfl⟩
  · cases e
  · have := h.row.cells (g := g) rfl 0 (.int .i64 x) (by simp [ints])
    rw [Addr.add_lit, Nat.zero_add] at this
    exact ⟨g, cap, rfl, this⟩
theorem Ln.none {w : World} {base b : Nat} {kd dp ls : Int} {v : Value} (h : Ln w base b kd dp [] ls v) : ∃ ao cap, v = .slice ao 0 cap := by
  rcases h.form with ⟨rfl, _⟩ | ⟨g, cap, rfl⟩
  · exact ⟨_, _, rfl⟩
  · exact ⟨_, _, rfl⟩
theorem dpeek_l (base b : Nat) (l : LnD) (u : Value) (w : World) (hL : Ln w base b l.w.2.2.1 l.w.2.2.2 l.xs l.ls u) :
    Calls Tryd.prog 70 #[.pointer (some ⟨b, 0, none⟩)] w fun e w' => e = .returned (.tuple #[.int .i64 (headL l).1, .bool (headL l).2]) ∧ w' = w := by
  obtain ⟨x, xs, ls⟩ := l
  cases xs with
  | nil =>
    obtain ⟨ao, cap, rfl⟩ := Ln.none hL
    exact peek_none b _ _ ls ao cap w hL.c
  | cons n ys =>
    obtain ⟨g, cap, rfl, h1⟩ := Ln.first hL
    exact peek_some b _ _ ls g _ cap n w hL.c (by omega) h1
theorem dtake_l (base b : Nat) (l : LnD) (u : Value) (w : World) (hk : l.w.2.2.1 = 1 ∨ l.w.2.2.1 = 2) (hh : (headL l).2 = true) (hL : Ln w base b l.w.2.2.1 l.w.2.2.2 l.xs l.ls u) :
    Calls Tryd.prog 76 #[.pointer (some ⟨b, 0, none⟩)] w fun e w' => ∃ u', e = .returned (.tuple #[.int .i64 (headL l).1, .nilIface]) ∧ Ln w' base b (restL l).w.2.2.1 (restL l).w.2.2.2 (restL l).xs (restL l).ls u' ∧ Touch w w' b u u' := by
  obtain ⟨x, xs, ls⟩ := l
  simp only at hk hL
  cases xs with
  | nil => simp [headL] at hh
  | cons n ys =>
    rcases hk with h1 | h2
    · have e2 : restL ⟨x, n :: ys, ls⟩ = ⟨x, n :: ys, ls⟩ := by simp [restL, h1]
      rw [e2]
      obtain ⟨g, cap, rfl, hc⟩ := Ln.first hL
      rw [h1] at hL
      refine (take_sample b _ ls g _ cap n w hL.c (by omega) hc).mono ?_
      rintro e w' ⟨rfl, rfl⟩
      exact ⟨_, rfl, by simp only [h1]; exact hL, Touch.refl _ _ _⟩
    · have e2 : restL ⟨x, n :: ys, ls⟩ = ⟨x, ys, ls⟩ := by simp [restL, h2]
      rw [e2]
      rw [h2] at hL
      refine (take_queue base b _ ls n ys u w hL).mono ?_
      rintro e w' ⟨u', rfl, h3, h4⟩
      exact ⟨u', rfl, by simp only [h2]; exact h3, h4⟩
theorem dsend_l (base b : Nat) (l : LnD) (u : Value) (n : Int) (w : World) (hk : (l.w.2.2.1 = 1 ∧ l.w.2.2.2 = 1) ∨ l.w.2.2.1 = 2) (hn : 0 ≤ n ∧ n ≤ 999) (hls : 0 ≤ l.ls ∧ l.ls < 1000000000) (hx : l.xs.length ≤ 1000000) (hL : Ln w base b l.w.2.2.1 l.w.2.2.2 l.xs l.ls u) :
    Calls Tryd.prog 77 #[.pointer (some ⟨b, 0, none⟩), .int .i64 n] w fun e w' => ∃ u', e = .returned (.tuple #[.bool (fitL l), .nilIface]) ∧ Ln w' base b (putL l n).w.2.2.1 (putL l n).w.2.2.2 (putL l n).xs (putL l n).ls u' ∧ Touch w w' b u u' := by
  obtain ⟨x, xs, ls⟩ := l
  simp only at hk hls hx hL
  rcases hk with ⟨h1, h1'⟩ | h2
  · have e1 : fitL ⟨x, xs, ls⟩ = true := by simp [fitL, h1]
    have e2 : putL ⟨x, xs, ls⟩ n = ⟨x, [n], ls⟩ := by simp [putL, h1]
    rw [e1, e2]
    rw [h1, h1'] at hL
    refine (send_sample base b xs ls u n w hn.1 (by omega) hL).mono ?_
    rintro e w' ⟨u', rfl, h3, h4⟩
    exact ⟨u', rfl, by simp only [h1, h1']; exact h3, h4⟩
  · rw [h2] at hL
    by_cases hd : (xs.length : Int) < x.2.2.2
    · have e1 : fitL ⟨x, xs, ls⟩ = true := by simp [fitL, hd]
      have e2 : putL ⟨x, xs, ls⟩ n = ⟨x, xs ++ [n], ls⟩ := by simp [putL, h2, hd]
      rw [e1, e2]
      refine (send_room base b _ xs ls u n w hn.1 (by omega) hL hd hx).mono ?_
      rintro e w' ⟨u', rfl, h3, h4⟩
      exact ⟨u', rfl, by simp only [h2]; exact h3, h4⟩
    · have e1 : fitL ⟨x, xs, ls⟩ = false := by simp [fitL, h2]; omega
      have e2 : putL ⟨x, xs, ls⟩ n = ⟨x, xs, ls + 1⟩ := by simp [putL, h2, hd]
      rw [e1, e2]
      refine (send_full base b _ xs ls u n w hn.1 (by omega) hls hL (by omega)).mono ?_
      rintro e w' ⟨rfl, h3, h4⟩
      exact ⟨u, rfl, by simp only [h2]; exact h3, h4⟩
end Go.Proofs.YtajfgmlockjmhadDoor
namespace Go.Proofs.YtajfgmlockjmhadDoor
open Go.RowKit

set_option maxRecDepth 100000 in
set_option maxHeartbeats 1000000 in
theorem kbelow_yes (n b : Int) (w : World) (h0 : 0 ≤ n) (h1 : n < b) : Calls Tryd.prog 35 #[.int .i64 n, .int .i64 b] w fun e w' => e = .returned (.bool true) ∧ w' = w := by
  go_enter Tryd.func35, Tryd.ntmps35
  go_wp2
  go_ret
  exact ⟨rfl, rfl⟩
set_option maxRecDepth 100000 in
set_option maxHeartbeats 1000000 in
theorem kbelow_no (n b : Int) (w : World) (h : ¬ (0 ≤ n ∧ n < b)) : Calls Tryd.prog 35 #[.int .i64 n, .int .i64 b] w fun e w' => e = .returned (.bool false) ∧ w' = w := by
  by_cases h0 : 0 ≤ n
  · have h1 : decide (n < b) = false := by simp; omega
    clear h
    go_enter Tryd.func35, Tryd.ntmps35
    go_wp2
    go_ret
    exact ⟨rfl, rfl⟩
  · have h0' : decide (0 ≤ n) = false := by simp; omega
    clear h
    go_enter Tryd.func35, Tryd.ntmps35
    go_wp2
    go_ret
    exact ⟨rfl, rfl⟩
theorem kbelow_any (n b : Int) (w : World) : Calls Tryd.prog 35 #[.int .i64 n, .int .i64 b] w fun e w' => e = .returned (.bool (decide (0 ≤ n) && decide (n < b))) ∧ w' = w := by
  by_cases h : 0 ≤ n ∧ n < b
  · refine (kbelow_yes n b w h.1 h.2).mono ?_
    rintro e w' ⟨rfl, rfl⟩
    simp [h.1, h.2]
  · refine (kbelow_no n b w h).mono ?_
    rintro e w' ⟨rfl, rfl⟩
    refine ⟨?_, rfl⟩
    have : (decide (0 ≤ n) && decide (n < b)) = false := by
      rw [← Bool.decide_and]
      exact decide_eq_false h
    rw [this]
set_option maxRecDepth 100000 in
set_option maxHeartbeats 4000000 in
theorem gstate_any (p : PD) (k : KD) (kb base : Nat) (a : GW) (r : Int) (w : World) (h : GK w base p k kb a) :
    Calls Tryd.prog 12 #[.pointer (some ⟨kb, 0, none⟩), .int .i64 r] w fun e w' => e = .returned (.tuple #[stA (roomK k r), wErr (errB (noRoom k r))]) ∧ Below w.heap.size w w' := by
  have c3 := h.c3
  have hkb := h.lt.1
  by_cases hr : 0 ≤ r ∧ r < (k.rooms.length : Int)
  · obtain ⟨n, rfl⟩ : ∃ n : Nat, r = n := ⟨r.toNat, by omega⟩
    have hn : n < k.rooms.length := by omega
    have hni : (n : Int) < (k.rooms.length : Int) := by omega
    have hno : noRoom k n = false := by
      unfold noRoom
      rw [Bool.or_eq_false_iff]
      exact ⟨decide_eq_false (by omega), decide_eq_false (by omega)⟩
    have hrk : roomK k n = k.rooms[n] := by
      unfold roomK
      rw [if_neg (by rw [hno]; decide), Int.toNat_natCast]
      simp [List.getD, hn]
    have hst := h.rooms n k.rooms[n] (List.getElem?_eq_getElem hn)
    rw [hrk, hno]
    generalize k.rooms[n] = s at hst ⊢
    obtain ⟨s0, s1, s2, s3, s4, s5, s6, s7⟩ := hst
    have hrb := wlt s0
    have hn0 := World.new_ne w ⟨a.rb, n * 8, none⟩ s0
    have hnk := World.new_ne w ⟨kb, 3, none⟩ c3
    clear h hno hrk hr
    go_enter Tryd.func12, Tryd.ntmps12
    go_wp2_with (go_at_call 35; refine (kbelow_yes _ _ _ (by omega) hni).mono ?_; rintro e w1 ⟨rfl, hw1⟩; subst hw1)
    refine bodyPost_ret (v := .tuple #[stA s, wErr (errB false)]) ?_ rfl ⟨rfl, ?_⟩
    · simp [results, Tryd.results12, go_sem, stA, wErr, errB]
    · repeat' first | exact Below.refl _ _ | refine Below.drew ?_ | refine Below.alloc ?_ (by simp <;> omega) _ | refine Below.setCell ?_ (by simp <;> omega) _
  · have hno : noRoom k r = true := by
      unfold noRoom
      rw [Bool.or_eq_true]
      by_cases h0 : r < 0
      · exact Or.inl (decide_eq_true h0)
      · exact Or.inr (decide_eq_true (by omega))
    have hrk : roomK k r = stNew := by
      unfold roomK
      rw [if_pos hno]
    rw [hrk, hno]
    have hnk := World.new_ne w ⟨kb, 3, none⟩ c3
    clear h hno hrk
    go_enter Tryd.func12, Tryd.ntmps12
    go_wp2_with (go_at_call 35; refine (kbelow_no _ _ _ hr).mono ?_; rintro e w1 ⟨rfl, hw1⟩; subst hw1)
    refine bodyPost_ret (v := .tuple #[stA stNew, wErr (errB true)]) ?_ rfl ⟨rfl, ?_⟩
    · simp [results, Tryd.results12, go_sem, stA, stNew, wErr, errB]
    · repeat' first | exact Below.refl _ _ | refine Below.drew ?_ | refine Below.alloc ?_ (by simp <;> omega) _ | refine Below.setCell ?_ (by simp <;> omega) _
end Go.Proofs.YtajfgmlockjmhadDoor
namespace Go.Proofs.YtajfgmlockjmhadDoor
open Go.RowKit

set_option maxRecDepth 100000 in
set_option maxHeartbeats 4000000 in
theorem gcheck_any (p : PD) (k : KD) (kb base : Nat) (a : GW) (r c n : Int) (w : World) (h : GK w base p k kb a) :
    Calls Tryd.prog 40 #[.pointer (some ⟨kb, 0, none⟩), .int .i64 r, .int .i64 c, .int .i64 n] w fun e w' => e = .returned (wErr (pokeN k r c n)) ∧ w' = w := by
  have c3 := h.c3
  have H : Hid (GK w base p k kb a) := h
  clear h
  go_enter Tryd.func40, Tryd.ntmps40
  go_upto_region 1 with fail
  go_cut [26] from 9 to 25 (fun s26 wx => s26 = .bool (pokeB k r c n) ∧ wx = w)
  case first =>
    by_cases h0 : 0 ≤ r ∧ r < (k.rooms.length : Int)
    · by_cases h1 : 0 ≤ c ∧ c < 6
      · have HX : Hid (pokeB k r c n = !(decide (0 ≤ n) && decide (n < 1000))) := by
          show _ = _
          unfold pokeB
          have e1 : decide (r < 0) = false := decide_eq_false (by omega)
          have e2 : decide ((k.rooms.length : Int) ≤ r) = false := decide_eq_false (by omega)
          have e3 : decide (c < 0) = false := decide_eq_false (by omega)
          have e4 : decide (5 < c) = false := decide_eq_false (by omega)
          simp only [e1, e2, e3, e4, Bool.false_or]
          by_cases e5 : n < 0
          · simp [e5] <;> omega
          · by_cases e6 : 999 < n
            · simp [e6] <;> omega
            · simp [e5, e6] <;> omega
        have b0 : (decide (0 ≤ r) && decide (r < (k.rooms.length : Int))) = true := by simp [h0.1, h0.2]
        have b1 : (decide (0 ≤ c) && decide (c < 6)) = true := by simp [h1.1, h1.2]
        go_wp2_with (go_at_call 35; refine (kbelow_any _ _ _).mono ?_; rintro e w1 ⟨rfl, hw1⟩; subst hw1; first | rw [b0] | rw [b1] | skip)
        go_meet
        case rel => exact ⟨by rw [HX.out, Bool.not_and], rfl⟩
      · have HX : Hid (pokeB k r c n = true) := by
          show _ = _
          unfold pokeB
          by_cases e3 : c < 0
          · simp [e3]
          · have e4 : 5 < c := by omega
            simp [e4]
        have b0 : (decide (0 ≤ r) && decide (r < (k.rooms.length : Int))) = true := by simp [h0.1, h0.2]
        have b1 : (decide (0 ≤ c) && decide (c < 6)) = false := by
          rw [← Bool.decide_and]
          exact decide_eq_false h1
        go_wp2_with (go_at_call 35; refine (kbelow_any _ _ _).mono ?_; rintro e w1 ⟨rfl, hw1⟩; subst hw1; first | rw [b0] | rw [b1] | skip)
        go_meet
        case rel => exact ⟨by rw [HX.out], rfl⟩
    · have HX : Hid (pokeB k r c n = true) := by
        show _ = _
        unfold pokeB
        by_cases e1 : r < 0
        · simp [e1]
        · have e2 : (k.rooms.length : Int) ≤ r := by omega
          simp [e2]
      go_wp2_with (go_at_call 35; refine (kbelow_no _ _ _ h0).mono ?_; rintro e w1 ⟨rfl, hw1⟩; subst hw1)
      go_meet
      case rel => exact ⟨by rw [HX.out], rfl⟩
  case rest =>
  obtain ⟨rfl, hwc⟩ := hcut
  rw [hwc]
  clear hwc
  have HN : Hid (pokeN k r c n = if pokeB k r c n = true then 1 else 0) := rfl
  cases hb : pokeB k r c n with
  | true =>
    go_wp2
    go_ret
    exact ⟨by rw [HN.out, hb]; rfl, rfl⟩
  | false =>
    go_wp2
    go_ret
    exact ⟨by rw [HN.out, hb]; rfl, rfl⟩
set_option maxRecDepth 100000 in
set_option maxHeartbeats 4000000 in
theorem gpoke_any (p : PD) (k : KD) (kb base : Nat) (a : GW) (r c n : Int) (w : World) (h : GK w base p k kb a) :
    Calls Tryd.prog 20 #[.pointer (some ⟨kb, 0, none⟩), .int .i64 r, .int .i64 c, .int .i64 n] w fun e w' => e = .returned (wErr (pokeN k r c n)) ∧ GK w' base p (pokeK k r c n) kb a ∧ KTouch (a.F kb) w w' := by
  have c3 := h.c3
  have hck := gcheck_any p k kb base a r c n w h
  have H : Hid (GK w base p k kb a) := h
  clear h
  cases hb : pokeB k r c n with
  | true =>
    have HN : Hid (pokeN k r c n = 1) := by show _ = _; unfold pokeN; rw [hb]; rfl
    rw [HN.out, show wErr 1 = .iface 71 (.int .i64 1) from rfl] at hck
    go_enter Tryd.func20, Tryd.ntmps20
    go_wp2_with (go_at_call 40; refine hck.mono ?_; rintro e w1 ⟨rfl, rfl⟩; clear hck)
    go_ret
    exact ⟨by rw [HN.out]; rfl, by unfold pokeK; rw [hb, if_pos rfl]; exact H.out, KTouch.refl _ _⟩
  | false =>
    obtain ⟨h0, h1, h2, h3, h4, h5⟩ := pokeB_false hb
    obtain ⟨rn, rfl⟩ : ∃ m : Nat, r = m := ⟨r.toNat, by omega⟩
    obtain ⟨cn, rfl⟩ : ∃ m : Nat, c = m := ⟨c.toNat, by omega⟩
    have hrl : rn < k.rooms.length := by omega
    have hcl : cn ≤ 5 := by omega
    have hc6 : (cn : Int) < 6 := by omega
    have hs : k.rooms[rn]? = some k.rooms[rn] := List.getElem?_eq_getElem hrl
    have hst := H.out.rooms rn _ hs
    have hcell : ∃ v, w.cell? ⟨a.rb, rn * 8 + 1 + cn, none⟩ = some v := by
      obtain ⟨q0, q1, q2, q3, q4, q5, q6, q7⟩ := hst
      match cn, hcl with
      | 0, _ => exact ⟨_, q1⟩
      | 1, _ => exact ⟨_, q2⟩
      | 2, _ => exact ⟨_, q3⟩
      | 3, _ => exact ⟨_, q4⟩
      | 4, _ => exact ⟨_, q5⟩
      | 5, _ => exact ⟨_, q6⟩
    obtain ⟨v0, hv0⟩ := hcell
    have hfz := H.out.rf (rn * 8 + 1 + cn)
    have HK : Hid (pokeK k rn cn n = ⟨k.rooms.set rn (pokeS k.rooms[rn] cn n), k.lines, k.time⟩) := by
      show _ = _
      unfold pokeK
      rw [hb, if_neg (by decide)]
      simp [List.getD, hs]
    clear hst hs
    have HN : Hid (pokeN k rn cn n = 0) := by show _ = _; unfold pokeN; rw [hb]; rfl
    rw [HN.out, show wErr 0 = .nilIface from rfl] at hck
    clear hb
    go_enter Tryd.func20, Tryd.ntmps20
    go_wp2_with (go_at_call 40; refine hck.mono ?_; rintro e w1 ⟨rfl, rfl⟩; clear hck)
    go_ret
    refine ⟨by rw [HN.out]; rfl, ?_, KTouch.set _ (by simp [GW.F]) _ _⟩
    rw [HK.out]
    exact H.out.poke (List.getElem?_eq_getElem hrl) hcl n
end Go.Proofs.YtajfgmlockjmhadDoor
namespace Go.Proofs.YtajfgmlockjmhadDoor
open Go.RowKit

theorem own_mono {w : World} {base B : Nat} {e : TypeId} {size : Nat} {v : Value} {n : Nat} {xs : List Value} (h : w.ownsRow base e size v n xs) (hB : B ≤ base) : w.ownsRow B e size v n xs := by
  refine ⟨h.1, ?_⟩
  rcases h.2 with h2 | ⟨g, cap, cur, rfl, h3, r⟩
  · exact Or.inl h2
  · exact Or.inr ⟨g, cap, cur, rfl, Nat.le_trans hB h3, r⟩
set_option maxRecDepth 100000 in
set_option maxHeartbeats 4000000 in
theorem held_any (base b : Nat) (kd dp : Int) (xs : List Int) (ls : Int) (v : Value) (w : World) (hx : xs.length ≤ 1000000) (hL : Ln w base b kd dp xs ls v) :
    Calls Tryd.prog 37 #[.pointer (some ⟨b, 0, none⟩)] w fun e w' => ∃ ao cap, e = .returned (.agg #[.slice ao xs.length cap, .int .i64 ls]) ∧ w'.ownsRow w.heap.size 3 1 (.slice ao xs.length cap) xs.length (ints xs) ∧ Below w.heap.size w w' := by
  have hlt := hL.c.lt
  have hA : Below w.heap.size w (w.alloc (.cells #[.slice none 0 0, .int .i64 0] 58)) := (Below.refl _ _).alloc (Nat.le_refl _) _
  have hcl : Calls Tryd.prog 56 #[v] (w.alloc (.cells #[.slice none 0 0, .int .i64 0] 58)).drew fun e w' => ∃ ao cap, e = .returned (.slice ao xs.length cap) ∧ w'.ownsRow (w.heap.size + 1) 3 1 (.slice ao xs.length cap) xs.length (ints xs) ∧ Below (w.heap.size + 1) (w.alloc (.cells #[.slice none 0 0, .int .i64 0] 58)) w' := by
    rcases hL.form with ⟨rfl, rfl⟩ | ⟨g, cap, rfl⟩
    · refine (clone_nil _).mono fun e w' ⟨he, hw⟩ => ?_
      subst hw
      exact ⟨_, _, he, World.ownsRow_nil _ _ _ _, (Below.refl _ _).drew⟩
    · have hcp := own_cap hL.row
      refine (clone_some g cap xs _ hx (fun i x h => ((hA.drew).cell (p := ⟨g, i, none⟩) hcp.2.1).trans (hcp.2.2.2.2.1 i x h))).mono fun e w' ⟨v', he, hr, hb⟩ => ?_
      have hr' : w'.ownsRow (w.heap.size + 1) 3 1 v' xs.length (ints xs) := by simpa using hr
      rcases row_form hr' with ⟨rfl, h0⟩ | ⟨g', cap', rfl⟩
      · exact ⟨none, 0, by rw [h0]; exact he, by rw [h0] at hr' ⊢; exact hr', (Below.refl _ _).drew.trans (by simpa using hb)⟩
      · exact ⟨_, _, he, hr', (Below.refl _ _).drew.trans (by simpa using hb)⟩
  obtain ⟨sa, sm, sc, rfl⟩ : ∃ sa sm sc, v = .slice sa sm sc := by
    rcases row_form hL.row with ⟨rfl, _⟩ | ⟨g, cap, rfl⟩
    · exact ⟨_, _, _, rfl⟩
    · exact ⟨_, _, _, rfl⟩
  obtain ⟨c0, c1, c2, c3, f2, f3⟩ := hL.c
  clear c0 c1 f2 f3 hL
  go_enter Tryd.func37, Tryd.ntmps37
  go_wp2
  go_region_with (go_at_call 56; refine hcl.mono ?_; rintro e w1 ⟨ao, cap, rfl, own1, b1⟩; have d3 : w1.cell? ⟨b, 3, none⟩ = some (.int .i64 ls) := (b1.cell (p := ⟨b, 3, none⟩) (show b < _ by omega)).trans ((hA.cell (p := ⟨b, 3, none⟩) hlt).trans c3); have e0 : w1.cell? ⟨w.heap.size, 0, none⟩ = some (.slice none 0 0) := (b1.cell (p := ⟨w.heap.size, 0, none⟩) (by simp)).trans (by simp); have e1 : w1.cell? ⟨w.heap.size, 1, none⟩ = some (.int .i64 0) := (b1.cell (p := ⟨w.heap.size, 1, none⟩) (by simp)).trans (by simp); have g0 : w1.frozen? ⟨w.heap.size, 0, none⟩ = false := (b1.frozen (p := ⟨w.heap.size, 0, none⟩) (by simp)).trans (by simp); have g1 : w1.frozen? ⟨w.heap.size, 1, none⟩ = false := (b1.frozen (p := ⟨w.heap.size, 1, none⟩) (by simp)).trans (by simp))
  all_goals (try go_wp2)
  all_goals
    refine bodyPost_ret (v := .agg #[.slice ao xs.length cap, .int .i64 ls]) (by simp [results, Tryd.results37, go_sem, e0, e1]) rfl ⟨_, _, rfl, own_mono (ownsRow_setCell_below (ownsRow_setCell_below own1 (a := ⟨w.heap.size, 0, none⟩) (Nat.lt_succ_self _) _) (a := ⟨w.heap.size, 1, none⟩) (Nat.lt_succ_self _) _) (Nat.le_succ _), ?_⟩
    exact ((hA.trans (b1.mono (Nat.le_succ _))).setCell (p := ⟨w.heap.size, 0, none⟩) (Nat.le_refl _) _).setCell (p := ⟨w.heap.size, 1, none⟩) (Nat.le_refl _) _
end Go.Proofs.YtajfgmlockjmhadDoor
namespace Go.Proofs.YtajfgmlockjmhadDoor
open Go.RowKit

theorem dheld_l (base b : Nat) (l : LnD) (u : Value) (w : World) (hx : l.xs.length ≤ 1000000) (hL : Ln w base b l.w.2.2.1 l.w.2.2.2 l.xs l.ls u) :
    Calls Tryd.prog 37 #[.pointer (some ⟨b, 0, none⟩)] w fun e w' => ∃ v, e = .returned (.agg #[v, .int .i64 l.ls]) ∧ Rd w' v l.xs ∧ (∀ g, v.ownBlock = some g → w.heap.size ≤ g ∧ g < w'.heap.size) ∧ Below w.heap.size w w' := by
  refine (held_any base b _ _ l.xs l.ls u w hx hL).mono ?_
  rintro e w' ⟨ao, cap, rfl, h1, h2⟩
  refine ⟨_, rfl, ?_, fun g hg => h1.lt g hg, h2⟩
  rcases h1.2 with ⟨h3, h4⟩ | ⟨g, cap', cur, h3, h4, h5, h6, h7, _⟩
  · rw [h3]
    exact Or.inl ⟨List.length_eq_zero_iff.1 h4, _, _, rfl⟩
  · injection h3 with e1 e2 e3
    subst e1
    subst e3
    refine Or.inr ⟨g, 0, cap, rfl, h6, h7, (Array.getElem?_eq_some_iff.1 h5).1, fun i x hx => ?_⟩
    have := h1.cells (g := g) rfl i (.int .i64 x) (ints_at hx)
    rw [Addr.add_lit] at this
    exact this
end Go.Proofs.YtajfgmlockjmhadDoor
namespace Go.Proofs.YtajfgmlockjmhadDoor
open Go.RowKit

set_option maxRecDepth 100000 in
set_option maxHeartbeats 4000000 in
theorem gwire_any (p : PD) (k : KD) (kb base : Nat) (a : GW) (i : Int) (w : World) (h : GK w base p k kb a) (hx : ∀ l ∈ k.lines, l.xs.length ≤ 1000000) :
    Calls Tryd.prog 15 #[.pointer (some ⟨kb, 0, none⟩), .int .i64 i] w fun e w' => ∃ u, e = .returned (.tuple #[.agg #[u, .int .i64 (lineK k i).ls], wErr (errB (noLine k i))]) ∧ Rd w' u (lineK k i).xs ∧ (∀ g, u.ownBlock = some g → w.heap.size ≤ g ∧ g < w'.heap.size) ∧ Below w.heap.size w w' := by
  have c4 := h.c4
  have hkb := h.lt.1
  have hnk := World.new_ne w ⟨kb, 4, none⟩ c4
  by_cases hr : 0 ≤ i ∧ i < (k.lines.length : Int)
  · obtain ⟨n, rfl⟩ : ∃ n : Nat, i = n := ⟨i.toNat, by omega⟩
    have hn : n < k.lines.length := by omega
    have hni : (n : Int) < (k.lines.length : Int) := by omega
    have hno : noLine k n = false := by
      unfold noLine
      rw [Bool.or_eq_false_iff]
      exact ⟨decide_eq_false (by omega), decide_eq_false (by omega)⟩
    obtain ⟨b, u, cap, l, hl, hb, hu, hlv, hcap, hptr, hln⟩ := h.lines.at hn
    have hlk : lineK k n = l := by
      unfold lineK
      rw [if_neg (by rw [hno]; decide), Int.toNat_natCast]
      simp [List.getD, hl]
    have hxl := hx l (List.mem_of_getElem? hl)
    rw [hlk, hno]
    rw [hlv] at c4
    have HH : Hid (∀ W, Below w.heap.size w W → Calls Tryd.prog 37 #[.pointer (some ⟨b, 0, none⟩)] W fun e w' => ∃ ao m cu, e = .returned (.agg #[.slice ao m cu, .int .i64 l.ls]) ∧ Rd w' (.slice ao m cu) l.xs ∧ (∀ g, (Value.slice ao m cu).ownBlock = some g → W.heap.size ≤ g ∧ g < w'.heap.size) ∧ Below W.heap.size W w') := fun W hb => by
      refine (dheld_l _ b l u W hxl (hln.below hb)).mono ?_
      rintro e w' ⟨v, rfl, h1, h2, h3⟩
      have hf : ∃ ao m cu, v = .slice ao m cu := by
        rcases h1 with ⟨_, ao, cu, h4⟩ | ⟨g, off, cu, h4, _⟩
        · exact ⟨_, _, _, h4⟩
        · exact ⟨_, _, _, h4⟩
      obtain ⟨ao, m, cu, rfl⟩ := hf
      exact ⟨ao, m, cu, rfl, h1, h2, h3⟩
    have hnl := World.new_ne w ⟨a.lr, n, none⟩ hptr
    have hA : Below w.heap.size w (w.alloc (.cells #[.slice none 0 0, .int .i64 0] 58)) := (Below.refl _ w).alloc (Nat.le_refl _) _
    have dl : (w.alloc (.cells #[.slice none 0 0, .int .i64 0] 58)).cell? ⟨a.lr, n, none⟩ = some (.pointer (some ⟨b, 0, none⟩)) := (hA.cell (p := ⟨a.lr, n, none⟩) (wlt hptr)).trans hptr
    have d4 : (w.alloc (.cells #[.slice none 0 0, .int .i64 0] 58)).cell? ⟨kb, 4, none⟩ = some (.slice (some ⟨a.lr, 0, none⟩) k.lines.length cap) := (hA.cell (p := ⟨kb, 4, none⟩) (wlt c4)).trans c4
    clear h hno hlk hr hx hln hl hu hb hlv
    go_enter Tryd.func15, Tryd.ntmps15
    go_upto_region 3 with (go_at_call 35; refine (kbelow_yes _ _ _ (by omega) hni).mono ?_; rintro e w1 ⟨rfl, hw1⟩; subst hw1)
    clear c4 hptr
    generalize hW : w.alloc (.cells #[.slice none 0 0, .int .i64 0] 58) = WA at hA dl d4 ⊢
    go_cut [4, 5] from 16 to 23 (fun s4 s5 wx => s4 = .pointer (some ⟨w.heap.size, 0, none⟩) ∧ s5 = .nilIface ∧ ∃ v, wx.cell? ⟨w.heap.size, 0, none⟩ = some v ∧ wx.cell? ⟨w.heap.size, 1, none⟩ = some (.int .i64 l.ls) ∧ Rd wx v l.xs ∧ (∀ g, v.ownBlock = some g → w.heap.size + 1 ≤ g ∧ g < wx.heap.size) ∧ Below w.heap.size w wx)
    case first =>
      go_wp2_with (go_at_call 37; refine (HH.out _ hA).mono ?_; rintro e w1 ⟨ao, m, cu, rfl, hrd, hown, hb1⟩; have z0 : w1.cell? ⟨w.heap.size, 0, none⟩ = some (.slice none 0 0) := (hb1.cell (p := ⟨w.heap.size, 0, none⟩) (by rw [← hW]; simp)).trans (by rw [← hW]; simp); have z1 : w1.cell? ⟨w.heap.size, 1, none⟩ = some (.int .i64 0) := (hb1.cell (p := ⟨w.heap.size, 1, none⟩) (by rw [← hW]; simp)).trans (by rw [← hW]; simp); have y0 : w1.frozen? ⟨w.heap.size, 0, none⟩ = false := (hb1.frozen (p := ⟨w.heap.size, 0, none⟩) (by rw [← hW]; simp)).trans (by rw [← hW]; simp); have y1 : w1.frozen? ⟨w.heap.size, 1, none⟩ = false := (hb1.frozen (p := ⟨w.heap.size, 1, none⟩) (by rw [← hW]; simp)).trans (by rw [← hW]; simp))
      go_meet
      case rel =>
        have hWs : WA.heap.size = w.heap.size + 1 := by rw [← hW]; simp
        rw [hWs] at hown
        refine ⟨rfl, rfl, .slice ao m cu, by simp [go_sem, z0], by simp [go_sem, z1], ?_, ?_, ?_⟩
        · refine hrd.block (fun g hg ho => ?_) (by simp)
          have := (hown g ho).1
          rw [Below.heap_setCell _ _ _ _ (show g ≠ w.heap.size by omega), Below.heap_setCell _ _ _ _ (show g ≠ w.heap.size by omega)]
        · simpa using hown
        · exact ((hA.trans (hb1.mono (by omega))).setCell (p := ⟨w.heap.size, 0, none⟩) (by simp) _).setCell (p := ⟨w.heap.size, 1, none⟩) (by simp) _
    case rest =>
      obtain ⟨rfl, rfl, v, z0, z1, hrd, hown, hbl⟩ := hcut
      go_wp2
      refine bodyPost_ret (v := .tuple #[.agg #[v, .int .i64 l.ls], wErr (errB false)]) ?_ rfl ⟨v, rfl, hrd, fun g hg => ⟨by have := (hown g hg).1; omega, (hown g hg).2⟩, hbl⟩
      simp [results, Tryd.results15, go_sem, z0, z1, wErr, errB]
  · have hno : noLine k i = true := by
      unfold noLine
      rw [Bool.or_eq_true]
      by_cases h0 : i < 0
      · exact Or.inl (decide_eq_true h0)
      · exact Or.inr (decide_eq_true (by omega))
    have hlk : lineK k i = LnD.none := by
      unfold lineK
      rw [if_pos hno]
    have hform : ∃ ao cap, a.lv = .slice ao k.lines.length cap := by
      rcases h.lines.lv with ⟨h1, h2⟩ | ⟨cap, h1, _⟩
      · exact ⟨none, 0, by rw [h2, h1]; rfl⟩
      · exact ⟨_, cap, h1⟩
    obtain ⟨ao, cap, hlv⟩ := hform
    rw [hlk, hno]
    rw [hlv] at c4
    clear h hno hlk hlv hx
    go_enter Tryd.func15, Tryd.ntmps15
    go_wp2_with (go_at_call 35; refine (kbelow_no _ _ _ hr).mono ?_; rintro e w1 ⟨rfl, hw1⟩; subst hw1)
    refine bodyPost_ret (v := .tuple #[.agg #[.slice none 0 0, .int .i64 LnD.none.ls], wErr (errB true)]) ?_ rfl ⟨.slice none 0 0, rfl, Or.inl ⟨rfl, _, _, rfl⟩, fun g hg => (by simp [Value.ownBlock] at hg), ?_⟩
    · simp [results, Tryd.results15, go_sem, LnD.none, wErr, errB]
    · repeat' first | exact Below.refl _ _ | refine Below.drew ?_ | refine Below.alloc ?_ (by simp <;> omega) _ | refine Below.setCell ?_ (by simp <;> omega) _
end Go.Proofs.YtajfgmlockjmhadDoor
namespace Go.Proofs.YtajfgmlockjmhadDoor
open Go.RowKit

set_option maxRecDepth 100000 in
set_option maxHeartbeats 1000000 in
theorem hit_any (s : S3) (tb : Nat) (t : Int) (w : World) (ht : w.cell? ⟨tb, 0, none⟩ = some (.int .i64 t)) :
    Calls Tryd.prog 55 #[.agg #[.int .i64 s.1, .int .i64 s.2.1, .int .i64 s.2.2], .pointer (some ⟨tb, 0, none⟩)] w fun e w' => e = .returned (.bool (hits t s)) ∧ Below w.heap.size w w' := by
  have hlt := ltc ht
  have hn : tb ≠ w.heap.size := by omega
  obtain ⟨a, b, r⟩ := s
  simp only
  by_cases h1 : a ≤ t
  · by_cases h2 : t < b
    · have HF : Hid (hits t (a, b, r) = true) := by show _ = _; simp [hits, h1, h2]
      go_enter Tryd.func55, Tryd.ntmps55
      go_wp2
      go_ret
      exact ⟨retB HF.out.symm, (Below.refl _ _).alloc (Nat.le_refl _) _⟩
    · have h2' : decide (t < b) = false := by simpa using h2
      have HF : Hid (hits t (a, b, r) = false) := by show _ = _; simp [hits, h2]
      go_enter Tryd.func55, Tryd.ntmps55
      go_wp2
      go_ret
      exact ⟨retB HF.out.symm, (Below.refl _ _).alloc (Nat.le_refl _) _⟩
  · have h1' : decide (a ≤ t) = false := by simpa using h1
    have HF : Hid (hits t (a, b, r) = false) := by show _ = _; simp [hits, h1]
    go_enter Tryd.func55, Tryd.ntmps55
    go_wp2
    go_ret
    exact ⟨retB HF.out.symm, (Below.refl _ _).alloc (Nat.le_refl _) _⟩

theorem hidx_some {l : List S3} {t : Int} {k : Nat} (h : l.findIdx? (hits t) = some k) : hidx l t = k := by unfold hidx; rw [h]
theorem hidx_none {l : List S3} {t : Int} (h : l.findIdx? (hits t) = none) : hidx l t = -1 := by unfold hidx; rw [h]

set_option maxRecDepth 100000 in
set_option maxHeartbeats 2000000 in
theorem idxHold (l : List S3) (t : Int) (b off cap tb : Nat) (w : World) (ht : w.cell? ⟨tb, 0, none⟩ = some (.int .i64 t)) (hlen : l.length ≤ 12) (hlt : b < w.heap.size) (hc : SpC w b off l) :
    Calls Tryd.prog 54 #[.slice (some ⟨b, off, none⟩) l.length cap, .func (.func 55) #[] #[.pointer (some ⟨tb, 0, none⟩)]] w fun e w' =>
      e = .returned (.int .i64 (hidx l t)) ∧ Below w.heap.size w w' := by
  have hlt1 := ltc ht
  go_enter Tryd.func54, Tryd.ntmps54
  go_wp2
  go_loopw [8] (fun i wr => ∃ k : Nat, k ≤ l.length ∧ i = .int .i64 k ∧ (∀ (j : Nat) x, j < k → l[j]? = some x → hits t x = false) ∧ Below w.heap.size w wr) (fun i _ => l.length - (intOf i).toNat)
  case atStart => exact ⟨0, Nat.zero_le _, rfl, fun j x hj => by omega, Below.refl _ _⟩
  case round =>
    obtain ⟨k, hk, rfl, hall, hb⟩ := hrel
    have e1 : wr.cell? ⟨tb, 0, none⟩ = some (.int .i64 t) := (hb.cell (p := ⟨tb, 0, none⟩) hlt1).trans ht
    have Hall : Hid (∀ (j : Nat) x, j < k → l[j]? = some x → hits t x = false) := hall
    clear hall
    by_cases hkl : k < l.length
    · obtain ⟨o, ho⟩ : ∃ o, l[k]? = some o := ⟨l[k], List.getElem?_eq_getElem hkl⟩
      have HO : Hid (l[k]? = some o) := ho
      obtain ⟨c0, c1, c2⟩ := hc.below hb hlt k o ho
      clear ho
      have hon := hit_any o tb t wr e1
      clear e1
      cases hok : hits t o with
      | false =>
        have HN : Hid (hits t o = false) := hok
        rw [hok] at hon
        clear hok
        go_wp2_with (go_at_call 55; refine hon.mono ?_; rintro e w1 ⟨rfl, b1⟩; clear hon)
        go_roundw
        case rel =>
          refine ⟨k + 1, by omega, by go_num, fun j x hj hx => ?_, hb.trans (b1.mono hb.size)⟩
          by_cases hjk : j < k
          · exact Hall.out j x hjk hx
          · obtain rfl : j = k := by omega
            rw [HO.out] at hx
            obtain rfl := Option.some.inj hx
            exact HN.out
        case measure => simp [intOf]; omega
      | true =>
        have HF : Hid (l.findIdx? (hits t) = some k) := fidx_hit Hall.out HO.out hok
        rw [hok] at hon
        clear hok
        go_wp2_with (go_at_call 55; refine hon.mono ?_; rintro e w1 ⟨rfl, b1⟩; clear hon)
        go_ret
        exact ⟨retI (hidx_some HF.out).symm, hb.trans (b1.mono hb.size)⟩
    · have HF : Hid (l.findIdx? (hits t) = none) := fidx_miss (fun i x hi hx => Hall.out i x (by omega) hx)
      clear e1
      go_wp2
      go_ret
      exact ⟨retI (hidx_none HF.out).symm, hb⟩
set_option maxRecDepth 100000 in
set_option maxHeartbeats 2000000 in
theorem idxHold_nil (fn : Value) (a : Option Addr) (cap : Nat) (w : World) :
    Calls Tryd.prog 54 #[.slice a 0 cap, fn] w fun e w' => e = .returned (.int .i64 (-1)) ∧ Below w.heap.size w w' := by
  go_enter Tryd.func54, Tryd.ntmps54
  go_wp2
  refine wp_loop_rounds 1 ?_
  rw [rounds_succ]
  go_wp2
  go_ret
  exact ⟨rfl, Below.refl _ _⟩

set_option maxRecDepth 100000 in
set_option maxHeartbeats 2000000 in
theorem holder_nil (a : Option Addr) (cap : Nat) (t : Int) (w : World) :
    Calls Tryd.prog 36 #[.slice a 0 cap, .int .i64 t] w fun e w' => e = .returned (.int .i64 (-1)) ∧ Below w.heap.size w w' := by
  have hI := fun fn W => idxHold_nil fn a cap W
  go_enter Tryd.func36, Tryd.ntmps36
  go_wp2_with (go_at_call 54; refine (hI _ _).mono ?_; rintro e w1 ⟨rfl, b1⟩; clear hI)
  go_ret
  exact ⟨rfl, ((Below.refl _ _).alloc (Nat.le_refl _) _).trans (b1.mono (by simp))⟩
set_option maxRecDepth 100000 in
set_option maxHeartbeats 2000000 in
theorem holder_some (l : List S3) (b off cap : Nat) (t : Int) (w : World) (hlen : l.length ≤ 12) (hlt : b < w.heap.size) (hc : SpC w b off l) :
    Calls Tryd.prog 36 #[.slice (some ⟨b, off, none⟩) l.length cap, .int .i64 t] w fun e w' => e = .returned (.int .i64 (hold l t)) ∧ Below w.heap.size w w' := by
  have b0 : Below w.heap.size w (w.alloc (.cells #[.int .i64 t] 3)) := (Below.refl _ _).alloc (Nat.le_refl _) _
  have hI := idxHold l t b off cap w.heap.size (w.alloc (.cells #[.int .i64 t] 3)) (by simp) hlen (Nat.lt_of_lt_of_le hlt b0.size) (hc.below b0 hlt)
  cases hfi : l.findIdx? (hits t) with
  | none =>
    have HF : Hid (hold l t = -1) := hold_none hfi
    rw [hidx_none hfi] at hI
    clear hfi
    go_enter Tryd.func36, Tryd.ntmps36
    go_wp2_with (go_at_call 54; refine hI.mono ?_; rintro e w1 ⟨rfl, b1⟩; clear hI)
    go_ret
    exact ⟨retI HF.out.symm, b0.trans (b1.mono (by simp))⟩
  | some k =>
    have hk : k < l.length := by
      rw [List.findIdx?_eq_some_iff_getElem] at hfi
      exact hfi.1
    obtain ⟨o, ho⟩ : ∃ o, l[k]? = some o := ⟨l[k], List.getElem?_eq_getElem hk⟩
    have HF : Hid (hold l t = o.2.2) := hold_some hfi ho
    rw [hidx_some hfi] at hI
    obtain ⟨c0, c1, c2⟩ := hc.below b0 hlt k o ho
    have hlt' : b < (w.alloc (.cells #[.int .i64 t] 3)).heap.size := Nat.lt_of_lt_of_le hlt b0.size
    clear hfi ho
    go_enter Tryd.func36, Tryd.ntmps36
    go_wp2_with (go_at_call 54; refine hI.mono ?_; rintro e w1 ⟨rfl, b1⟩; clear hI; have d2 := (b1.cell (p := ⟨b, _, none⟩) hlt').trans c2; clear c0 c1 c2)
    go_ret
    exact ⟨retI HF.out.symm, b0.trans (b1.mono (by simp))⟩
theorem holder_any (l : List S3) (v : Value) (t : Int) (w : World) (hl : Sps w v l) (hlen : l.length ≤ 12) :
    Calls Tryd.prog 36 #[v, .int .i64 t] w fun e w' => e = .returned (.int .i64 (hold l t)) ∧ Below w.heap.size w w' := by
  rcases hl with ⟨rfl, ao, cap, rfl⟩ | ⟨b, off, cap, rfl, _, hlt, hc⟩
  · exact holder_nil ao cap t w
  · exact holder_some l b off cap t w hlen hlt hc
end Go.Proofs.YtajfgmlockjmhadDoor

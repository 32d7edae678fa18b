/-
  DLineOps, GSmall, GPoke, GTake: joined into one text.
-/
import Derived.Test.YtajfgmlockjmhaiGreatDoorJt17
import Derived.Test.YtajfgmlockjmhaiGreatDoorJt18
import Derived.Test.YtajfgmlockjmhaiGreatDoorJt4
import Derived.Deep.RegionHeld3
import Derived.Deep.CutRange
import Derived.Deep.RegionWith
import Derived.BigQuiet
import Derived.RangeFuncNested
import Derived.Test.YtajfgmlockjmhaiGreatDoorFWho
import Derived.Test.YtajfgmlockjmhaiGreatDoorJt3
namespace Go.Proofs.YtajfgmlockjmhaiGreatDoor
open Go.RowKit

theorem Ln.first {w : World} {base b : Nat} {kd dp ls : Int} {x : Int} {ys : List Int} {v : Value} (h : Ln w base b kd dp (x :: ys) ls v) : ∃ g cap, v = .slice (some ⟨g, 0, none⟩) (ys.length + 1) cap ∧ w.cell? ⟨g, 0, none⟩ = some (.int .i64 x) := by
  rcases h.form with ⟨_, e⟩ | ⟨g, cap, rfl⟩
  · cases e
  · have := h.row.cells (g := g) rfl 0 (.int .i64 x) (by simp [ints])
    rw [Addr.add_lit, Nat.zero_add] at this
    exact ⟨g, cap, rfl, this⟩
theorem Ln.none {w : World} {base b : Nat} {kd dp ls : Int} {v : Value} (h : Ln w base b kd dp [] ls v) : ∃ ao cap, v = .slice ao 0 cap := by
  rcases h.form with ⟨rfl, _⟩ | ⟨g, cap, rfl⟩
  · exact ⟨_, _, rfl⟩
  · exact ⟨_, _, rfl⟩
theorem dpeek_l (base b : Nat) (l : LnD) (u : Value) (w : World) (hL : Ln w base b l.w.2.2.1 l.w.2.2.2 l.xs l.ls u) :
    Calls Tryz.prog 118 #[.pointer (some ⟨b, 0, none⟩)] w fun e w' => e = .returned (.tuple #[.int .i64 (headL l).1, .bool (headL l).2]) ∧ w' = w := by
  obtain ⟨x, xs, ls⟩ := l
  cases xs with
  | nil =>
    obtain ⟨ao, cap, rfl⟩ := Ln.none hL
    exact peek_none b _ _ ls ao cap w hL.c
  | cons n ys =>
    obtain ⟨g, cap, rfl, h1⟩ := Ln.first hL
    exact peek_some b _ _ ls g _ cap n w hL.c (by omega) h1
theorem dtake_l (base b : Nat) (l : LnD) (u : Value) (w : World) (hk : l.w.2.2.1 = 1 ∨ l.w.2.2.1 = 2) (hh : (headL l).2 = true) (hL : Ln w base b l.w.2.2.1 l.w.2.2.2 l.xs l.ls u) :
    Calls Tryz.prog 123 #[.pointer (some ⟨b, 0, none⟩)] w fun e w' => ∃ u', e = .returned (.tuple #[.int .i64 (headL l).1, .nilIface]) ∧ Ln w' base b (restL l).w.2.2.1 (restL l).w.2.2.2 (restL l).xs (restL l).ls u' ∧ Touch w w' b u u' := by
  obtain ⟨x, xs, ls⟩ := l
  simp only at hk hL
  cases xs with
  | nil => simp [headL] at hh
  | cons n ys =>
    rcases hk with h1 | h2
    · have e2 : restL ⟨x, n :: ys, ls⟩ = ⟨x, n :: ys, ls⟩ := by simp [restL, h1]
      rw [e2]
      obtain ⟨g, cap, rfl, hc⟩ := Ln.first hL
      rw [h1] at hL
      refine (take_sample b _ ls g _ cap n w hL.c (by omega) hc).mono ?_
      rintro e w' ⟨rfl, rfl⟩
      exact ⟨_, rfl, by simp only [h1]; exact hL, Touch.refl _ _ _⟩
    · have e2 : restL ⟨x, n :: ys, ls⟩ = ⟨x, ys, ls⟩ := by simp [restL, h2]
      rw [e2]
      rw [h2] at hL
      refine (take_queue base b _ ls n ys u w hL).mono ?_
      rintro e w' ⟨u', rfl, h3, h4⟩
      exact ⟨u', rfl, by simp only [h2]; exact h3, h4⟩
theorem dsend_l (base b : Nat) (l : LnD) (u : Value) (n : Int) (w : World) (hk : (l.w.2.2.1 = 1 ∧ l.w.2.2.2 = 1) ∨ l.w.2.2.1 = 2) (hn : 0 ≤ n ∧ n ≤ 999) (hls : 0 ≤ l.ls ∧ l.ls < 1000000000) (hx : l.xs.length ≤ 1000000) (hL : Ln w base b l.w.2.2.1 l.w.2.2.2 l.xs l.ls u) :
    Calls Tryz.prog 124 #[.pointer (some ⟨b, 0, none⟩), .int .i64 n] w fun e w' => ∃ u', e = .returned (.tuple #[.bool (fitL l), .nilIface]) ∧ Ln w' base b (putL l n).w.2.2.1 (putL l n).w.2.2.2 (putL l n).xs (putL l n).ls u' ∧ Touch w w' b u u' := by
  obtain ⟨x, xs, ls⟩ := l
  simp only at hk hls hx hL
  rcases hk with ⟨h1, h1'⟩ | h2
  · have e1 : fitL ⟨x, xs, ls⟩ = true := by simp [fitL, h1]
    have e2 : putL ⟨x, xs, ls⟩ n = ⟨x, [n], ls⟩ := by simp [putL, h1]
    rw [e1, e2]
    rw [h1, h1'] at hL
    refine (send_sample base b xs ls u n w hn.1 (by omega) hL).mono ?_
    rintro e w' ⟨u', rfl, h3, h4⟩
    exact ⟨u', rfl, by simp only [h1, h1']; exact h3, h4⟩
  · rw [h2] at hL
    by_cases hd : (xs.length : Int) < x.2.2.2
    · have e1 : fitL ⟨x, xs, ls⟩ = true := by simp [fitL, hd]
      have e2 : putL ⟨x, xs, ls⟩ n = ⟨x, xs ++ [n], ls⟩ := by simp [putL, h2, hd]
      rw [e1, e2]
      refine (send_room base b _ xs ls u n w hn.1 (by omega) hL hd hx).mono ?_
      rintro e w' ⟨u', rfl, h3, h4⟩
      exact ⟨u', rfl, by simp only [h2]; exact h3, h4⟩
    · have e1 : fitL ⟨x, xs, ls⟩ = false := by simp [fitL, h2]; omega
      have e2 : putL ⟨x, xs, ls⟩ n = ⟨x, xs, ls + 1⟩ := by simp [putL, h2, hd]
      rw [e1, e2]
      refine (send_full base b _ xs ls u n w hn.1 (by omega) hls hL (by omega)).mono ?_
      rintro e w' ⟨rfl, h3, h4⟩
      exact ⟨u, rfl, by simp only [h2]; exact h3, h4⟩
end Go.Proofs.YtajfgmlockjmhaiGreatDoor
namespace Go.Proofs.YtajfgmlockjmhaiGreatDoor
open Go.RowKit

set_option maxRecDepth 100000 in
set_option maxHeartbeats 1000000 in
theorem kbelow_yes (n b : Int) (w : World) (h0 : 0 ≤ n) (h1 : n < b) : Calls Tryz.prog 60 #[.int .i64 n, .int .i64 b] w fun e w' => e = .returned (.bool true) ∧ w' = w := by
  go_enter Tryz.func60, Tryz.ntmps60
  go_wp2
  go_ret
  exact ⟨rfl, rfl⟩
set_option maxRecDepth 100000 in
set_option maxHeartbeats 1000000 in
theorem kbelow_no (n b : Int) (w : World) (h : ¬ (0 ≤ n ∧ n < b)) : Calls Tryz.prog 60 #[.int .i64 n, .int .i64 b] w fun e w' => e = .returned (.bool false) ∧ w' = w := by
  by_cases h0 : 0 ≤ n
  · have h1 : decide (n < b) = false := by simp; omega
    clear h
    go_enter Tryz.func60, Tryz.ntmps60
    go_wp2
    go_ret
    exact ⟨rfl, rfl⟩
  · have h0' : decide (0 ≤ n) = false := by simp; omega
    clear h
    go_enter Tryz.func60, Tryz.ntmps60
    go_wp2
    go_ret
    exact ⟨rfl, rfl⟩
theorem kbelow_any (n b : Int) (w : World) : Calls Tryz.prog 60 #[.int .i64 n, .int .i64 b] w fun e w' => e = .returned (.bool (decide (0 ≤ n) && decide (n < b))) ∧ w' = w := by
  by_cases h : 0 ≤ n ∧ n < b
  · refine (kbelow_yes n b w h.1 h.2).mono ?_
    rintro e w' ⟨rfl, rfl⟩
    simp [h.1, h.2]
  · refine (kbelow_no n b w h).mono ?_
    rintro e w' ⟨rfl, rfl⟩
    refine ⟨?_, rfl⟩
    have : (decide (0 ≤ n) && decide (n < b)) = false := by
      rw [← Bool.decide_and]
      exact decide_eq_false h
    rw [this]
set_option maxRecDepth 100000 in
set_option maxHeartbeats 4000000 in
theorem gstate_any (p : PD) (k : KD) (kb base : Nat) (a : GW) (r : Int) (w : World) (h : GK w base p k kb a) :
    Calls Tryz.prog 32 #[.pointer (some ⟨kb, 0, none⟩), .int .i64 r] w fun e w' => e = .returned (.tuple #[stA (roomK k r), wErr (errB (noRoom k r))]) ∧ Below w.heap.size w w' := by
  have c3 := h.c3
  have hkb := h.lt.1
  by_cases hr : 0 ≤ r ∧ r < (k.rooms.length : Int)
  · obtain ⟨n, rfl⟩ : ∃ n : Nat, r = n := ⟨r.toNat, by omega⟩
    have hn : n < k.rooms.length := by omega
    have hni : (n : Int) < (k.rooms.length : Int) := by omega
    have hno : noRoom k n = false := by
      unfold noRoom
      rw [Bool.or_eq_false_iff]
      exact ⟨decide_eq_false (by omega), decide_eq_false (by omega)⟩
    have hrk : roomK k n = k.rooms[n] := by
      unfold roomK
      rw [if_neg (by rw [hno]; decide), Int.toNat_natCast]
      simp [List.getD, hn]
    have hst := h.rooms n k.rooms[n] (List.getElem?_eq_getElem hn)
    rw [hrk, hno]
    generalize k.rooms[n] = s at hst ⊢
    obtain ⟨s0, s1, s2, s3, s4, s5, s6, s7⟩ := hst
    have hrb := wlt s0
    have hn0 := World.new_ne w ⟨a.rb, n * 8, none⟩ s0
    have hnk := World.new_ne w ⟨kb, 3, none⟩ c3
    clear h hno hrk hr
    go_enter Tryz.func32, Tryz.ntmps32
    go_wp2_with (go_at_call 60; refine (kbelow_yes _ _ _ (by omega) hni).mono ?_; rintro e w1 ⟨rfl, hw1⟩; subst hw1)
    refine bodyPost_ret (v := .tuple #[stA s, wErr (errB false)]) ?_ rfl ⟨rfl, ?_⟩
    · simp [results, Tryz.results32, go_sem, stA, wErr, errB]
    · repeat' first | exact Below.refl _ _ | refine Below.drew ?_ | refine Below.alloc ?_ (by simp <;> omega) _ | refine Below.setCell ?_ (by simp <;> omega) _
  · have hno : noRoom k r = true := by
      unfold noRoom
      rw [Bool.or_eq_true]
      by_cases h0 : r < 0
      · exact Or.inl (decide_eq_true h0)
      · exact Or.inr (decide_eq_true (by omega))
    have hrk : roomK k r = stNew := by
      unfold roomK
      rw [if_pos hno]
    rw [hrk, hno]
    have hnk := World.new_ne w ⟨kb, 3, none⟩ c3
    clear h hno hrk
    go_enter Tryz.func32, Tryz.ntmps32
    go_wp2_with (go_at_call 60; refine (kbelow_no _ _ _ hr).mono ?_; rintro e w1 ⟨rfl, hw1⟩; subst hw1)
    refine bodyPost_ret (v := .tuple #[stA stNew, wErr (errB true)]) ?_ rfl ⟨rfl, ?_⟩
    · simp [results, Tryz.results32, go_sem, stA, stNew, wErr, errB]
    · repeat' first | exact Below.refl _ _ | refine Below.drew ?_ | refine Below.alloc ?_ (by simp <;> omega) _ | refine Below.setCell ?_ (by simp <;> omega) _
end Go.Proofs.YtajfgmlockjmhaiGreatDoor
namespace Go.Proofs.YtajfgmlockjmhaiGreatDoor
open Go.RowKit

set_option maxRecDepth 100000 in
set_option maxHeartbeats 4000000 in
theorem gcheck_any (p : PD) (k : KD) (kb base : Nat) (a : GW) (r c n : Int) (w : World) (h : GK w base p k kb a) :
    Calls Tryz.prog 51 #[.pointer (some ⟨kb, 0, none⟩), .int .i64 r, .int .i64 c, .int .i64 n] w fun e w' => e = .returned (wErr (pokeN k r c n)) ∧ w' = w := by
  have c3 := h.c3
  have H : Hid (GK w base p k kb a) := h
  clear h
  go_enter Tryz.func51, Tryz.ntmps51
  go_upto_region 1 with fail
  go_cut [26] from 9 to 25 (fun s26 wx => s26 = .bool (pokeB k r c n) ∧ wx = w)
  case first =>
    by_cases h0 : 0 ≤ r ∧ r < (k.rooms.length : Int)
    · by_cases h1 : 0 ≤ c ∧ c < 6
      · have HX : Hid (pokeB k r c n = !(decide (0 ≤ n) && decide (n < 1000))) := by
          show _ = _
          unfold pokeB
          have e1 : decide (r < 0) = false := decide_eq_false (by omega)
          have e2 : decide ((k.rooms.length : Int) ≤ r) = false := decide_eq_false (by omega)
          have e3 : decide (c < 0) = false := decide_eq_false (by omega)
          have e4 : decide (5 < c) = false := decide_eq_false (by omega)
          simp only [e1, e2, e3, e4, Bool.false_or]
          by_cases e5 : n < 0
          · simp [e5] <;> omega
          · by_cases e6 : 999 < n
            · simp [e6] <;> omega
            · simp [e5, e6] <;> omega
        have b0 : (decide (0 ≤ r) && decide (r < (k.rooms.length : Int))) = true := by simp [h0.1, h0.2]
        have b1 : (decide (0 ≤ c) && decide (c < 6)) = true := by simp [h1.1, h1.2]
        go_wp2_with (go_at_call 60; refine (kbelow_any _ _ _).mono ?_; rintro e w1 ⟨rfl, hw1⟩; subst hw1; first | rw [b0] | rw [b1] | skip)
        go_meet
        case rel => exact ⟨by rw [HX.out, Bool.not_and], rfl⟩
      · have HX : Hid (pokeB k r c n = true) := by
          show _ = _
          unfold pokeB
          by_cases e3 : c < 0
          · simp [e3]
          · have e4 : 5 < c := by omega
            simp [e4]
        have b0 : (decide (0 ≤ r) && decide (r < (k.rooms.length : Int))) = true := by simp [h0.1, h0.2]
        have b1 : (decide (0 ≤ c) && decide (c < 6)) = false := by
          rw [← Bool.decide_and]
          exact decide_eq_false h1
        go_wp2_with (go_at_call 60; refine (kbelow_any _ _ _).mono ?_; rintro e w1 ⟨rfl, hw1⟩; subst hw1; first | rw [b0] | rw [b1] | skip)
        go_meet
        case rel => exact ⟨by rw [HX.out], rfl⟩
    · have HX : Hid (pokeB k r c n = true) := by
        show _ = _
        unfold pokeB
        by_cases e1 : r < 0
        · simp [e1]
        · have e2 : (k.rooms.length : Int) ≤ r := by omega
          simp [e2]
      go_wp2_with (go_at_call 60; refine (kbelow_no _ _ _ h0).mono ?_; rintro e w1 ⟨rfl, hw1⟩; subst hw1)
      go_meet
      case rel => exact ⟨by rw [HX.out], rfl⟩
  case rest =>
  obtain ⟨rfl, hwc⟩ := hcut
  rw [hwc]
  clear hwc
  have HN : Hid (pokeN k r c n = if pokeB k r c n = true then 1 else 0) := rfl
  cases hb : pokeB k r c n with
  | true =>
    go_wp2
    go_ret
    exact ⟨by rw [HN.out, hb]; rfl, rfl⟩
  | false =>
    go_wp2
    go_ret
    exact ⟨by rw [HN.out, hb]; rfl, rfl⟩
set_option maxRecDepth 100000 in
set_option maxHeartbeats 4000000 in
theorem gpoke_any (p : PD) (k : KD) (kb base : Nat) (a : GW) (r c n : Int) (w : World) (h : GK w base p k kb a) :
    Calls Tryz.prog 129 #[.pointer (some ⟨kb, 0, none⟩), .int .i64 r, .int .i64 c, .int .i64 n] w fun e w' => e = .returned (wErr (pokeN k r c n)) ∧ GK w' base p (pokeK k r c n) kb a ∧ KTouch (a.F kb) w w' := by
  have c3 := h.c3
  have hck := gcheck_any p k kb base a r c n w h
  have H : Hid (GK w base p k kb a) := h
  clear h
  cases hb : pokeB k r c n with
  | true =>
    have HN : Hid (pokeN k r c n = 1) := by show _ = _; unfold pokeN; rw [hb]; rfl
    rw [HN.out, show wErr 1 = .iface 93 (.int .i64 1) from rfl] at hck
    go_enter Tryz.func129, Tryz.ntmps129
    go_wp2_with (go_at_call 51; refine hck.mono ?_; rintro e w1 ⟨rfl, rfl⟩; clear hck)
    go_ret
    exact ⟨by rw [HN.out]; rfl, by unfold pokeK; rw [hb, if_pos rfl]; exact H.out, KTouch.refl _ _⟩
  | false =>
    obtain ⟨h0, h1, h2, h3, h4, h5⟩ := pokeB_false hb
    obtain ⟨rn, rfl⟩ : ∃ m : Nat, r = m := ⟨r.toNat, by omega⟩
    obtain ⟨cn, rfl⟩ : ∃ m : Nat, c = m := ⟨c.toNat, by omega⟩
    have hrl : rn < k.rooms.length := by omega
    have hcl : cn ≤ 5 := by omega
    have hc6 : (cn : Int) < 6 := by omega
    have hs : k.rooms[rn]? = some k.rooms[rn] := List.getElem?_eq_getElem hrl
    have hst := H.out.rooms rn _ hs
    have hcell : ∃ v, w.cell? ⟨a.rb, rn * 8 + 1 + cn, none⟩ = some v := by
      obtain ⟨q0, q1, q2, q3, q4, q5, q6, q7⟩ := hst
      match cn, hcl with
      | 0, _ => exact ⟨_, q1⟩
      | 1, _ => exact ⟨_, q2⟩
      | 2, _ => exact ⟨_, q3⟩
      | 3, _ => exact ⟨_, q4⟩
      | 4, _ => exact ⟨_, q5⟩
      | 5, _ => exact ⟨_, q6⟩
    obtain ⟨v0, hv0⟩ := hcell
    have hfz := H.out.rf (rn * 8 + 1 + cn)
    have HK : Hid (pokeK k rn cn n = ⟨k.rooms.set rn (pokeS k.rooms[rn] cn n), k.lines, k.time⟩) := by
      show _ = _
      unfold pokeK
      rw [hb, if_neg (by decide)]
      simp [List.getD, hs]
    clear hst hs
    have HN : Hid (pokeN k rn cn n = 0) := by show _ = _; unfold pokeN; rw [hb]; rfl
    rw [HN.out, show wErr 0 = .nilIface from rfl] at hck
    clear hb
    go_enter Tryz.func129, Tryz.ntmps129
    go_wp2_with (go_at_call 51; refine hck.mono ?_; rintro e w1 ⟨rfl, rfl⟩; clear hck)
    go_ret
    refine ⟨by rw [HN.out]; rfl, ?_, KTouch.set _ (by simp [GW.F]) _ _⟩
    rw [HK.out]
    exact H.out.poke (List.getElem?_eq_getElem hrl) hcl n
end Go.Proofs.YtajfgmlockjmhaiGreatDoor
namespace Go.Proofs.YtajfgmlockjmhaiGreatDoor
open Go.RowKit

set_option maxRecDepth 100000 in
set_option maxHeartbeats 4000000 in
theorem gturn_any (p : PD) (k : KD) (kb base : Nat) (a : GW) (w : World) (h : GK w base p k kb a) (hp : plchk p = 0) (hti : 0 ≤ k.time) :
    Calls Tryz.prog 45 #[.pointer (some ⟨kb, 0, none⟩)] w fun e w' => e = .returned (.int .i64 (hold p.spans (k.time % p.ticks))) ∧ Below w.heap.size w w' := by
  have hfz := (plchk_zero hp).2.2.1
  have hwr : whoR p.ticks p.spans k.time = (hold p.spans (k.time % p.ticks), 0) := by
    unfold whoR
    rw [if_pos hfz, if_neg (by omega)]
  have hsp := h.src.here.2
  obtain ⟨sa, sc, hsv⟩ := hsp.form
  rw [hsv] at hsp
  have HW : Hid (∀ W, Below w.heap.size w W → Calls Tryz.prog 80 #[.int .i64 p.ticks, .slice sa p.spans.length sc, .int .i64 k.time] W fun e w' => e = .returned (.tuple #[.int .i64 (hold p.spans (k.time % p.ticks)), .nilIface]) ∧ Below W.heap.size W w') := fun W hb => by
    have := who_any p.ticks p.spans (.slice sa p.spans.length sc) k.time W (hsp.all hb)
    rw [hwr] at this
    exact this
  have hkb := h.lt.1
  have c1 := h.c1
  have c2 := h.c2
  have c5 := h.c5
  rw [hsv] at c2
  have hcs : ∀ W, Below w.heap.size w W → W.cell? ⟨kb, 1, none⟩ = some (.int .i64 p.ticks) ∧ W.cell? ⟨kb, 2, none⟩ = some (.slice sa p.spans.length sc) ∧ W.cell? ⟨kb, 5, none⟩ = some (.int .i64 k.time) := fun W hb => ⟨(hb.cell (p := ⟨kb, 1, none⟩) hkb).trans c1, (hb.cell (p := ⟨kb, 2, none⟩) hkb).trans c2, (hb.cell (p := ⟨kb, 5, none⟩) hkb).trans c5⟩
  have bQ : Below w.heap.size w w.drew := (Below.refl _ _).drew
  clear h hsp hsv hwr hfz hp
  generalize hold p.spans (k.time % p.ticks) = r at HW ⊢
  go_enter Tryz.func45, Tryz.ntmps45
  go_upto_region 1 with fail
  go_region_held3 (fun w' => w'.cell? ⟨kb, 1, none⟩ = some (.int .i64 p.ticks) ∧ w'.cell? ⟨kb, 2, none⟩ = some (.slice sa p.spans.length sc) ∧ w'.cell? ⟨kb, 5, none⟩ = some (.int .i64 k.time))
    (first | exact ⟨c1, c2, c5⟩ | exact hcs _ bW | go_keep)
    (first
      | (go_at_call 80; refine (HW.out _ bQ).mono ?_; rintro e w1 ⟨rfl, b1⟩; have bW : Below w.heap.size w w1 := bQ.trans (b1.mono (by simp))))
  go_wp2
  go_ret
  exact ⟨rfl, bW⟩
/-- What an op may take. -/
def offG (k : KD) (o : O3) : Int × Bool := if o.1 = 9 then headL (lineAt k o) else (0, false)
set_option maxRecDepth 100000 in
set_option maxHeartbeats 4000000 in
theorem goff_no (kb : Nat) (x y z : Int) (w : World) (h9 : x ≠ 9) :
    Calls Tryz.prog 81 #[.pointer (some ⟨kb, 0, none⟩), .agg #[.int .i64 x, .int .i64 y, .int .i64 z]] w fun e w' => e = .returned (.tuple #[.int .i64 0, .bool false]) ∧ Below w.heap.size w w' := by
  have h9' : (x == 9) = false := by simpa using h9
  have h9'' : (x != 9) = true := by simpa using h9
  go_enter Tryz.func81, Tryz.ntmps81
  go_wp2
  go_ret2
  exact ⟨rfl, (Below.refl _ _).alloc (Nat.le_refl _) _⟩
set_option maxRecDepth 100000 in
set_option maxHeartbeats 4000000 in
theorem goff_yes (p : PD) (k : KD) (kb base : Nat) (a : GW) (y : Int) (n : Nat) (l : LnD) (w : World) (h : GK w base p k kb a) (hl : k.lines[n]? = some l) :
    Calls Tryz.prog 81 #[.pointer (some ⟨kb, 0, none⟩), .agg #[.int .i64 9, .int .i64 y, .int .i64 n]] w fun e w' => e = .returned (.tuple #[.int .i64 (headL l).1, .bool (headL l).2]) ∧ Below w.heap.size w w' := by
  have hn := (List.getElem?_eq_some_iff.1 hl).1
  have hni : (n : Int) < (k.lines.length : Int) := by omega
  obtain ⟨b, u, cap, l', hl', hb, hu, hlv, hcap, hptr, hln⟩ := h.lines.at hn
  obtain rfl : l = l' := Option.some.inj (hl.symm.trans hl')
  have c4 := h.c4
  rw [hlv] at c4
  have hnk := World.new_ne w ⟨kb, 4, none⟩ c4
  have hnl := World.new_ne w ⟨a.lr, n, none⟩ hptr
  have HP : Hid (∀ W, Below w.heap.size w W → Calls Tryz.prog 118 #[.pointer (some ⟨b, 0, none⟩)] W fun e w' => e = .returned (.tuple #[.int .i64 (headL l).1, .bool (headL l).2]) ∧ w' = W) := fun W hb => dpeek_l _ b l u W (hln.below hb)
  clear h hl hl' hb hu hlv hln
  go_enter Tryz.func81, Tryz.ntmps81
  go_upto_region 3 with fail
  have hA : Below w.heap.size w (w.alloc (.cells #[.int .i64 9, .int .i64 y, .int .i64 n] 28)).drew := ((Below.refl _ w).alloc (Nat.le_refl _) _).drew
  have d4 : (w.alloc (.cells #[.int .i64 9, .int .i64 y, .int .i64 n] 28)).drew.cell? ⟨kb, 4, none⟩ = some (.slice (some ⟨a.lr, 0, none⟩) k.lines.length cap) := (hA.cell (p := ⟨kb, 4, none⟩) (wlt c4)).trans c4
  have dl : (w.alloc (.cells #[.int .i64 9, .int .i64 y, .int .i64 n] 28)).drew.cell? ⟨a.lr, n, none⟩ = some (.pointer (some ⟨b, 0, none⟩)) := (hA.cell (p := ⟨a.lr, n, none⟩) (wlt hptr)).trans hptr
  have dn : (w.alloc (.cells #[.int .i64 9, .int .i64 y, .int .i64 n] 28)).drew.cell? ⟨w.heap.size, 2, none⟩ = some (.int .i64 n) := by simp
  go_region_held3 (fun w' => w'.cell? ⟨kb, 4, none⟩ = some (.slice (some ⟨a.lr, 0, none⟩) k.lines.length cap) ∧ w'.cell? ⟨w.heap.size, 2, none⟩ = some (.int .i64 n) ∧ w'.cell? ⟨a.lr, n, none⟩ = some (.pointer (some ⟨b, 0, none⟩)))
    (first | exact ⟨d4, dn, dl⟩ | go_keep)
    (first
      | (go_at_call 118; refine (HP.out _ hA).mono ?_; rintro e w1 ⟨rfl, hw1⟩; subst hw1))
  go_wp2
  go_ret2
  exact ⟨rfl, hA⟩
set_option maxRecDepth 100000 in
set_option maxHeartbeats 4000000 in
theorem gtake_none (p : PD) (k : KD) (kb base : Nat) (a : GW) (n : Nat) (l : LnD) (w : World) (h : GK w base p k kb a) (hl : k.lines[n]? = some l) (hh : (headL l).2 = false) :
    Calls Tryz.prog 83 #[.pointer (some ⟨kb, 0, none⟩), .int .i64 n] w fun e w' => e = .returned (.int .i64 3) ∧ w' = w := by
  have hn := (List.getElem?_eq_some_iff.1 hl).1
  have hni : (n : Int) < (k.lines.length : Int) := by omega
  obtain ⟨b, u, cap, l', hl', hb, hu, hlv, hcap, hptr, hln⟩ := h.lines.at hn
  obtain rfl : l = l' := Option.some.inj (hl.symm.trans hl')
  have c4 := h.c4
  rw [hlv] at c4
  have hx : l.xs = [] := by
    unfold headL at hh
    split at hh
    · assumption
    · cases hh
  rw [hx] at hln
  obtain ⟨ao, cu, rfl⟩ := Ln.none hln
  have HT : Hid (Calls Tryz.prog 123 #[.pointer (some ⟨b, 0, none⟩)] w fun e w' => e = .returned (.tuple #[.int .i64 0, .iface 93 (.int .i64 5)]) ∧ w' = w) := take_none b _ _ _ ao cu w hln.c
  clear h hl hl' hb hu hlv hln hx hh
  go_enter Tryz.func83, Tryz.ntmps83
  go_wp2_with (go_at_call 123; refine HT.out.mono ?_; rintro e w1 ⟨rfl, hw1⟩; subst hw1)
  go_ret
  exact ⟨rfl, rfl⟩
set_option maxRecDepth 100000 in
set_option maxHeartbeats 4000000 in
theorem gtake_some (p : PD) (k : KD) (kb base : Nat) (a : GW) (n : Nat) (l : LnD) (w : World) (h : GK w base p k kb a) (hbw : base ≤ w.heap.size) (hl : k.lines[n]? = some l) (hk : l.w.2.2.1 = 1 ∨ l.w.2.2.1 = 2) (hh : (headL l).2 = true) :
    Calls Tryz.prog 83 #[.pointer (some ⟨kb, 0, none⟩), .int .i64 n] w fun e w' => e = .returned (.int .i64 2) ∧ ∃ a', GK w' base p ⟨k.rooms, k.lines.set n (restL l), k.time⟩ kb a' ∧ KTouch (a.F kb) w w' ∧ ∀ g ∈ a'.F kb, g ∈ a.F kb ∨ w.heap.size ≤ g := by
  have hn := (List.getElem?_eq_some_iff.1 hl).1
  have hni : (n : Int) < (k.lines.length : Int) := by omega
  obtain ⟨b, u, cap, l', hl', hb, hu, hlv, hcap, hptr, hln⟩ := h.lines.at hn
  obtain rfl : l = l' := Option.some.inj (hl.symm.trans hl')
  have c4 := h.c4
  rw [hlv] at c4
  have HT : Hid (Calls Tryz.prog 123 #[.pointer (some ⟨b, 0, none⟩)] w fun e w' => e = .returned (.tuple #[.int .i64 (headL l).1, .nilIface]) ∧ ∃ a', GK w' base p ⟨k.rooms, k.lines.set n (restL l), k.time⟩ kb a' ∧ KTouch (a.F kb) w w' ∧ ∀ g ∈ a'.F kb, g ∈ a.F kb ∨ w.heap.size ≤ g) := by
    refine (dtake_l _ b l u w hk hh hln).mono ?_
    rintro e w' ⟨u', rfl, h3, h4⟩
    exact ⟨rfl, _, h.line hbw hb hu h4 h3⟩
  clear h hl hl' hb hu hlv hln hh hk
  go_enter Tryz.func83, Tryz.ntmps83
  go_wp2_with (go_at_call 123; refine HT.out.mono ?_; rintro e w1 ⟨rfl, hq⟩)
  go_ret
  exact ⟨rfl, hq⟩
set_option maxRecDepth 100000 in
set_option maxHeartbeats 4000000 in
theorem gsend_any (p : PD) (k : KD) (kb base : Nat) (a : GW) (n : Nat) (l : LnD) (x : Int) (w : World) (h : GK w base p k kb a) (hbw : base ≤ w.heap.size) (hl : k.lines[n]? = some l) (hk : (l.w.2.2.1 = 1 ∧ l.w.2.2.2 = 1) ∨ l.w.2.2.1 = 2) (hx : 0 ≤ x ∧ x ≤ 999) (hls : 0 ≤ l.ls ∧ l.ls < 1000000000) (hxs : l.xs.length ≤ 1000000) :
    Calls Tryz.prog 84 #[.pointer (some ⟨kb, 0, none⟩), .int .i64 n, .int .i64 x] w fun e w' => e = .returned (.int .i64 (if fitL l = true then 1 else 3)) ∧ ∃ a', GK w' base p ⟨k.rooms, k.lines.set n (putL l x), k.time⟩ kb a' ∧ KTouch (a.F kb) w w' ∧ ∀ g ∈ a'.F kb, g ∈ a.F kb ∨ w.heap.size ≤ g := by
  have hn := (List.getElem?_eq_some_iff.1 hl).1
  have hni : (n : Int) < (k.lines.length : Int) := by omega
  obtain ⟨b, u, cap, l', hl', hb, hu, hlv, hcap, hptr, hln⟩ := h.lines.at hn
  obtain rfl : l = l' := Option.some.inj (hl.symm.trans hl')
  have c4 := h.c4
  rw [hlv] at c4
  have HT : Hid (Calls Tryz.prog 124 #[.pointer (some ⟨b, 0, none⟩), .int .i64 x] w fun e w' => e = .returned (.tuple #[.bool (fitL l), .nilIface]) ∧ ∃ a', GK w' base p ⟨k.rooms, k.lines.set n (putL l x), k.time⟩ kb a' ∧ KTouch (a.F kb) w w' ∧ ∀ g ∈ a'.F kb, g ∈ a.F kb ∨ w.heap.size ≤ g) := by
    refine (dsend_l _ b l u x w hk hx hls hxs hln).mono ?_
    rintro e w' ⟨u', rfl, h3, h4⟩
    exact ⟨rfl, _, h.line hbw hb hu h4 h3⟩
  clear h hl hl' hb hu hlv hln hk hls hxs
  cases hfl : fitL l with
  | true =>
    rw [hfl] at HT
    go_enter Tryz.func84, Tryz.ntmps84
    go_wp2_with (go_at_call 124; refine HT.out.mono ?_; rintro e w1 ⟨rfl, hq⟩)
    go_ret
    exact ⟨rfl, hq⟩
  | false =>
    rw [hfl] at HT
    go_enter Tryz.func84, Tryz.ntmps84
    go_wp2_with (go_at_call 124; refine HT.out.mono ?_; rintro e w1 ⟨rfl, hq⟩)
    go_ret
    exact ⟨rfl, hq⟩
end Go.Proofs.YtajfgmlockjmhaiGreatDoor

/-
  GSmall, GPoke, GTake, GStep: joined into one text.
-/
import Derived.Test.YtajfgmlockjmhaiGreatDoorJk14
import Derived.Test.YtajfgmlockjmhaiGreatDoorJk3
import Derived.Deep.RegionHeld3
import Derived.Deep.CutRange
import Derived.Deep.RegionWith
import Derived.BigQuiet
import Derived.RangeFuncNested
import Derived.Test.YtajfgmlockjmhaiGreatDoorFWho
import Derived.Test.YtajfgmlockjmhaiGreatDoorJk2
import Derived.Test.YtajfgmlockjmhaiGreatDoorRoomStep4
import Derived.Test.YtajfgmlockjmhaiGreatDoorJk1
namespace Go.Proofs.YtajfgmlockjmhaiGreatDoor
open Go.RowKit

set_option maxRecDepth 100000 in
set_option maxHeartbeats 1000000 in
theorem kbelow_yes (n b : Int) (w : World) (h0 : 0 ≤ n) (h1 : n < b) : Calls Tryz.prog 60 #[.int .i64 n, .int .i64 b] w fun e w' => e = .returned (.bool true) ∧ w' = w := by
  go_enter Tryz.func60, Tryz.ntmps60
  go_wp2
  go_ret
  exact ⟨rfl, rfl⟩
set_option maxRecDepth 100000 in
set_option maxHeartbeats 1000000 in
theorem kbelow_no (n b : Int) (w : World) (h : ¬ (0 ≤ n ∧ n < b)) : Calls Tryz.prog 60 #[.int .i64 n, .int .i64 b] w fun e w' => e = .returned (.bool false) ∧ w' = w := by
  by_cases h0 : 0 ≤ n
  · have h1 : decide (n < b) = false := by simp; omega
    clear h
    go_enter Tryz.func60, Tryz.ntmps60
    go_wp2
    go_ret
    exact ⟨rfl, rfl⟩
  · have h0' : decide (0 ≤ n) = false := by simp; omega
    clear h
    go_enter Tryz.func60, Tryz.ntmps60
    go_wp2
    go_ret
    exact ⟨rfl, rfl⟩
theorem kbelow_any (n b : Int) (w : World) : Calls Tryz.prog 60 #[.int .i64 n, .int .i64 b] w fun e w' => e = .returned (.bool (decide (0 ≤ n) && decide (n < b))) ∧ w' = w := by
  by_cases h : 0 ≤ n ∧ n < b
  · refine (kbelow_yes n b w h.1 h.2).mono ?_
    rintro e w' ⟨rfl, rfl⟩
    simp [h.1, h.2]
  · refine (kbelow_no n b w h).mono ?_
    rintro e w' ⟨rfl, rfl⟩
    refine ⟨?_, rfl⟩
    have : (decide (0 ≤ n) && decide (n < b)) = false := by
      rw [← Bool.decide_and]
      exact decide_eq_false h
    rw [this]
set_option maxRecDepth 100000 in
set_option maxHeartbeats 4000000 in
theorem gstate_any (p : PD) (k : KD) (kb base : Nat) (a : GW) (r : Int) (w : World) (h : GK w base p k kb a) :
    Calls Tryz.prog 32 #[.pointer (some ⟨kb, 0, none⟩), .int .i64 r] w fun e w' => e = .returned (.tuple #[stA (roomK k r), wErr (errB (noRoom k r))]) ∧ Below w.heap.size w w' := by
  have c3 := h.c3
  have hkb := h.lt.1
  by_cases hr : 0 ≤ r ∧ r < (k.rooms.length : Int)
  · obtain ⟨n, rfl⟩ : ∃ n : Nat, r = n := ⟨r.toNat, by omega⟩
    have hn : n < k.rooms.length := by omega
    have hni : (n : Int) < (k.rooms.length : Int) := by omega
    have hno : noRoom k n = false := by
      unfold noRoom
      rw [Bool.or_eq_false_iff]
      exact ⟨decide_eq_false (by omega), decide_eq_false (by omega)⟩
    have hrk : roomK k n = k.rooms[n] := by
      unfold roomK
      rw [if_neg (by rw [hno]; decide), Int.toNat_natCast]
      simp [List.getD, hn]
    have hst := h.rooms n k.rooms[n] (List.getElem?_eq_getElem hn)
    rw [hrk, hno]
    generalize k.rooms[n] = s at hst ⊢
    obtain ⟨s0, s1, s2, s3, s4, s5, s6, s7⟩ := hst
    have hrb := wlt s0
    have hn0 := World.new_ne w ⟨a.rb, n * 8, none⟩ s0
    have hnk := World.new_ne w ⟨kb, 3, none⟩ c3
    clear h hno hrk hr
    go_enter Tryz.func32, Tryz.ntmps32
    go_wp2_with (go_at_call 60; refine (kbelow_yes _ _ _ (by omega) hni).mono ?_; rintro e w1 ⟨rfl, hw1⟩; subst hw1)
    refine bodyPost_ret (v := .tuple #[stA s, wErr (errB false)]) ?_ rfl ⟨rfl, ?_⟩
    · simp [results, Tryz.results32, go_sem, stA, wErr, errB]
    · repeat' first | exact Below.refl _ _ | refine Below.drew ?_ | refine Below.alloc ?_ (by simp <;> omega) _ | refine Below.setCell ?_ (by simp <;> omega) _
  · have hno : noRoom k r = true := by
      unfold noRoom
      rw [Bool.or_eq_true]
      by_cases h0 : r < 0
      · exact Or.inl (decide_eq_true h0)
      · exact Or.inr (decide_eq_true (by omega))
    have hrk : roomK k r = stNew := by
      unfold roomK
      rw [if_pos hno]
    rw [hrk, hno]
    have hnk := World.new_ne w ⟨kb, 3, none⟩ c3
    clear h hno hrk
    go_enter Tryz.func32, Tryz.ntmps32
    go_wp2_with (go_at_call 60; refine (kbelow_no _ _ _ hr).mono ?_; rintro e w1 ⟨rfl, hw1⟩; subst hw1)
    refine bodyPost_ret (v := .tuple #[stA stNew, wErr (errB true)]) ?_ rfl ⟨rfl, ?_⟩
    · simp [results, Tryz.results32, go_sem, stA, stNew, wErr, errB]
    · repeat' first | exact Below.refl _ _ | refine Below.drew ?_ | refine Below.alloc ?_ (by simp <;> omega) _ | refine Below.setCell ?_ (by simp <;> omega) _
end Go.Proofs.YtajfgmlockjmhaiGreatDoor
namespace Go.Proofs.YtajfgmlockjmhaiGreatDoor
open Go.RowKit

set_option maxRecDepth 100000 in
set_option maxHeartbeats 4000000 in
theorem gcheck_any (p : PD) (k : KD) (kb base : Nat) (a : GW) (r c n : Int) (w : World) (h : GK w base p k kb a) :
    Calls Tryz.prog 51 #[.pointer (some ⟨kb, 0, none⟩), .int .i64 r, .int .i64 c, .int .i64 n] w fun e w' => e = .returned (wErr (pokeN k r c n)) ∧ w' = w := by
  have c3 := h.c3
  have H : Hid (GK w base p k kb a) := h
  clear h
  go_enter Tryz.func51, Tryz.ntmps51
  go_upto_region 1 with fail
  go_cut [26] from 9 to 25 (fun s26 wx => s26 = .bool (pokeB k r c n) ∧ wx = w)
  case first =>
    by_cases h0 : 0 ≤ r ∧ r < (k.rooms.length : Int)
    · by_cases h1 : 0 ≤ c ∧ c < 6
      · have HX : Hid (pokeB k r c n = !(decide (0 ≤ n) && decide (n < 1000))) := by
          show _ = _
          unfold pokeB
          have e1 : decide (r < 0) = false := decide_eq_false (by omega)
          have e2 : decide ((k.rooms.length : Int) ≤ r) = false := decide_eq_false (by omega)
          have e3 : decide (c < 0) = false := decide_eq_false (by omega)
          have e4 : decide (5 < c) = false := decide_eq_false (by omega)
          simp only [e1, e2, e3, e4, Bool.false_or]
          by_cases e5 : n < 0
          · simp [e5] <;> omega
          · by_cases e6 : 999 < n
            · simp [e6] <;> omega
            · simp [e5, e6] <;> omega
        have b0 : (decide (0 ≤ r) && decide (r < (k.rooms.length : Int))) = true := by simp [h0.1, h0.2]
        have b1 : (decide (0 ≤ c) && decide (c < 6)) = true := by simp [h1.1, h1.2]
        go_wp2_with (go_at_call 60; refine (kbelow_any _ _ _).mono ?_; rintro e w1 ⟨rfl, hw1⟩; subst hw1; first | rw [b0] | rw [b1] | skip)
        go_meet
        case rel => exact ⟨by rw [HX.out, Bool.not_and], rfl⟩
      · have HX : Hid (pokeB k r c n = true) := by
          show _ = _
          unfold pokeB
          by_cases e3 : c < 0
          · simp [e3]
          · have e4 : 5 < c := by omega
            simp [e4]
        have b0 : (decide (0 ≤ r) && decide (r < (k.rooms.length : Int))) = true := by simp [h0.1, h0.2]
        have b1 : (decide (0 ≤ c) && decide (c < 6)) = false := by
          rw [← Bool.decide_and]
          exact decide_eq_false h1
        go_wp2_with (go_at_call 60; refine (kbelow_any _ _ _).mono ?_; rintro e w1 ⟨rfl, hw1⟩; subst hw1; first | rw [b0] | rw [b1] | skip)
        go_meet
        case rel => exact ⟨by rw [HX.out], rfl⟩
    · have HX : Hid (pokeB k r c n = true) := by
        show _ = _
        unfold pokeB
        by_cases e1 : r < 0
        · simp [e1]
        · have e2 : (k.rooms.length : Int) ≤ r := by omega
          simp [e2]
      go_wp2_with (go_at_call 60; refine (kbelow_no _ _ _ h0).mono ?_; rintro e w1 ⟨rfl, hw1⟩; subst hw1)
      go_meet
      case rel => exact ⟨by rw [HX.out], rfl⟩
  case rest =>
  obtain ⟨rfl, hwc⟩ := hcut
  rw [hwc]
  clear hwc
  have HN : Hid (pokeN k r c n = if pokeB k r c n = true then 1 else 0) := rfl
  cases hb : pokeB k r c n with
  | true =>
    go_wp2
    go_ret
    exact ⟨by rw [HN.out, hb]; rfl, rfl⟩
  | false =>
    go_wp2
    go_ret
    exact ⟨by rw [HN.out, hb]; rfl, rfl⟩
set_option maxRecDepth 100000 in
set_option maxHeartbeats 4000000 in
theorem gpoke_any (p : PD) (k : KD) (kb base : Nat) (a : GW) (r c n : Int) (w : World) (h : GK w base p k kb a) :
    Calls Tryz.prog 129 #[.pointer (some ⟨kb, 0, none⟩), .int .i64 r, .int .i64 c, .int .i64 n] w fun e w' => e = .returned (wErr (pokeN k r c n)) ∧ GK w' base p (pokeK k r c n) kb a ∧ KTouch (a.F kb) w w' := by
  have c3 := h.c3
  have hck := gcheck_any p k kb base a r c n w h
  have H : Hid (GK w base p k kb a) := h
  clear h
  cases hb : pokeB k r c n with
  | true =>
    have HN : Hid (pokeN k r c n = 1) := by show _ = _; unfold pokeN; rw [hb]; rfl
    rw [HN.out, show wErr 1 = .iface 93 (.int .i64 1) from rfl] at hck
    go_enter Tryz.func129, Tryz.ntmps129
    go_wp2_with (go_at_call 51; refine hck.mono ?_; rintro e w1 ⟨rfl, rfl⟩; clear hck)
    go_ret
    exact ⟨by rw [HN.out]; rfl, by unfold pokeK; rw [hb, if_pos rfl]; exact H.out, KTouch.refl _ _⟩
  | false =>
    obtain ⟨h0, h1, h2, h3, h4, h5⟩ := pokeB_false hb
    obtain ⟨rn, rfl⟩ : ∃ m : Nat, r = m := ⟨r.toNat, by omega⟩
    obtain ⟨cn, rfl⟩ : ∃ m : Nat, c = m := ⟨c.toNat, by omega⟩
    have hrl : rn < k.rooms.length := by omega
    have hcl : cn ≤ 5 := by omega
    have hc6 : (cn : Int) < 6 := by omega
    have hs : k.rooms[rn]? = some k.rooms[rn] := List.getElem?_eq_getElem hrl
    have hst := H.out.rooms rn _ hs
    have hcell : ∃ v, w.cell? ⟨a.rb, rn * 8 + 1 + cn, none⟩ = some v := by
      obtain ⟨q0, q1, q2, q3, q4, q5, q6, q7⟩ := hst
      match cn, hcl with
      | 0, _ => exact ⟨_, q1⟩
      | 1, _ => exact ⟨_, q2⟩
      | 2, _ => exact ⟨_, q3⟩
      | 3, _ => exact ⟨_, q4⟩
      | 4, _ => exact ⟨_, q5⟩
      | 5, _ => exact ⟨_, q6⟩
    obtain ⟨v0, hv0⟩ := hcell
    have hfz := H.out.rf (rn * 8 + 1 + cn)
    have HK : Hid (pokeK k rn cn n = ⟨k.rooms.set rn (pokeS k.rooms[rn] cn n), k.lines, k.time⟩) := by
      show _ = _
      unfold pokeK
      rw [hb, if_neg (by decide)]
      simp [List.getD, hs]
    clear hst hs
    have HN : Hid (pokeN k rn cn n = 0) := by show _ = _; unfold pokeN; rw [hb]; rfl
    rw [HN.out, show wErr 0 = .nilIface from rfl] at hck
    clear hb
    go_enter Tryz.func129, Tryz.ntmps129
    go_wp2_with (go_at_call 51; refine hck.mono ?_; rintro e w1 ⟨rfl, rfl⟩; clear hck)
    go_ret
    refine ⟨by rw [HN.out]; rfl, ?_, KTouch.set _ (by simp [GW.F]) _ _⟩
    rw [HK.out]
    exact H.out.poke (List.getElem?_eq_getElem hrl) hcl n
end Go.Proofs.YtajfgmlockjmhaiGreatDoor
namespace Go.Proofs.YtajfgmlockjmhaiGreatDoor
open Go.RowKit

set_option maxRecDepth 100000 in
set_option maxHeartbeats 4000000 in
theorem gturn_any (p : PD) (k : KD) (kb base : Nat) (a : GW) (w : World) (h : GK w base p k kb a) (hp : plchk p = 0) (hti : 0 ≤ k.time) :
    Calls Tryz.prog 45 #[.pointer (some ⟨kb, 0, none⟩)] w fun e w' => e = .returned (.int .i64 (hold p.spans (k.time % p.ticks))) ∧ Below w.heap.size w w' := by
  have hfz := (plchk_zero hp).2.2.1
  have hwr : whoR p.ticks p.spans k.time = (hold p.spans (k.time % p.ticks), 0) := by
    unfold whoR
    rw [if_pos hfz, if_neg (by omega)]
  have hsp := h.src.here.2
  obtain ⟨sa, sc, hsv⟩ := hsp.form
  rw [hsv] at hsp
  have HW : Hid (∀ W, Below w.heap.size w W → Calls Tryz.prog 80 #[.int .i64 p.ticks, .slice sa p.spans.length sc, .int .i64 k.time] W fun e w' => e = .returned (.tuple #[.int .i64 (hold p.spans (k.time % p.ticks)), .nilIface]) ∧ Below W.heap.size W w') := fun W hb => by
    have := who_any p.ticks p.spans (.slice sa p.spans.length sc) k.time W (hsp.all hb)
    rw [hwr] at this
    exact this
  have hkb := h.lt.1
  have c1 := h.c1
  have c2 := h.c2
  have c5 := h.c5
  rw [hsv] at c2
  have hcs : ∀ W, Below w.heap.size w W → W.cell? ⟨kb, 1, none⟩ = some (.int .i64 p.ticks) ∧ W.cell? ⟨kb, 2, none⟩ = some (.slice sa p.spans.length sc) ∧ W.cell? ⟨kb, 5, none⟩ = some (.int .i64 k.time) := fun W hb => ⟨(hb.cell (p := ⟨kb, 1, none⟩) hkb).trans c1, (hb.cell (p := ⟨kb, 2, none⟩) hkb).trans c2, (hb.cell (p := ⟨kb, 5, none⟩) hkb).trans c5⟩
  have bQ : Below w.heap.size w w.drew := (Below.refl _ _).drew
  clear h hsp hsv hwr hfz hp
  generalize hold p.spans (k.time % p.ticks) = r at HW ⊢
  go_enter Tryz.func45, Tryz.ntmps45
  go_upto_region 1 with fail
  go_region_held3 (fun w' => w'.cell? ⟨kb, 1, none⟩ = some (.int .i64 p.ticks) ∧ w'.cell? ⟨kb, 2, none⟩ = some (.slice sa p.spans.length sc) ∧ w'.cell? ⟨kb, 5, none⟩ = some (.int .i64 k.time))
    (first | exact ⟨c1, c2, c5⟩ | exact hcs _ bW | go_keep)
    (first
      | (go_at_call 80; refine (HW.out _ bQ).mono ?_; rintro e w1 ⟨rfl, b1⟩; have bW : Below w.heap.size w w1 := bQ.trans (b1.mono (by simp))))
  go_wp2
  go_ret
  exact ⟨rfl, bW⟩
/-- What an op may take. -/
def offG (k : KD) (o : O3) : Int × Bool := if o.1 = 9 then headL (lineAt k o) else (0, false)
set_option maxRecDepth 100000 in
set_option maxHeartbeats 4000000 in
theorem goff_no (kb : Nat) (x y z : Int) (w : World) (h9 : x ≠ 9) :
    Calls Tryz.prog 81 #[.pointer (some ⟨kb, 0, none⟩), .agg #[.int .i64 x, .int .i64 y, .int .i64 z]] w fun e w' => e = .returned (.tuple #[.int .i64 0, .bool false]) ∧ Below w.heap.size w w' := by
  have h9' : (x == 9) = false := by simpa using h9
  have h9'' : (x != 9) = true := by simpa using h9
  go_enter Tryz.func81, Tryz.ntmps81
  go_wp2
  go_ret2
  exact ⟨rfl, (Below.refl _ _).alloc (Nat.le_refl _) _⟩
set_option maxRecDepth 100000 in
set_option maxHeartbeats 4000000 in
theorem goff_yes (p : PD) (k : KD) (kb base : Nat) (a : GW) (y : Int) (n : Nat) (l : LnD) (w : World) (h : GK w base p k kb a) (hl : k.lines[n]? = some l) :
    Calls Tryz.prog 81 #[.pointer (some ⟨kb, 0, none⟩), .agg #[.int .i64 9, .int .i64 y, .int .i64 n]] w fun e w' => e = .returned (.tuple #[.int .i64 (headL l).1, .bool (headL l).2]) ∧ Below w.heap.size w w' := by
  have hn := (List.getElem?_eq_some_iff.1 hl).1
  have hni : (n : Int) < (k.lines.length : Int) := by omega
  obtain ⟨b, u, cap, l', hl', hb, hu, hlv, hcap, hptr, hln⟩ := h.lines.at hn
  obtain rfl : l = l' := Option.some.inj (hl.symm.trans hl')
  have c4 := h.c4
  rw [hlv] at c4
  have hnk := World.new_ne w ⟨kb, 4, none⟩ c4
  have hnl := World.new_ne w ⟨a.lr, n, none⟩ hptr
  have HP : Hid (∀ W, Below w.heap.size w W → Calls Tryz.prog 118 #[.pointer (some ⟨b, 0, none⟩)] W fun e w' => e = .returned (.tuple #[.int .i64 (headL l).1, .bool (headL l).2]) ∧ w' = W) := fun W hb => dpeek_l _ b l u W (hln.below hb)
  clear h hl hl' hb hu hlv hln
  go_enter Tryz.func81, Tryz.ntmps81
  go_upto_region 3 with fail
  have hA : Below w.heap.size w (w.alloc (.cells #[.int .i64 9, .int .i64 y, .int .i64 n] 28)).drew := ((Below.refl _ w).alloc (Nat.le_refl _) _).drew
  have d4 : (w.alloc (.cells #[.int .i64 9, .int .i64 y, .int .i64 n] 28)).drew.cell? ⟨kb, 4, none⟩ = some (.slice (some ⟨a.lr, 0, none⟩) k.lines.length cap) := (hA.cell (p := ⟨kb, 4, none⟩) (wlt c4)).trans c4
  have dl : (w.alloc (.cells #[.int .i64 9, .int .i64 y, .int .i64 n] 28)).drew.cell? ⟨a.lr, n, none⟩ = some (.pointer (some ⟨b, 0, none⟩)) := (hA.cell (p := ⟨a.lr, n, none⟩) (wlt hptr)).trans hptr
  have dn : (w.alloc (.cells #[.int .i64 9, .int .i64 y, .int .i64 n] 28)).drew.cell? ⟨w.heap.size, 2, none⟩ = some (.int .i64 n) := by simp
  go_region_held3 (fun w' => w'.cell? ⟨kb, 4, none⟩ = some (.slice (some ⟨a.lr, 0, none⟩) k.lines.length cap) ∧ w'.cell? ⟨w.heap.size, 2, none⟩ = some (.int .i64 n) ∧ w'.cell? ⟨a.lr, n, none⟩ = some (.pointer (some ⟨b, 0, none⟩)))
    (first | exact ⟨d4, dn, dl⟩ | go_keep)
    (first
      | (go_at_call 118; refine (HP.out _ hA).mono ?_; rintro e w1 ⟨rfl, hw1⟩; subst hw1))
  go_wp2
  go_ret2
  exact ⟨rfl, hA⟩
set_option maxRecDepth 100000 in
set_option maxHeartbeats 4000000 in
theorem gtake_none (p : PD) (k : KD) (kb base : Nat) (a : GW) (n : Nat) (l : LnD) (w : World) (h : GK w base p k kb a) (hl : k.lines[n]? = some l) (hh : (headL l).2 = false) :
    Calls Tryz.prog 83 #[.pointer (some ⟨kb, 0, none⟩), .int .i64 n] w fun e w' => e = .returned (.int .i64 3) ∧ w' = w := by
  have hn := (List.getElem?_eq_some_iff.1 hl).1
  have hni : (n : Int) < (k.lines.length : Int) := by omega
  obtain ⟨b, u, cap, l', hl', hb, hu, hlv, hcap, hptr, hln⟩ := h.lines.at hn
  obtain rfl : l = l' := Option.some.inj (hl.symm.trans hl')
  have c4 := h.c4
  rw [hlv] at c4
  have hx : l.xs = [] := by
    unfold headL at hh
    split at hh
    · assumption
    · cases hh
  rw [hx] at hln
  obtain ⟨ao, cu, rfl⟩ := Ln.none hln
  have HT : Hid (Calls Tryz.prog 123 #[.pointer (some ⟨b, 0, none⟩)] w fun e w' => e = .returned (.tuple #[.int .i64 0, .iface 93 (.int .i64 5)]) ∧ w' = w) := take_none b _ _ _ ao cu w hln.c
  clear h hl hl' hb hu hlv hln hx hh
  go_enter Tryz.func83, Tryz.ntmps83
  go_wp2_with (go_at_call 123; refine HT.out.mono ?_; rintro e w1 ⟨rfl, hw1⟩; subst hw1)
  go_ret
  exact ⟨rfl, rfl⟩
set_option maxRecDepth 100000 in
set_option maxHeartbeats 4000000 in
theorem gtake_some (p : PD) (k : KD) (kb base : Nat) (a : GW) (n : Nat) (l : LnD) (w : World) (h : GK w base p k kb a) (hbw : base ≤ w.heap.size) (hl : k.lines[n]? = some l) (hk : l.w.2.2.1 = 1 ∨ l.w.2.2.1 = 2) (hh : (headL l).2 = true) :
    Calls Tryz.prog 83 #[.pointer (some ⟨kb, 0, none⟩), .int .i64 n] w fun e w' => e = .returned (.int .i64 2) ∧ ∃ a', GK w' base p ⟨k.rooms, k.lines.set n (restL l), k.time⟩ kb a' ∧ KTouch (a.F kb) w w' ∧ ∀ g ∈ a'.F kb, g ∈ a.F kb ∨ w.heap.size ≤ g := by
  have hn := (List.getElem?_eq_some_iff.1 hl).1
  have hni : (n : Int) < (k.lines.length : Int) := by omega
  obtain ⟨b, u, cap, l', hl', hb, hu, hlv, hcap, hptr, hln⟩ := h.lines.at hn
  obtain rfl : l = l' := Option.some.inj (hl.symm.trans hl')
  have c4 := h.c4
  rw [hlv] at c4
  have HT : Hid (Calls Tryz.prog 123 #[.pointer (some ⟨b, 0, none⟩)] w fun e w' => e = .returned (.tuple #[.int .i64 (headL l).1, .nilIface]) ∧ ∃ a', GK w' base p ⟨k.rooms, k.lines.set n (restL l), k.time⟩ kb a' ∧ KTouch (a.F kb) w w' ∧ ∀ g ∈ a'.F kb, g ∈ a.F kb ∨ w.heap.size ≤ g) := by
    refine (dtake_l _ b l u w hk hh hln).mono ?_
    rintro e w' ⟨u', rfl, h3, h4⟩
    exact ⟨rfl, _, h.line hbw hb hu h4 h3⟩
  clear h hl hl' hb hu hlv hln hh hk
  go_enter Tryz.func83, Tryz.ntmps83
  go_wp2_with (go_at_call 123; refine HT.out.mono ?_; rintro e w1 ⟨rfl, hq⟩)
  go_ret
  exact ⟨rfl, hq⟩
set_option maxRecDepth 100000 in
set_option maxHeartbeats 4000000 in
theorem gsend_any (p : PD) (k : KD) (kb base : Nat) (a : GW) (n : Nat) (l : LnD) (x : Int) (w : World) (h : GK w base p k kb a) (hbw : base ≤ w.heap.size) (hl : k.lines[n]? = some l) (hk : (l.w.2.2.1 = 1 ∧ l.w.2.2.2 = 1) ∨ l.w.2.2.1 = 2) (hx : 0 ≤ x ∧ x ≤ 999) (hls : 0 ≤ l.ls ∧ l.ls < 1000000000) (hxs : l.xs.length ≤ 1000000) :
    Calls Tryz.prog 84 #[.pointer (some ⟨kb, 0, none⟩), .int .i64 n, .int .i64 x] w fun e w' => e = .returned (.int .i64 (if fitL l = true then 1 else 3)) ∧ ∃ a', GK w' base p ⟨k.rooms, k.lines.set n (putL l x), k.time⟩ kb a' ∧ KTouch (a.F kb) w w' ∧ ∀ g ∈ a'.F kb, g ∈ a.F kb ∨ w.heap.size ≤ g := by
  have hn := (List.getElem?_eq_some_iff.1 hl).1
  have hni : (n : Int) < (k.lines.length : Int) := by omega
  obtain ⟨b, u, cap, l', hl', hb, hu, hlv, hcap, hptr, hln⟩ := h.lines.at hn
  obtain rfl : l = l' := Option.some.inj (hl.symm.trans hl')
  have c4 := h.c4
  rw [hlv] at c4
  have HT : Hid (Calls Tryz.prog 124 #[.pointer (some ⟨b, 0, none⟩), .int .i64 x] w fun e w' => e = .returned (.tuple #[.bool (fitL l), .nilIface]) ∧ ∃ a', GK w' base p ⟨k.rooms, k.lines.set n (putL l x), k.time⟩ kb a' ∧ KTouch (a.F kb) w w' ∧ ∀ g ∈ a'.F kb, g ∈ a.F kb ∨ w.heap.size ≤ g) := by
    refine (dsend_l _ b l u x w hk hx hls hxs hln).mono ?_
    rintro e w' ⟨u', rfl, h3, h4⟩
    exact ⟨rfl, _, h.line hbw hb hu h4 h3⟩
  clear h hl hl' hb hu hlv hln hk hls hxs
  cases hfl : fitL l with
  | true =>
    rw [hfl] at HT
    go_enter Tryz.func84, Tryz.ntmps84
    go_wp2_with (go_at_call 124; refine HT.out.mono ?_; rintro e w1 ⟨rfl, hq⟩)
    go_ret
    exact ⟨rfl, hq⟩
  | false =>
    rw [hfl] at HT
    go_enter Tryz.func84, Tryz.ntmps84
    go_wp2_with (go_at_call 124; refine HT.out.mono ?_; rintro e w1 ⟨rfl, hq⟩)
    go_ret
    exact ⟨rfl, hq⟩
end Go.Proofs.YtajfgmlockjmhaiGreatDoor
namespace Go.Proofs.YtajfgmlockjmhaiGreatDoor
open Go.RowKit

/-- What is there to be taken, if it is offered. -/
theorem off_ok {p : PD} {k : KD} (hp : plchk p = 0) (hk : KOk p k) {r : Nat} {c : List O3} {s : St} {o : O3} (h : Turn p k r c s o) : (offG k o).2 = true → 0 ≤ (offG k o).1 ∧ (offG k o).1 ≤ 999 := by
  unfold offG
  split
  · rename_i ht
    obtain ⟨x, hx, _⟩ := (op_wire hp h.hc (List.mem_of_getElem? h.ho)).2 ht
    have hlt : o.2.2.toNat < k.lines.length := by rw [hk.ll]; exact (List.getElem?_eq_some_iff.1 hx).1
    have hl : k.lines[o.2.2.toNat]? = some k.lines[o.2.2.toNat] := List.getElem?_eq_getElem hlt
    have e : lineAt k o = k.lines[o.2.2.toNat] := by simp [lineAt, List.getD, hl]
    rw [e]
    exact headL_ok (hk.lines _ _ _ hl hx)
  · intro hh; cases hh
/-- The wire of an op that takes or sends. -/
theorem port_line {p : PD} {k : KD} (hp : plchk p = 0) (hk : KOk p k) {r : Nat} {c : List O3} {s : St} {o : O3} (h : Turn p k r c s o) (ho : o.1 = 8 ∨ o.1 = 9) : ∃ (n : Nat) (l : LnD), o.2.2 = (n : Int) ∧ k.lines[n]? = some l ∧ ((l.w.2.2.1 = 1 ∧ l.w.2.2.2 = 1) ∨ l.w.2.2.1 = 2) ∧ 0 ≤ l.ls ∧ l.ls ≤ k.time + 10000000 ∧ l.xs.length ≤ 1000000 := by
  have hx : ∃ x, p.wires[o.2.2.toNat]? = some x := by
    rcases ho with h8 | h9
    · obtain ⟨x, hx, _⟩ := (op_wire hp h.hc (List.mem_of_getElem? h.ho)).1 h8
      exact ⟨x, hx⟩
    · obtain ⟨x, hx, _⟩ := (op_wire hp h.hc (List.mem_of_getElem? h.ho)).2 h9
      exact ⟨x, hx⟩
  obtain ⟨x, hx⟩ := hx
  have hlt : o.2.2.toNat < k.lines.length := by rw [hk.ll]; exact (List.getElem?_eq_some_iff.1 hx).1
  have hl : k.lines[o.2.2.toNat]? = some k.lines[o.2.2.toNat] := List.getElem?_eq_getElem hlt
  have hlo := hk.lines _ _ _ hl hx
  have hkx := wchk_kind ((wschk_ok (plchk_zero hp).2.2.2.1).2 x (List.mem_of_getElem? hx))
  refine ⟨o.2.2.toNat, _, by have := (ok3_range h.ok).2.2.2.2.1; omega, hl, ?_, hlo.ls, hk.lost _ (List.mem_of_getElem? hl), ?_⟩
  · rw [hlo.w]
    rcases hkx with ⟨h1, h2⟩ | ⟨h1, _⟩
    · exact Or.inl ⟨h1, h2⟩
    · exact Or.inr h1
  · rcases hkx with ⟨h1, _⟩ | ⟨h1, h2, h3⟩
    · have := hlo.one h1
      omega
    · have := hlo.deep h1
      omega
set_option maxRecDepth 100000 in
set_option maxHeartbeats 8000000 in
theorem gstep_any (p : PD) (k : KD) (kb base : Nat) (a : GW) (r : Nat) (w : World) (hfm : Forms w) (h : GK w base p k kb a) (hbw : base ≤ w.heap.size) (hp : plchk p = 0) (hk : KOk p k) (ht : k.time < 100000000) (hr : r < p.code.length) :
    Calls Tryz.prog 46 #[.pointer (some ⟨kb, 0, none⟩), .int .i64 r] w fun e w' => e = .returned (.int .i64 (turnK p k r).2.2) ∧ ∃ a', GK w' base p ⟨(turnK p k r).1.rooms, (turnK p k r).1.lines, k.time⟩ kb a' ∧ KTouch (a.F kb) w w' ∧ ∀ g ∈ a'.F kb, g ∈ a.F kb ∨ w.heap.size ≤ g := by
  obtain ⟨c, s, o, htn⟩ := turn_of hp hk hr
  have HTN : Hid (Turn p k r c s o) := htn
  have H : Hid (GK w base p k kb a) := h
  have hcd := h.src.here.1
  obtain ⟨ca, cc, hcv⟩ := hcd.form
  rw [hcv] at hcd
  obtain ⟨cb, co, u, n, g, c', rfl, hclt, hcy, hcc, rfl, hops⟩ := hcd.at hr
  obtain rfl : c = c' := by
    rw [htn.hc] at hcy
    exact Option.some.inj hcy
  obtain ⟨pn, hpn⟩ : ∃ n : Nat, s.p = n := ⟨s.p.toNat, by have := (stOk_iff.1 htn.st).1; omega⟩
  have hpl : pn < c.length := by have := (stOk_iff.1 htn.st).2.1; omega
  have hpi : (pn : Int) < (c.length : Int) := by omega
  have hoc : c[pn]? = some o := by
    have := htn.ho
    rw [hpn] at this
    simpa using this
  obtain ⟨ob, oo, ocap, hoe, holt, hoce⟩ : ∃ b off cap, (Value.slice u c.length g) = .slice (some ⟨b, off, none⟩) c.length cap ∧ b < w.heap.size ∧ ∀ (i : Nat) o, c[i]? = some o → w.cell? ⟨b, off + i * 3, none⟩ = some (.int .i64 o.1) ∧ w.cell? ⟨b, off + i * 3 + 1, none⟩ = some (.int .i64 o.2.1) ∧ w.cell? ⟨b, off + i * 3 + 2, none⟩ = some (.int .i64 o.2.2) := by
    rcases hops with ⟨h0, _⟩ | h1
    · rw [h0] at hpl
      simp at hpl
    · exact h1
  injection hoe with hoe1 hoe2 hoe3
  subst hoe1
  clear hoe2 hoe3
  obtain ⟨o0, o1, o2⟩ := hoce pn o hoc
  have HG : Hid (∀ W, Below w.heap.size w W → ∀ g0 g1, (g1 = true → 0 ≤ g0 ∧ g0 ≤ 999) → Calls Tryz.prog 82 #[.slice (some ⟨ob, oo, none⟩) c.length g, .agg #[.int .i64 pn, .int .i64 (s.c 0), .int .i64 (s.c 1), .int .i64 (s.c 2), .int .i64 (s.c 3), .int .i64 (s.c 4), .int .i64 (s.c 5), .bool s.f], .int .i64 g0, .bool g1] W fun e w' => ∃ s', Hid (s' = stepF o s c.length g0 g1) ∧ e = .returned (.tuple #[.agg #[.int .i64 s'.p, .int .i64 (s'.c 0), .int .i64 (s'.c 1), .int .i64 (s'.c 2), .int .i64 (s'.c 3), .int .i64 (s'.c 4), .int .i64 (s'.c 5), .bool s'.f], .int .i64 (sendF o s), .nilIface]) ∧ Below W.heap.size W w') := fun W hb g0 g1 hg => by
    have h1 := rstep_any c (.slice (some ⟨ob, oo, none⟩) c.length g) s g0 g1 W (hfm.all hb) (hops.all hb)
    have h2 : gchk c s g0 g1 = 0 := by
      unfold gchk rchk
      rw [if_pos htn.ck, if_pos htn.st, if_pos rfl, if_neg (fun hn => by have := hg hn.1; omega)]
    have hod : c.getD s.p.toNat (0, 0, 0) = o := by simp [List.getD, htn.ho]
    unfold stepT at h1
    rw [if_pos h2, hod] at h1
    rw [← hpn]
    refine h1.mono ?_
    rintro e w' ⟨rfl, hb'⟩
    exact ⟨_, rfl, rfl, hb'⟩
  have hrk : k.rooms.length = p.code.length := hk.rl
  have hri : (r : Int) < (p.code.length : Int) := by omega
  obtain ⟨s0, s1, s2, s3, s4, s5, s6, s7⟩ := h.rooms r s htn.hs
  rw [hpn] at s0
  have k0 := h.c0
  have k3 := h.c3
  rw [hcv] at k0
  rw [hrk] at k3
  have hn0 := World.new_ne w ⟨kb, 0, none⟩ k0
  have hnr := World.new_ne w ⟨a.rb, _, none⟩ s0
  have hncb := World.new_ne w ⟨cb, _, none⟩ hcc
  have HF : Hid (∀ g ∈ a.F kb, g < w.heap.size) := h.flt
  clear h hops hoce hcd hcv hcy htn
  go_enter Tryz.func46, Tryz.ntmps46
  go_upto_region 1 with fail
  go_cut [5, 6] from 13 to 26 (fun s5 s6 wx => s5 = .slice (some ⟨ob, oo, none⟩) c.length g ∧ s6 = .pointer (some ⟨w.heap.size, 0, none⟩) ∧ StB wx w.heap.size s ∧ Below w.heap.size w wx)
  case first =>
    go_region_held3 (fun w' => (w'.cell? ⟨kb, 0, none⟩ = some (.slice (some ⟨cb, co, none⟩) p.code.length cc) ∧ w'.cell? ⟨kb, 3, none⟩ = some (.slice (some ⟨a.rb, 0, none⟩) p.code.length a.rcap) ∧ w'.cell? ⟨cb, co + r, none⟩ = some (.slice (some ⟨ob, oo, none⟩) c.length g)) ∧ (w'.cell? ⟨a.rb, r * 8, none⟩ = some (.int .i64 pn) ∧ w'.cell? ⟨a.rb, r * 8 + 1, none⟩ = some (.int .i64 (s.c 0)) ∧ w'.cell? ⟨a.rb, r * 8 + 2, none⟩ = some (.int .i64 (s.c 1)) ∧ w'.cell? ⟨a.rb, r * 8 + 3, none⟩ = some (.int .i64 (s.c 2))) ∧ (w'.cell? ⟨a.rb, r * 8 + 4, none⟩ = some (.int .i64 (s.c 3)) ∧ w'.cell? ⟨a.rb, r * 8 + 5, none⟩ = some (.int .i64 (s.c 4)) ∧ w'.cell? ⟨a.rb, r * 8 + 6, none⟩ = some (.int .i64 (s.c 5)) ∧ w'.cell? ⟨a.rb, r * 8 + 7, none⟩ = some (.bool s.f)))
      (first | exact ⟨⟨k0, k3, hcc⟩, ⟨s0, s1, s2, s3⟩, s4, s5, s6, s7⟩ | go_keep)
      (fail)
    go_wp2_with fail
    go_meet
    case rel => exact ⟨rfl, rfl, by rw [StB, hpn]; exact World.alloc_heap_new w _, ((Below.refl _ w).alloc (Nat.le_refl _) _).drew⟩
  case rest =>
  obtain ⟨rfl, rfl, hsb, hbc⟩ := hcut
  clear s0 s1 s2 s3 s4 s5 s6 s7 k0 k3 hn0 hnr hncb hcc
  replace o0 := (hbc.cell (p := ⟨ob, _, none⟩) holt).trans o0
  replace o1 := (hbc.cell (p := ⟨ob, _, none⟩) holt).trans o1
  replace o2 := (hbc.cell (p := ⟨ob, _, none⟩) holt).trans o2
  obtain ⟨s0, s1, s2, s3, s4, s5, s6, s7⟩ := hsb.cs
  simp only [Nat.zero_add] at s1 s2 s3 s4 s5 s6 s7
  rw [hpn] at s0
  go_upto_region 3 with fail
  have bA : Below wc.heap.size wc (wc.alloc (.cells #[.int .i64 o.1, .int .i64 o.2.1, .int .i64 o.2.2] 28)) := (Below.refl _ _).alloc (Nat.le_refl _) _
  have hob6 : (wc.alloc (.cells #[.int .i64 o.1, .int .i64 o.2.1, .int .i64 o.2.2] 28)).heap[wc.heap.size]? = some (.cells #[.int .i64 o.1, .int .i64 o.2.1, .int .i64 o.2.2] 28 (0, 0)) := World.alloc_heap_new _ _
  have hb6 : Below w.heap.size w (wc.alloc (.cells #[.int .i64 o.1, .int .i64 o.2.1, .int .i64 o.2.2] 28)) := hbc.trans (bA.mono hbc.size)
  have hsb6 : StB (wc.alloc (.cells #[.int .i64 o.1, .int .i64 o.2.1, .int .i64 o.2.2] 28)) w.heap.size s := (bA.block _ (Array.getElem?_eq_some_iff.1 hsb).1).trans hsb
  have hb2 : w.heap.size ≤ wc.heap.size := hbc.size
  clear s0 s1 s2 s3 s4 s5 s6 s7 o0 o1 o2 bA hsb hbc
  generalize wc.alloc (.cells #[.int .i64 o.1, .int .i64 o.2.1, .int .i64 o.2.2] 28) = W6 at hob6 hb6 hsb6 ⊢
  generalize wc.heap.size = b2 at hob6 hb2 ⊢
  have hocs : W6.cell? ⟨b2, 0, none⟩ = some (.int .i64 o.1) ∧ W6.cell? ⟨b2, 1, none⟩ = some (.int .i64 o.2.1) ∧ W6.cell? ⟨b2, 2, none⟩ = some (.int .i64 o.2.2) := by simp [World.cell?, hob6]
  obtain ⟨o0, o1, o2⟩ := hocs
  have HO : Hid (Calls Tryz.prog 81 #[.pointer (some ⟨kb, 0, none⟩), .agg #[.int .i64 o.1, .int .i64 o.2.1, .int .i64 o.2.2]] W6 fun e w' => e = .returned (.tuple #[.int .i64 (offG k o).1, .bool (offG k o).2]) ∧ Below W6.heap.size W6 w') := by
    by_cases h9 : o.1 = 9
    · obtain ⟨bn, l, hbn, hl, _⟩ := port_line hp hk HTN.out (Or.inr h9)
      have e : offG k o = headL l := by
        unfold offG lineAt
        rw [if_pos h9, hbn, Int.toNat_natCast]
        simp [List.getD, hl]
      rw [e, h9, hbn]
      exact goff_yes p k kb base a o.2.1 bn l W6 (H.out.all hb6) hl
    · have e : offG k o = (0, false) := by
        unfold offG
        rw [if_neg h9]
      rw [e]
      exact goff_no kb _ _ _ W6 h9
  have hgo := off_ok hp hk HTN.out
  obtain ⟨g0, hg0⟩ : ∃ x, (offG k o).1 = x := ⟨_, rfl⟩
  obtain ⟨g1, hg1⟩ : ∃ x, (offG k o).2 = x := ⟨_, rfl⟩
  rw [hg0, hg1] at HO hgo
  go_upto_region 4 with (go_at_call 81; refine HO.out.mono ?_; rintro e w7 ⟨rfl, b7⟩)
  have hb7 := hb6.trans (b7.mono hb6.size)
  have hsb7 : StB w7 w.heap.size s := (b7.block _ (Array.getElem?_eq_some_iff.1 hsb6).1).trans hsb6
  have hob7 := (b7.block _ (Array.getElem?_eq_some_iff.1 hob6).1).trans hob6
  clear o0 o1 o2 hob6 hsb6 b7 HO hb6
  obtain ⟨s0, s1, s2, s3, s4, s5, s6, s7⟩ := hsb7.cs
  simp only [Nat.zero_add] at s1 s2 s3 s4 s5 s6 s7
  rw [hpn] at s0
  go_upto_region 7 with (go_at_call 82; refine (HG.out w7 hb7 g0 g1 hgo).mono ?_; rintro e w1 ⟨s', hs', rfl, b1⟩)
  have bA : Below w1.heap.size w1 (w1.alloc (.cells #[.int .i64 s'.p, .int .i64 (s'.c 0), .int .i64 (s'.c 1), .int .i64 (s'.c 2), .int .i64 (s'.c 3), .int .i64 (s'.c 4), .int .i64 (s'.c 5), .bool s'.f] 73)) := (Below.refl _ _).alloc (Nat.le_refl _) _
  have bB := b1.trans (bA.mono b1.size)
  have hb8 := hb7.trans (bB.mono hb7.size)
  have hsb8 : StB _ w.heap.size s := (bB.block _ (Array.getElem?_eq_some_iff.1 hsb7).1).trans hsb7
  have hob8 := (bB.block _ (Array.getElem?_eq_some_iff.1 hob7).1).trans hob7
  have hn8 : StB (w1.alloc (.cells #[.int .i64 s'.p, .int .i64 (s'.c 0), .int .i64 (s'.c 1), .int .i64 (s'.c 2), .int .i64 (s'.c 3), .int .i64 (s'.c 4), .int .i64 (s'.c 5), .bool s'.f] 73)) w1.heap.size s' := World.alloc_heap_new _ _
  have hnb : w.heap.size ≤ w1.heap.size := Nat.le_trans hb7.size b1.size
  clear s0 s1 s2 s3 s4 s5 s6 s7 bA bB b1 hb7 hsb7 hob7 HG
  generalize w1.alloc (.cells #[.int .i64 s'.p, .int .i64 (s'.c 0), .int .i64 (s'.c 1), .int .i64 (s'.c 2), .int .i64 (s'.c 3), .int .i64 (s'.c 4), .int .i64 (s'.c 5), .bool s'.f] 73) = W8 at hb8 hsb8 hob8 hn8 ⊢
  generalize w1.heap.size = nb at hn8 hnb ⊢
  obtain ⟨n0, n1, n2, n3, n4, n5, n6, n7⟩ := hn8.cs
  simp only [Nat.zero_add] at n1 n2 n3 n4 n5 n6 n7
  have D8 := H.out.all hb8
  have k3 := D8.c3
  rw [hrk] at k3
  have hth : ∀ nq, (W8.drewN nq).there a.rb (r * 8) 8 := fun nq => there_st (D8.rooms r s HTN.out.hs) D8.rf nq
  go_cut [49] from 49 to 55 (fun _ wx => ∃ nq, wx = setSt (W8.drewN nq) a.rb (r * 8) s')
  case first =>
    refine wp_region_quiet_last (by kernel_rfl) rfl (by decide +kernel) (by decide +kernel) ?_
    simp only [List.dropLast_cons_cons, List.dropLast_singleton]
    repeat (go_big_quiet_step (fail))
    refine wpQuiet_nil ?_
    intro _ hw'
    obtain ⟨nq, hw''⟩ := hw'
    subst hw''
    refine wp_store_mid _ _ _ rfl a.rb (r * 8) _ rfl rfl (hth nq) rfl (by simp [Value.oneCell']) ?_
    go_wp2_with fail
    go_meet
    case rel => exact ⟨nq, rfl⟩
  case rest =>
  obtain ⟨nq, hwx⟩ := hcut
  have bN : Below W8.heap.size W8 (W8.drewN nq) := below_dN (Below.refl _ _) nq
  have D9 := (D8.all bN).set HTN.out.hs s'
  have hrm : a.rb ∈ a.F kb := by simp [GW.F]
  have tk9 : KTouch [a.rb] W8 (setSt (W8.drewN nq) a.rb (r * 8) s') := (KTouch.of bN).trans (setSt_touch _ (by simp) _ _)
  rw [← hwx] at D9 tk9
  have hnm : ∀ m, w.heap.size ≤ m → m ∉ [a.rb] := fun m h1 h2 => by
    rw [List.mem_singleton] at h2
    subst h2
    have := HF.out _ hrm
    omega
  have tk9w : KTouch (a.F kb) w wc := (KTouch.of hb8).trans (tk9.mono (by simp [GW.F]))
  have hsb9 : StB wc w.heap.size s := (tk9.block _ (Array.getElem?_eq_some_iff.1 hsb8).1 (hnm _ (Nat.le_refl _))).trans hsb8
  have hob9 := (tk9.block _ (Array.getElem?_eq_some_iff.1 hob8).1 (hnm _ hb2)).trans hob8
  have hn9 : StB wc nb s' := (tk9.block _ (Array.getElem?_eq_some_iff.1 hn8).1 (hnm _ hnb)).trans hn8
  have hbw9 : base ≤ wc.heap.size := Nat.le_trans hbw tk9w.size
  clear hwx bN tk9 D8 hb8 hsb8 hob8 hn8 n0 n1 n2 n3 n4 n5 n6 n7 k3 hth
  generalize wc = W9 at *
  obtain ⟨_, _, _, _, _, _, _, s7⟩ := hsb9.cs
  obtain ⟨_, _, _, _, _, _, _, n7⟩ := hn9.cs
  simp only [Nat.zero_add] at s7 n7
  have hocs : W9.cell? ⟨b2, 0, none⟩ = some (.int .i64 o.1) ∧ W9.cell? ⟨b2, 1, none⟩ = some (.int .i64 o.2.1) ∧ W9.cell? ⟨b2, 2, none⟩ = some (.int .i64 o.2.2) := by simp [World.cell?, hob9]
  obtain ⟨o0, o1, o2⟩ := hocs
  have hsf : s'.f = if s.f = true then true else decide (o.1 = 11) := by
    rw [hs'.out]
    unfold stepF
    cases hq : s.f <;> simp [hq]
  cases hsfe : s.f with
  | true =>
    have e9 := turn_failed HTN.out hsfe
    have hss : s' = s := by
      rw [hs'.out]
      unfold stepF
      rw [if_pos hsfe]
    rw [hss, set_same HTN.out.hs] at D9
    rw [hsfe] at s7
    have HE : Hid (turnK p k r = (⟨k.rooms, k.lines, k.time + 1⟩, s.p, 5)) := e9
    clear e9
    go_wp2
    go_ret
    rw [HE.out]
    exact ⟨rfl, a, D9, tk9w, fun g hg => Or.inl hg⟩
  | false =>
    rw [hsfe] at s7
    rw [hsfe, if_neg (by decide)] at hsf
    rw [hsf] at n7
    by_cases h9 : o.1 = 9
    · obtain ⟨bn, l, hbn, hl, hkd, hls0, hls1, hxl⟩ := port_line hp hk HTN.out (Or.inr h9)
      have eo : offG k o = headL l := by
        unfold offG lineAt
        rw [if_pos h9, hbn, Int.toNat_natCast]
        simp [List.getD, hl]
      have h11 : decide (o.1 = 11) = false := by rw [h9]; decide
      rw [h11] at n7
      rw [h9] at o0
      rw [hbn] at o2
      have hbt : o.2.2.toNat = bn := by rw [hbn]; simp
      cases hhd : (headL l).2 with
      | true =>
        have e9 := turn_takes HTN.out hsfe h9 (by rw [hbt]; exact hl) hhd
        have hst : s' = stepF o s c.length (headL l).1 true := by rw [hs'.out, ← hg0, ← hg1, eo, hhd]
        rw [hbt, ← hst] at e9
        have HE : Hid (turnK p k r = (⟨k.rooms.set r s', k.lines.set bn (restL l), k.time + 1⟩, s.p, 2)) := e9
        have HT : Hid (Calls Tryz.prog 83 #[.pointer (some ⟨kb, 0, none⟩), .int .i64 bn] W9 fun e w' => e = .returned (.int .i64 2) ∧ ∃ a', GK w' base p ⟨k.rooms.set r s', k.lines.set bn (restL l), k.time⟩ kb a' ∧ KTouch (a.F kb) W9 w' ∧ ∀ g ∈ a'.F kb, g ∈ a.F kb ∨ W9.heap.size ≤ g) := gtake_some p ⟨k.rooms.set r s', k.lines, k.time⟩ kb base a bn l W9 D9 hbw9 hl (hkd.imp And.left id) hhd
        clear e9 hst
        go_wp2_with (go_at_call 83; refine HT.out.mono ?_; rintro e w2 ⟨rfl, a', hq1, hq2, hq3⟩)
        go_ret
        rw [HE.out]
        exact ⟨rfl, a', hq1, tk9w.trans hq2, fun g hg => (hq3 g hg).imp id (fun h => Nat.le_trans tk9w.size h)⟩
      | false =>
        have e9 := turn_waits HTN.out hsfe h9 (by rw [hbt]; exact hl) hhd
        have hhz : (headL l).1 = 0 := by
          unfold headL at hhd ⊢
          split
          · rfl
          · rename_i hx
            rw [hx] at hhd
            cases hhd
        have hst : s' = stepF o s c.length 0 false := by rw [hs'.out, ← hg0, ← hg1, eo, hhd, hhz]
        rw [← hst] at e9
        have HE : Hid (turnK p k r = (⟨k.rooms.set r s', k.lines, k.time + 1⟩, s.p, 3)) := e9
        have HT : Hid (Calls Tryz.prog 83 #[.pointer (some ⟨kb, 0, none⟩), .int .i64 bn] W9 fun e w' => e = .returned (.int .i64 3) ∧ w' = W9) := gtake_none p ⟨k.rooms.set r s', k.lines, k.time⟩ kb base a bn l W9 D9 hl hhd
        clear e9 hst
        go_wp2_with (go_at_call 83; refine HT.out.mono ?_; rintro e w2 ⟨rfl, hw2⟩)
        go_ret
        rw [HE.out]
        exact ⟨rfl, a, D9, tk9w, fun g hg => Or.inl hg⟩
    · have h9' : (o.1 == 9) = false := by simpa using h9
      have eo : offG k o = (0, false) := by
        unfold offG
        rw [if_neg h9]
      have hst : s' = stepF o s c.length 0 false := by rw [hs'.out, ← hg0, ← hg1, eo]
      by_cases h8 : o.1 = 8
      · obtain ⟨bn, l, hbn, hl, hkd, hls0, hls1, hxl⟩ := port_line hp hk HTN.out (Or.inl h8)
        have h11 : decide (o.1 = 11) = false := by rw [h8]; decide
        rw [h11] at n7
        rw [hbn] at o2
        have hbt : o.2.2.toNat = bn := by rw [hbn]; simp
        have e9 := turn_sends HTN.out hsfe h8 (by rw [hbt]; exact hl)
        have hsn : sendF o s = s.c o.2.1.toNat := by
          unfold sendF sentF
          rw [hsfe, if_neg (by decide), if_pos h8]
        have hsr := sendK_range HTN.out
        have hx0 : 0 ≤ sendF o s := by
          rw [hsn]
          have hr := (ok3_range HTN.out.ok).2.2
          have hb := (bA_le o.1).2
          exact ((stOk_iff.1 HTN.out.st).2.2 o.2.1.toNat (by omega)).1
        rw [hbt, ← hst, ← hsn] at e9
        rw [h8] at o0
        have hsd := gsend_any p ⟨k.rooms.set r s', k.lines, k.time⟩ kb base a bn l (sendF o s) W9 D9 hbw9 hl hkd ⟨hx0, hsr.2.1⟩ ⟨hls0, by omega⟩ hxl
        generalize (if fitL l = true then (1 : Int) else 3) = qv at hsd e9
        have HE : Hid (turnK p k r = (⟨k.rooms.set r s', k.lines.set bn (putL l (sendF o s)), k.time + 1⟩, s.p, qv)) := e9
        have HT : Hid (Calls Tryz.prog 84 #[.pointer (some ⟨kb, 0, none⟩), .int .i64 bn, .int .i64 (sendF o s)] W9 fun e w' => e = .returned (.int .i64 qv) ∧ ∃ a', GK w' base p ⟨k.rooms.set r s', k.lines.set bn (putL l (sendF o s)), k.time⟩ kb a' ∧ KTouch (a.F kb) W9 w' ∧ ∀ g ∈ a'.F kb, g ∈ a.F kb ∨ W9.heap.size ≤ g) := hsd
        clear hsd
        clear e9 hst hsn
        go_wp2_with (go_at_call 84; refine HT.out.mono ?_; rintro e w2 ⟨rfl, a', hq1, hq2, hq3⟩)
        go_ret
        rw [HE.out]
        exact ⟨rfl, a', hq1, tk9w.trans hq2, fun g hg => (hq3 g hg).imp id (fun h => Nat.le_trans tk9w.size h)⟩
      · have h8' : (o.1 == 8) = false := by simpa using h8
        have e9 := turn_else HTN.out hsfe h8 h9
        rw [← hst] at e9
        have HE : Hid (turnK p k r = (⟨k.rooms.set r s', k.lines, k.time + 1⟩, s.p, if o.1 = 11 then 4 else 0)) := e9
        clear e9 hst
        by_cases h11 : o.1 = 11
        · have h11' : decide (o.1 = 11) = true := decide_eq_true h11
          rw [h11'] at n7
          go_wp2
          go_ret
          rw [HE.out, if_pos h11]
          exact ⟨rfl, a, D9, tk9w, fun g hg => Or.inl hg⟩
        · have h11' : decide (o.1 = 11) = false := decide_eq_false h11
          rw [h11'] at n7
          go_wp2
          go_ret
          rw [HE.out, if_neg h11]
          exact ⟨rfl, a, D9, tk9w, fun g hg => Or.inl hg⟩
end Go.Proofs.YtajfgmlockjmhaiGreatDoor

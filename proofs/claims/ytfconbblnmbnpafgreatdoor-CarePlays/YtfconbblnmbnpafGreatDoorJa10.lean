/-
  GSmall, GPoke, GTake, GPut: joined into one text.
-/
import Derived.Test.YtfconbblnmbnpafGreatDoorJa9
import Derived.Test.YtfconbblnmbnpafGreatDoorJa2
import Derived.Deep.RegionHeld3
import Derived.Deep.CutRange
import Derived.Deep.RegionWith
import Derived.BigQuiet
import Derived.RangeFuncNested
import Derived.Test.YtfconbblnmbnpafGreatDoorJa4
import Derived.Test.YtfconbblnmbnpafGreatDoorJa1
import Derived.Test.YtfconbblnmbnpafGreatDoorJa3
namespace Go.Proofs.YtfconbblnmbnpafGreatDoor
open Go.RowKit

set_option maxRecDepth 100000 in
set_option maxHeartbeats 1000000 in
theorem kbelow_yes (n b : Int) (w : World) (h0 : 0 ≤ n) (h1 : n < b) : Calls Tryz.prog 38 #[.int .i64 n, .int .i64 b] w fun e w' => e = .returned (.bool true) ∧ w' = w := by
  go_enter Tryz.func38, Tryz.ntmps38
  go_wp2
  go_ret
  exact ⟨rfl, rfl⟩
set_option maxRecDepth 100000 in
set_option maxHeartbeats 1000000 in
theorem kbelow_no (n b : Int) (w : World) (h : ¬ (0 ≤ n ∧ n < b)) : Calls Tryz.prog 38 #[.int .i64 n, .int .i64 b] w fun e w' => e = .returned (.bool false) ∧ w' = w := by
  by_cases h0 : 0 ≤ n
  · have h1 : decide (n < b) = false := by simp; omega
    clear h
    go_enter Tryz.func38, Tryz.ntmps38
    go_wp2
    go_ret
    exact ⟨rfl, rfl⟩
  · have h0' : decide (0 ≤ n) = false := by simp; omega
    clear h
    go_enter Tryz.func38, Tryz.ntmps38
    go_wp2
    go_ret
    exact ⟨rfl, rfl⟩
theorem kbelow_any (n b : Int) (w : World) : Calls Tryz.prog 38 #[.int .i64 n, .int .i64 b] w fun e w' => e = .returned (.bool (decide (0 ≤ n) && decide (n < b))) ∧ w' = w := by
  by_cases h : 0 ≤ n ∧ n < b
  · refine (kbelow_yes n b w h.1 h.2).mono ?_
    rintro e w' ⟨rfl, rfl⟩
    simp [h.1, h.2]
  · refine (kbelow_no n b w h).mono ?_
    rintro e w' ⟨rfl, rfl⟩
    refine ⟨?_, rfl⟩
    have : (decide (0 ≤ n) && decide (n < b)) = false := by
      rw [← Bool.decide_and]
      exact decide_eq_false h
    rw [this]
set_option maxRecDepth 100000 in
set_option maxHeartbeats 4000000 in
theorem gstate_any (p : PD) (k : KD) (kb base : Nat) (a : GW) (r : Int) (w : World) (h : GK w base p k kb a) :
    Calls Tryz.prog 28 #[.pointer (some ⟨kb, 0, none⟩), .int .i64 r] w fun e w' => e = .returned (.tuple #[stA (roomK k r), wErr (errB (noRoom k r))]) ∧ Below w.heap.size w w' := by
  have c3 := h.c3
  have hkb := h.lt.1
  by_cases hr : 0 ≤ r ∧ r < (k.rooms.length : Int)
  · obtain ⟨n, rfl⟩ : ∃ n : Nat, r = n := ⟨r.toNat, by omega⟩
    have hn : n < k.rooms.length := by omega
    have hni : (n : Int) < (k.rooms.length : Int) := by omega
    have hno : noRoom k n = false := by
      unfold noRoom
      rw [Bool.or_eq_false_iff]
      exact ⟨decide_eq_false (by omega), decide_eq_false (by omega)⟩
    have hrk : roomK k n = k.rooms[n] := by
      unfold roomK
      rw [if_neg (by rw [hno]; decide), Int.toNat_natCast]
      simp [List.getD, hn]
    have hst := h.rooms n k.rooms[n] (List.getElem?_eq_getElem hn)
    rw [hrk, hno]
    generalize k.rooms[n] = s at hst ⊢
    obtain ⟨s0, s1, s2, s3, s4, s5, s6, s7⟩ := hst
    have hrb := wlt s0
    have hn0 := World.new_ne w ⟨a.rb, n * 8, none⟩ s0
    have hnk := World.new_ne w ⟨kb, 3, none⟩ c3
    clear h hno hrk hr
    go_enter Tryz.func28, Tryz.ntmps28
    go_wp2_with (go_at_call 38; refine (kbelow_yes _ _ _ (by omega) hni).mono ?_; rintro e w1 ⟨rfl, hw1⟩; subst hw1)
    refine bodyPost_ret (v := .tuple #[stA s, wErr (errB false)]) ?_ rfl ⟨rfl, ?_⟩
    · simp [results, Tryz.results28, go_sem, stA, wErr, errB]
    · repeat' first | exact Below.refl _ _ | refine Below.drew ?_ | refine Below.alloc ?_ (by simp <;> omega) _ | refine Below.setCell ?_ (by simp <;> omega) _
  · have hno : noRoom k r = true := by
      unfold noRoom
      rw [Bool.or_eq_true]
      by_cases h0 : r < 0
      · exact Or.inl (decide_eq_true h0)
      · exact Or.inr (decide_eq_true (by omega))
    have hrk : roomK k r = stNew := by
      unfold roomK
      rw [if_pos hno]
    rw [hrk, hno]
    have hnk := World.new_ne w ⟨kb, 3, none⟩ c3
    clear h hno hrk
    go_enter Tryz.func28, Tryz.ntmps28
    go_wp2_with (go_at_call 38; refine (kbelow_no _ _ _ hr).mono ?_; rintro e w1 ⟨rfl, hw1⟩; subst hw1)
    refine bodyPost_ret (v := .tuple #[stA stNew, wErr (errB true)]) ?_ rfl ⟨rfl, ?_⟩
    · simp [results, Tryz.results28, go_sem, stA, stNew, wErr, errB]
    · repeat' first | exact Below.refl _ _ | refine Below.drew ?_ | refine Below.alloc ?_ (by simp <;> omega) _ | refine Below.setCell ?_ (by simp <;> omega) _
end Go.Proofs.YtfconbblnmbnpafGreatDoor
namespace Go.Proofs.YtfconbblnmbnpafGreatDoor
open Go.RowKit

set_option maxRecDepth 100000 in
set_option maxHeartbeats 4000000 in
theorem gpoke_any (p : PD) (k : KD) (kb base : Nat) (a : GW) (r c n : Int) (w : World) (h : GK w base p k kb a) :
    Calls Tryz.prog 22 #[.pointer (some ⟨kb, 0, none⟩), .int .i64 r, .int .i64 c, .int .i64 n] w fun e w' => e = .returned (wErr (pokeN k r c n)) ∧ GK w' base p (pokeK k r c n) kb a ∧ KTouch (a.F kb) w w' := by
  have c3 := h.c3
  have H : Hid (GK w base p k kb a) := h
  clear h
  go_enter Tryz.func22, Tryz.ntmps22
  go_upto_region 1 with fail
  go_cut [26] from 9 to 25 (fun s26 wx => s26 = .bool (pokeB k r c n) ∧ wx = w)
  case first =>
    by_cases h0 : 0 ≤ r ∧ r < (k.rooms.length : Int)
    · by_cases h1 : 0 ≤ c ∧ c < 6
      · have HX : Hid (pokeB k r c n = !(decide (0 ≤ n) && decide (n < 1000))) := by
          show _ = _
          unfold pokeB
          have e1 : decide (r < 0) = false := decide_eq_false (by omega)
          have e2 : decide ((k.rooms.length : Int) ≤ r) = false := decide_eq_false (by omega)
          have e3 : decide (c < 0) = false := decide_eq_false (by omega)
          have e4 : decide (5 < c) = false := decide_eq_false (by omega)
          simp only [e1, e2, e3, e4, Bool.false_or]
          by_cases e5 : n < 0
          · simp [e5] <;> omega
          · by_cases e6 : 999 < n
            · simp [e6] <;> omega
            · simp [e5, e6] <;> omega
        have b0 : (decide (0 ≤ r) && decide (r < (k.rooms.length : Int))) = true := by simp [h0.1, h0.2]
        have b1 : (decide (0 ≤ c) && decide (c < 6)) = true := by simp [h1.1, h1.2]
        go_wp2_with (go_at_call 38; refine (kbelow_any _ _ _).mono ?_; rintro e w1 ⟨rfl, hw1⟩; subst hw1; first | rw [b0] | rw [b1] | skip)
        go_meet
        case rel => exact ⟨by rw [HX.out, Bool.not_and], rfl⟩
      · have HX : Hid (pokeB k r c n = true) := by
          show _ = _
          unfold pokeB
          by_cases e3 : c < 0
          · simp [e3]
          · have e4 : 5 < c := by omega
            simp [e4]
        have b0 : (decide (0 ≤ r) && decide (r < (k.rooms.length : Int))) = true := by simp [h0.1, h0.2]
        have b1 : (decide (0 ≤ c) && decide (c < 6)) = false := by
          rw [← Bool.decide_and]
          exact decide_eq_false h1
        go_wp2_with (go_at_call 38; refine (kbelow_any _ _ _).mono ?_; rintro e w1 ⟨rfl, hw1⟩; subst hw1; first | rw [b0] | rw [b1] | skip)
        go_meet
        case rel => exact ⟨by rw [HX.out], rfl⟩
    · have HX : Hid (pokeB k r c n = true) := by
        show _ = _
        unfold pokeB
        by_cases e1 : r < 0
        · simp [e1]
        · have e2 : (k.rooms.length : Int) ≤ r := by omega
          simp [e2]
      go_wp2_with (go_at_call 38; refine (kbelow_no _ _ _ h0).mono ?_; rintro e w1 ⟨rfl, hw1⟩; subst hw1)
      go_meet
      case rel => exact ⟨by rw [HX.out], rfl⟩
  case rest =>
  obtain ⟨rfl, hwc⟩ := hcut
  rw [hwc]
  clear hwc
  cases hb : pokeB k r c n with
  | true =>
    go_wp2
    go_ret
    exact ⟨by unfold pokeN; rw [hb]; rfl, by unfold pokeK; rw [hb, if_pos rfl]; exact H.out, KTouch.refl _ _⟩
  | false =>
    obtain ⟨h0, h1, h2, h3, h4, h5⟩ := pokeB_false hb
    obtain ⟨rn, rfl⟩ : ∃ m : Nat, r = m := ⟨r.toNat, by omega⟩
    obtain ⟨cn, rfl⟩ : ∃ m : Nat, c = m := ⟨c.toNat, by omega⟩
    have hrl : rn < k.rooms.length := by omega
    have hcl : cn ≤ 5 := by omega
    have hc6 : (cn : Int) < 6 := by omega
    have hs : k.rooms[rn]? = some k.rooms[rn] := List.getElem?_eq_getElem hrl
    have hst := H.out.rooms rn _ hs
    have hcell : ∃ v, w.cell? ⟨a.rb, rn * 8 + 1 + cn, none⟩ = some v := by
      obtain ⟨q0, q1, q2, q3, q4, q5, q6, q7⟩ := hst
      match cn, hcl with
      | 0, _ => exact ⟨_, q1⟩
      | 1, _ => exact ⟨_, q2⟩
      | 2, _ => exact ⟨_, q3⟩
      | 3, _ => exact ⟨_, q4⟩
      | 4, _ => exact ⟨_, q5⟩
      | 5, _ => exact ⟨_, q6⟩
    obtain ⟨v0, hv0⟩ := hcell
    have hfz := H.out.rf (rn * 8 + 1 + cn)
    have HK : Hid (pokeK k rn cn n = ⟨k.rooms.set rn (pokeS k.rooms[rn] cn n), k.lines, k.time⟩) := by
      show _ = _
      unfold pokeK
      rw [hb, if_neg (by decide)]
      simp [List.getD, hs]
    clear hst hs
    have HB : Hid (pokeB k rn cn n = false) := hb
    clear hb
    go_wp2
    go_ret
    refine ⟨by unfold pokeN; rw [HB.out]; rfl, ?_, KTouch.set w (by simp [GW.F]) _ _⟩
    rw [HK.out]
    exact H.out.poke (List.getElem?_eq_getElem hrl) hcl n
end Go.Proofs.YtfconbblnmbnpafGreatDoor
namespace Go.Proofs.YtfconbblnmbnpafGreatDoor
open Go.RowKit

set_option maxRecDepth 100000 in
set_option maxHeartbeats 4000000 in
theorem gturn_any (p : PD) (k : KD) (kb base : Nat) (a : GW) (w : World) (h : GK w base p k kb a) (hp : plchk p = 0) (hti : 0 ≤ k.time) :
    Calls Tryz.prog 24 #[.pointer (some ⟨kb, 0, none⟩)] w fun e w' => e = .returned (.int .i64 (hold p.spans (k.time % p.ticks))) ∧ Below w.heap.size w w' := by
  have hfz := (plchk_zero hp).2.2.1
  have hwr : whoR p.ticks p.spans k.time = (hold p.spans (k.time % p.ticks), 0) := by
    unfold whoR
    rw [if_pos hfz, if_neg (by omega)]
  have hsp := h.src.here.2
  obtain ⟨sa, sc, hsv⟩ := hsp.form
  rw [hsv] at hsp
  have HW : Hid (∀ W, Below w.heap.size w W → Calls Tryz.prog 40 #[.int .i64 p.ticks, .slice sa p.spans.length sc, .int .i64 k.time] W fun e w' => e = .returned (.tuple #[.int .i64 (hold p.spans (k.time % p.ticks)), .nilIface]) ∧ Below W.heap.size W w') := fun W hb => by
    have := who_any p.ticks p.spans (.slice sa p.spans.length sc) k.time W (hsp.all hb)
    rw [hwr] at this
    exact this
  have hkb := h.lt.1
  have c1 := h.c1
  have c2 := h.c2
  have c5 := h.c5
  rw [hsv] at c2
  have hcs : ∀ W, Below w.heap.size w W → W.cell? ⟨kb, 1, none⟩ = some (.int .i64 p.ticks) ∧ W.cell? ⟨kb, 2, none⟩ = some (.slice sa p.spans.length sc) ∧ W.cell? ⟨kb, 5, none⟩ = some (.int .i64 k.time) := fun W hb => ⟨(hb.cell (p := ⟨kb, 1, none⟩) hkb).trans c1, (hb.cell (p := ⟨kb, 2, none⟩) hkb).trans c2, (hb.cell (p := ⟨kb, 5, none⟩) hkb).trans c5⟩
  have bQ : Below w.heap.size w w.drew := (Below.refl _ _).drew
  clear h hsp hsv hwr hfz hp
  generalize hold p.spans (k.time % p.ticks) = r at HW ⊢
  go_enter Tryz.func24, Tryz.ntmps24
  go_upto_region 1 with fail
  go_region_held3 (fun w' => w'.cell? ⟨kb, 1, none⟩ = some (.int .i64 p.ticks) ∧ w'.cell? ⟨kb, 2, none⟩ = some (.slice sa p.spans.length sc) ∧ w'.cell? ⟨kb, 5, none⟩ = some (.int .i64 k.time))
    (first | exact ⟨c1, c2, c5⟩ | exact hcs _ bW | go_keep)
    (first
      | (go_at_call 40; refine (HW.out _ bQ).mono ?_; rintro e w1 ⟨rfl, b1⟩; have bW : Below w.heap.size w w1 := bQ.trans (b1.mono (by simp))))
  go_wp2
  go_ret
  exact ⟨rfl, bW⟩
/-- What an op may take. -/
def offG (k : KD) (o : O3) : Int × Bool := if o.1 = 9 then headL (lineAt k o) else (0, false)
set_option maxRecDepth 100000 in
set_option maxHeartbeats 4000000 in
theorem goff_no (kb : Nat) (x y z : Int) (w : World) (h9 : x ≠ 9) :
    Calls Tryz.prog 54 #[.pointer (some ⟨kb, 0, none⟩), .agg #[.int .i64 x, .int .i64 y, .int .i64 z]] w fun e w' => e = .returned (.tuple #[.int .i64 0, .bool false]) ∧ Below w.heap.size w w' := by
  have h9' : (x == 9) = false := by simpa using h9
  have h9'' : (x != 9) = true := by simpa using h9
  go_enter Tryz.func54, Tryz.ntmps54
  go_wp2
  go_ret2
  exact ⟨rfl, (Below.refl _ _).alloc (Nat.le_refl _) _⟩
set_option maxRecDepth 100000 in
set_option maxHeartbeats 4000000 in
theorem goff_yes (p : PD) (k : KD) (kb base : Nat) (a : GW) (y : Int) (n : Nat) (l : LnD) (w : World) (h : GK w base p k kb a) (hl : k.lines[n]? = some l) :
    Calls Tryz.prog 54 #[.pointer (some ⟨kb, 0, none⟩), .agg #[.int .i64 9, .int .i64 y, .int .i64 n]] w fun e w' => e = .returned (.tuple #[.int .i64 (headL l).1, .bool (headL l).2]) ∧ Below w.heap.size w w' := by
  have hn := (List.getElem?_eq_some_iff.1 hl).1
  have hni : (n : Int) < (k.lines.length : Int) := by omega
  obtain ⟨b, u, cap, l', hl', hb, hu, hlv, hcap, hptr, hln⟩ := h.lines.at hn
  obtain rfl : l = l' := Option.some.inj (hl.symm.trans hl')
  have c4 := h.c4
  rw [hlv] at c4
  have hnk := World.new_ne w ⟨kb, 4, none⟩ c4
  have hnl := World.new_ne w ⟨a.lr, n, none⟩ hptr
  have HP : Hid (∀ W, Below w.heap.size w W → Calls Tryz.prog 77 #[.pointer (some ⟨b, 0, none⟩)] W fun e w' => e = .returned (.tuple #[.int .i64 (headL l).1, .bool (headL l).2]) ∧ w' = W) := fun W hb => dpeek_l _ b l u W (hln.below hb)
  clear h hl hl' hb hu hlv hln
  go_enter Tryz.func54, Tryz.ntmps54
  go_upto_region 3 with fail
  have hA : Below w.heap.size w (w.alloc (.cells #[.int .i64 9, .int .i64 y, .int .i64 n] 89)).drew := ((Below.refl _ w).alloc (Nat.le_refl _) _).drew
  have d4 : (w.alloc (.cells #[.int .i64 9, .int .i64 y, .int .i64 n] 89)).drew.cell? ⟨kb, 4, none⟩ = some (.slice (some ⟨a.lr, 0, none⟩) k.lines.length cap) := (hA.cell (p := ⟨kb, 4, none⟩) (wlt c4)).trans c4
  have dl : (w.alloc (.cells #[.int .i64 9, .int .i64 y, .int .i64 n] 89)).drew.cell? ⟨a.lr, n, none⟩ = some (.pointer (some ⟨b, 0, none⟩)) := (hA.cell (p := ⟨a.lr, n, none⟩) (wlt hptr)).trans hptr
  have dn : (w.alloc (.cells #[.int .i64 9, .int .i64 y, .int .i64 n] 89)).drew.cell? ⟨w.heap.size, 2, none⟩ = some (.int .i64 n) := by simp
  go_region_held3 (fun w' => w'.cell? ⟨kb, 4, none⟩ = some (.slice (some ⟨a.lr, 0, none⟩) k.lines.length cap) ∧ w'.cell? ⟨w.heap.size, 2, none⟩ = some (.int .i64 n) ∧ w'.cell? ⟨a.lr, n, none⟩ = some (.pointer (some ⟨b, 0, none⟩)))
    (first | exact ⟨d4, dn, dl⟩ | go_keep)
    (first
      | (go_at_call 77; refine (HP.out _ hA).mono ?_; rintro e w1 ⟨rfl, hw1⟩; subst hw1))
  go_wp2
  go_ret2
  exact ⟨rfl, hA⟩
set_option maxRecDepth 100000 in
set_option maxHeartbeats 4000000 in
theorem gtake_none (p : PD) (k : KD) (kb base : Nat) (a : GW) (n : Nat) (l : LnD) (w : World) (h : GK w base p k kb a) (hl : k.lines[n]? = some l) (hh : (headL l).2 = false) :
    Calls Tryz.prog 56 #[.pointer (some ⟨kb, 0, none⟩), .int .i64 n] w fun e w' => e = .returned (.int .i64 3) ∧ w' = w := by
  have hn := (List.getElem?_eq_some_iff.1 hl).1
  have hni : (n : Int) < (k.lines.length : Int) := by omega
  obtain ⟨b, u, cap, l', hl', hb, hu, hlv, hcap, hptr, hln⟩ := h.lines.at hn
  obtain rfl : l = l' := Option.some.inj (hl.symm.trans hl')
  have c4 := h.c4
  rw [hlv] at c4
  have hx : l.xs = [] := by
    unfold headL at hh
    split at hh
    · assumption
    · cases hh
  rw [hx] at hln
  obtain ⟨ao, cu, rfl⟩ := Ln.none hln
  have HT : Hid (Calls Tryz.prog 81 #[.pointer (some ⟨b, 0, none⟩)] w fun e w' => e = .returned (.tuple #[.int .i64 0, .iface 70 (.int .i64 5)]) ∧ w' = w) := take_none b _ _ _ ao cu w hln.c
  clear h hl hl' hb hu hlv hln hx hh
  go_enter Tryz.func56, Tryz.ntmps56
  go_wp2_with (go_at_call 81; refine HT.out.mono ?_; rintro e w1 ⟨rfl, hw1⟩; subst hw1)
  go_ret
  exact ⟨rfl, rfl⟩
set_option maxRecDepth 100000 in
set_option maxHeartbeats 4000000 in
theorem gtake_some (p : PD) (k : KD) (kb base : Nat) (a : GW) (n : Nat) (l : LnD) (w : World) (h : GK w base p k kb a) (hbw : base ≤ w.heap.size) (hl : k.lines[n]? = some l) (hk : l.w.2.2.1 = 1 ∨ l.w.2.2.1 = 2) (hh : (headL l).2 = true) :
    Calls Tryz.prog 56 #[.pointer (some ⟨kb, 0, none⟩), .int .i64 n] w fun e w' => e = .returned (.int .i64 2) ∧ ∃ a', GK w' base p ⟨k.rooms, k.lines.set n (restL l), k.time⟩ kb a' ∧ KTouch (a.F kb) w w' ∧ ∀ g ∈ a'.F kb, g ∈ a.F kb ∨ w.heap.size ≤ g := by
  have hn := (List.getElem?_eq_some_iff.1 hl).1
  have hni : (n : Int) < (k.lines.length : Int) := by omega
  obtain ⟨b, u, cap, l', hl', hb, hu, hlv, hcap, hptr, hln⟩ := h.lines.at hn
  obtain rfl : l = l' := Option.some.inj (hl.symm.trans hl')
  have c4 := h.c4
  rw [hlv] at c4
  have HT : Hid (Calls Tryz.prog 81 #[.pointer (some ⟨b, 0, none⟩)] w fun e w' => e = .returned (.tuple #[.int .i64 (headL l).1, .nilIface]) ∧ ∃ a', GK w' base p ⟨k.rooms, k.lines.set n (restL l), k.time⟩ kb a' ∧ KTouch (a.F kb) w w' ∧ ∀ g ∈ a'.F kb, g ∈ a.F kb ∨ w.heap.size ≤ g) := by
    refine (dtake_l _ b l u w hk hh hln).mono ?_
    rintro e w' ⟨u', rfl, h3, h4⟩
    exact ⟨rfl, _, h.line hbw hb hu h4 h3⟩
  clear h hl hl' hb hu hlv hln hh hk
  go_enter Tryz.func56, Tryz.ntmps56
  go_wp2_with (go_at_call 81; refine HT.out.mono ?_; rintro e w1 ⟨rfl, hq⟩)
  go_ret
  exact ⟨rfl, hq⟩
set_option maxRecDepth 100000 in
set_option maxHeartbeats 4000000 in
theorem gsend_any (p : PD) (k : KD) (kb base : Nat) (a : GW) (n : Nat) (l : LnD) (x : Int) (w : World) (h : GK w base p k kb a) (hbw : base ≤ w.heap.size) (hl : k.lines[n]? = some l) (hk : (l.w.2.2.1 = 1 ∧ l.w.2.2.2 = 1) ∨ l.w.2.2.1 = 2) (hx : 0 ≤ x ∧ x ≤ 999) (hls : 0 ≤ l.ls ∧ l.ls < 1000000000) (hxs : l.xs.length ≤ 1000000) :
    Calls Tryz.prog 57 #[.pointer (some ⟨kb, 0, none⟩), .int .i64 n, .int .i64 x] w fun e w' => e = .returned (.int .i64 (if fitL l = true then 1 else 3)) ∧ ∃ a', GK w' base p ⟨k.rooms, k.lines.set n (putL l x), k.time⟩ kb a' ∧ KTouch (a.F kb) w w' ∧ ∀ g ∈ a'.F kb, g ∈ a.F kb ∨ w.heap.size ≤ g := by
  have hn := (List.getElem?_eq_some_iff.1 hl).1
  have hni : (n : Int) < (k.lines.length : Int) := by omega
  obtain ⟨b, u, cap, l', hl', hb, hu, hlv, hcap, hptr, hln⟩ := h.lines.at hn
  obtain rfl : l = l' := Option.some.inj (hl.symm.trans hl')
  have c4 := h.c4
  rw [hlv] at c4
  have HT : Hid (Calls Tryz.prog 82 #[.pointer (some ⟨b, 0, none⟩), .int .i64 x] w fun e w' => e = .returned (.tuple #[.bool (fitL l), .nilIface]) ∧ ∃ a', GK w' base p ⟨k.rooms, k.lines.set n (putL l x), k.time⟩ kb a' ∧ KTouch (a.F kb) w w' ∧ ∀ g ∈ a'.F kb, g ∈ a.F kb ∨ w.heap.size ≤ g) := by
    refine (dsend_l _ b l u x w hk hx hls hxs hln).mono ?_
    rintro e w' ⟨u', rfl, h3, h4⟩
    exact ⟨rfl, _, h.line hbw hb hu h4 h3⟩
  clear h hl hl' hb hu hlv hln hk hls hxs
  cases hfl : fitL l with
  | true =>
    rw [hfl] at HT
    go_enter Tryz.func57, Tryz.ntmps57
    go_wp2_with (go_at_call 82; refine HT.out.mono ?_; rintro e w1 ⟨rfl, hq⟩)
    go_ret
    exact ⟨rfl, hq⟩
  | false =>
    rw [hfl] at HT
    go_enter Tryz.func57, Tryz.ntmps57
    go_wp2_with (go_at_call 82; refine HT.out.mono ?_; rintro e w1 ⟨rfl, hq⟩)
    go_ret
    exact ⟨rfl, hq⟩
end Go.Proofs.YtfconbblnmbnpafGreatDoor
namespace Go.Proofs.YtfconbblnmbnpafGreatDoor
open Go.RowKit

set_option maxRecDepth 100000 in
set_option maxHeartbeats 8000000 in
theorem gput_ok (p : PD) (k : KD) (kb base : Nat) (a : GW) (r : Nat) (s' : St) (w : World) (hfm : Forms w) (h : GK w base p k kb a) (hp : plchk p = 0) (hk : KOk p k) (hr : r < p.code.length) (hs : ∀ c, p.code[r]? = some c → stOk s' c.length = true) :
    Calls Tryz.prog 39 #[.pointer (some ⟨kb, 0, none⟩), .int .i64 r, stA s'] w fun e w' => e = .returned .nilIface ∧ GK w' base p ⟨k.rooms.set r s', k.lines, k.time⟩ kb a ∧ KTouch [a.rb] w w' := by
  have hcz := (plchk_zero hp).2.2.2.2.2.2.1
  have hrk : k.rooms.length = p.code.length := hk.rl
  have hcd := h.src.here.1
  obtain ⟨ca, cc, hcv⟩ := hcd.form
  rw [hcv] at hcd
  obtain ⟨cb, co, ua, un, ug, c, rfl, hclt, hcy, hcc, rfl, hops⟩ := hcd.at hr
  have hrc : rchk c s' = 0 := by
    unfold rchk
    rw [if_pos (codesE_zero hcz c (List.mem_of_getElem? hcy)), if_pos (hs c hcy)]
  have HC : Hid (∀ W, Below w.heap.size w W → Calls Tryz.prog 52 #[.slice ua c.length ug, .agg #[.int .i64 s'.p, .int .i64 (s'.c 0), .int .i64 (s'.c 1), .int .i64 (s'.c 2), .int .i64 (s'.c 3), .int .i64 (s'.c 4), .int .i64 (s'.c 5), .bool s'.f]] W fun e w' => e = .returned .nilIface ∧ Below W.heap.size W w') := fun W hb => by
    have := rcheck_any c (.slice ua c.length ug) s' W (hfm.all hb) (hops.all hb)
    rw [hrc] at this
    exact this
  have hkb := h.lt.1
  have c0 := h.c0
  rw [hcv] at c0
  have c3 := h.c3
  rw [hrk] at c3
  have hri : (r : Int) < (p.code.length : Int) := by omega
  obtain ⟨s, hsr⟩ : ∃ s, k.rooms[r]? = some s := ⟨_, List.getElem?_eq_getElem (by omega)⟩
  have H : Hid (GK w base p k kb a) := h
  have HSR : Hid (k.rooms[r]? = some s) := hsr
  have hA : Below w.heap.size w (w.alloc (.cells #[.int .i64 s'.p, .int .i64 (s'.c 0), .int .i64 (s'.c 1), .int .i64 (s'.c 2), .int .i64 (s'.c 3), .int .i64 (s'.c 4), .int .i64 (s'.c 5), .bool s'.f] 47)) := (Below.refl _ _).alloc (Nat.le_refl _) _
  have hB : StB (w.alloc (.cells #[.int .i64 s'.p, .int .i64 (s'.c 0), .int .i64 (s'.c 1), .int .i64 (s'.c 2), .int .i64 (s'.c 3), .int .i64 (s'.c 4), .int .i64 (s'.c 5), .bool s'.f] 47)) w.heap.size s' := World.alloc_heap_new _ _
  have hnk := World.new_ne w ⟨kb, 3, none⟩ c3
  unfold stA
  clear h hs hcd hops hcy hrc hsr hcv hcz hk hfm
  go_enter Tryz.func39, Tryz.ntmps39
  go_upto_region 3 with (go_at_call 38; refine (kbelow_yes _ _ _ (by omega) hri).mono ?_; rintro e w1 ⟨rfl, hw1⟩; subst hw1)
  generalize w.alloc (.cells #[.int .i64 s'.p, .int .i64 (s'.c 0), .int .i64 (s'.c 1), .int .i64 (s'.c 2), .int .i64 (s'.c 3), .int .i64 (s'.c 4), .int .i64 (s'.c 5), .bool s'.f] 47) = W0 at hA hB ⊢
  have k0 : W0.cell? ⟨kb, 0, none⟩ = some (.slice (some ⟨cb, co, none⟩) p.code.length cc) := (hA.cell (p := ⟨kb, 0, none⟩) hkb).trans c0
  have k1 : W0.cell? ⟨cb, co + r, none⟩ = some (.slice ua c.length ug) := (hA.cell (p := ⟨cb, co + r, none⟩) hclt).trans hcc
  obtain ⟨n0, n1, n2, n3, n4, n5, n6, n7⟩ := hB.cs
  simp only [Nat.zero_add] at n1 n2 n3 n4 n5 n6 n7
  have bQ : Below w.heap.size w W0.drew := hA.drew
  go_cut [7] from 17 to 25 (fun s7 wx => s7 = .nilIface ∧ Below W0.heap.size W0 wx)
  case first =>
    go_region_with (go_at_call 52; refine (HC.out _ bQ).mono ?_; rintro e w1 ⟨rfl, b1⟩)
    all_goals
      go_wp2_with fail
      go_meet
      case rel => exact ⟨rfl, (Below.refl _ W0).drew.trans (b1.mono (Nat.le_refl _))⟩
  case rest =>
  obtain ⟨rfl, hb2⟩ := hcut
  have hb3 : Below w.heap.size w wc := hA.trans (hb2.mono hA.size)
  have hB3 : StB wc w.heap.size s' := (hb2.block _ (Array.getElem?_eq_some_iff.1 hB).1).trans hB
  clear n0 n1 n2 n3 n4 n5 n6 n7 k0 k1 hB hA hb2 bQ HC
  generalize wc = W3 at *
  obtain ⟨n0, n1, n2, n3, n4, n5, n6, n7⟩ := hB3.cs
  simp only [Nat.zero_add] at n1 n2 n3 n4 n5 n6 n7
  have D := H.out.all hb3
  have k3 := D.c3
  rw [hrk] at k3
  have hth : ∀ nq, (W3.drewN nq).there a.rb (r * 8) 8 := fun nq => there_st (D.rooms r s HSR.out) D.rf nq
  go_upto_region 6 with fail
  go_cut [29] from 29 to 35 (fun _ wx => ∃ nq, wx = setSt (W3.drewN nq) a.rb (r * 8) s')
  case first =>
    refine wp_region_quiet_last (by kernel_rfl) rfl (by decide +kernel) (by decide +kernel) ?_
    simp only [List.dropLast_cons_cons, List.dropLast_singleton]
    repeat (go_big_quiet_step (fail))
    refine wpQuiet_nil ?_
    intro _ hw'
    obtain ⟨nq, hw''⟩ := hw'
    subst hw''
    refine wp_store_mid _ _ _ rfl a.rb (r * 8) _ rfl rfl (hth nq) rfl (by simp [Value.oneCell']) ?_
    go_wp2_with fail
    go_meet
    case rel => exact ⟨nq, rfl⟩
  case rest =>
  obtain ⟨nq, hwx⟩ := hcut
  have bN : Below W3.heap.size W3 (W3.drewN nq) := below_dN (Below.refl _ _) nq
  have D9 := (D.all bN).set HSR.out s'
  have tk9 : KTouch [a.rb] W3 (setSt (W3.drewN nq) a.rb (r * 8) s') := (KTouch.of bN).trans (setSt_touch _ (by simp) _ _)
  rw [← hwx] at D9 tk9
  have tkw : KTouch [a.rb] w wc := (KTouch.of hb3).trans tk9
  clear hwx
  go_wp2
  go_ret
  exact ⟨rfl, D9, tkw⟩
end Go.Proofs.YtfconbblnmbnpafGreatDoor

/-
  GTake, WHeld, DHeld, GWire, WPut: joined into one text.
-/
import Derived.Test.YtajfgmlockjmhaiGreatDoorJt17
import Derived.Test.YtajfgmlockjmhaiGreatDoorJt18
import Derived.Test.YtajfgmlockjmhaiGreatDoorFWho
import Derived.Test.YtajfgmlockjmhaiGreatDoorJt2
import Derived.Deep.RegionHeld3
import Derived.Deep.CutRange
import Derived.Deep.RegionWith
import Derived.BigQuiet
import Derived.RangeFuncNested
namespace Go.Proofs.YtajfgmlockjmhaiGreatDoor
open Go.RowKit

set_option maxRecDepth 100000 in
set_option maxHeartbeats 4000000 in
theorem gturn_any (p : PD) (k : KD) (kb base : Nat) (a : GW) (w : World) (h : GK w base p k kb a) (hp : plchk p = 0) (hti : 0 ≤ k.time) :
    Calls Tryz.prog 45 #[.pointer (some ⟨kb, 0, none⟩)] w fun e w' => e = .returned (.int .i64 (hold p.spans (k.time % p.ticks))) ∧ Below w.heap.size w w' := by
  have hfz := (plchk_zero hp).2.2.1
  have hwr : whoR p.ticks p.spans k.time = (hold p.spans (k.time % p.ticks), 0) := by
    unfold whoR
    rw [if_pos hfz, if_neg (by omega)]
  have hsp := h.src.here.2
  obtain ⟨sa, sc, hsv⟩ := hsp.form
  rw [hsv] at hsp
  have HW : Hid (∀ W, Below w.heap.size w W → Calls Tryz.prog 80 #[.int .i64 p.ticks, .slice sa p.spans.length sc, .int .i64 k.time] W fun e w' => e = .returned (.tuple #[.int .i64 (hold p.spans (k.time % p.ticks)), .nilIface]) ∧ Below W.heap.size W w') := fun W hb => by
    have := who_any p.ticks p.spans (.slice sa p.spans.length sc) k.time W (hsp.all hb)
    rw [hwr] at this
    exact this
  have hkb := h.lt.1
  have c1 := h.c1
  have c2 := h.c2
  have c5 := h.c5
  rw [hsv] at c2
  have hcs : ∀ W, Below w.heap.size w W → W.cell? ⟨kb, 1, none⟩ = some (.int .i64 p.ticks) ∧ W.cell? ⟨kb, 2, none⟩ = some (.slice sa p.spans.length sc) ∧ W.cell? ⟨kb, 5, none⟩ = some (.int .i64 k.time) := fun W hb => ⟨(hb.cell (p := ⟨kb, 1, none⟩) hkb).trans c1, (hb.cell (p := ⟨kb, 2, none⟩) hkb).trans c2, (hb.cell (p := ⟨kb, 5, none⟩) hkb).trans c5⟩
  have bQ : Below w.heap.size w w.drew := (Below.refl _ _).drew
  clear h hsp hsv hwr hfz hp
  generalize hold p.spans (k.time % p.ticks) = r at HW ⊢
  go_enter Tryz.func45, Tryz.ntmps45
  go_upto_region 1 with fail
  go_region_held3 (fun w' => w'.cell? ⟨kb, 1, none⟩ = some (.int .i64 p.ticks) ∧ w'.cell? ⟨kb, 2, none⟩ = some (.slice sa p.spans.length sc) ∧ w'.cell? ⟨kb, 5, none⟩ = some (.int .i64 k.time))
    (first | exact ⟨c1, c2, c5⟩ | exact hcs _ bW | go_keep)
    (first
      | (go_at_call 80; refine (HW.out _ bQ).mono ?_; rintro e w1 ⟨rfl, b1⟩; have bW : Below w.heap.size w w1 := bQ.trans (b1.mono (by simp))))
  go_wp2
  go_ret
  exact ⟨rfl, bW⟩
/-- What an op may take. -/
def offG (k : KD) (o : O3) : Int × Bool := if o.1 = 9 then headL (lineAt k o) else (0, false)
set_option maxRecDepth 100000 in
set_option maxHeartbeats 4000000 in
theorem goff_no (kb : Nat) (x y z : Int) (w : World) (h9 : x ≠ 9) :
    Calls Tryz.prog 81 #[.pointer (some ⟨kb, 0, none⟩), .agg #[.int .i64 x, .int .i64 y, .int .i64 z]] w fun e w' => e = .returned (.tuple #[.int .i64 0, .bool false]) ∧ Below w.heap.size w w' := by
  have h9' : (x == 9) = false := by simpa using h9
  have h9'' : (x != 9) = true := by simpa using h9
  go_enter Tryz.func81, Tryz.ntmps81
  go_wp2
  go_ret2
  exact ⟨rfl, (Below.refl _ _).alloc (Nat.le_refl _) _⟩
set_option maxRecDepth 100000 in
set_option maxHeartbeats 4000000 in
theorem goff_yes (p : PD) (k : KD) (kb base : Nat) (a : GW) (y : Int) (n : Nat) (l : LnD) (w : World) (h : GK w base p k kb a) (hl : k.lines[n]? = some l) :
    Calls Tryz.prog 81 #[.pointer (some ⟨kb, 0, none⟩), .agg #[.int .i64 9, .int .i64 y, .int .i64 n]] w fun e w' => e = .returned (.tuple #[.int .i64 (headL l).1, .bool (headL l).2]) ∧ Below w.heap.size w w' := by
  have hn := (List.getElem?_eq_some_iff.1 hl).1
  have hni : (n : Int) < (k.lines.length : Int) := by omega
  obtain ⟨b, u, cap, l', hl', hb, hu, hlv, hcap, hptr, hln⟩ := h.lines.at hn
  obtain rfl : l = l' := Option.some.inj (hl.symm.trans hl')
  have c4 := h.c4
  rw [hlv] at c4
  have hnk := World.new_ne w ⟨kb, 4, none⟩ c4
  have hnl := World.new_ne w ⟨a.lr, n, none⟩ hptr
  have HP : Hid (∀ W, Below w.heap.size w W → Calls Tryz.prog 118 #[.pointer (some ⟨b, 0, none⟩)] W fun e w' => e = .returned (.tuple #[.int .i64 (headL l).1, .bool (headL l).2]) ∧ w' = W) := fun W hb => dpeek_l _ b l u W (hln.below hb)
  clear h hl hl' hb hu hlv hln
  go_enter Tryz.func81, Tryz.ntmps81
  go_upto_region 3 with fail
  have hA : Below w.heap.size w (w.alloc (.cells #[.int .i64 9, .int .i64 y, .int .i64 n] 28)).drew := ((Below.refl _ w).alloc (Nat.le_refl _) _).drew
  have d4 : (w.alloc (.cells #[.int .i64 9, .int .i64 y, .int .i64 n] 28)).drew.cell? ⟨kb, 4, none⟩ = some (.slice (some ⟨a.lr, 0, none⟩) k.lines.length cap) := (hA.cell (p := ⟨kb, 4, none⟩) (wlt c4)).trans c4
  have dl : (w.alloc (.cells #[.int .i64 9, .int .i64 y, .int .i64 n] 28)).drew.cell? ⟨a.lr, n, none⟩ = some (.pointer (some ⟨b, 0, none⟩)) := (hA.cell (p := ⟨a.lr, n, none⟩) (wlt hptr)).trans hptr
  have dn : (w.alloc (.cells #[.int .i64 9, .int .i64 y, .int .i64 n] 28)).drew.cell? ⟨w.heap.size, 2, none⟩ = some (.int .i64 n) := by simp
  go_region_held3 (fun w' => w'.cell? ⟨kb, 4, none⟩ = some (.slice (some ⟨a.lr, 0, none⟩) k.lines.length cap) ∧ w'.cell? ⟨w.heap.size, 2, none⟩ = some (.int .i64 n) ∧ w'.cell? ⟨a.lr, n, none⟩ = some (.pointer (some ⟨b, 0, none⟩)))
    (first | exact ⟨d4, dn, dl⟩ | go_keep)
    (first
      | (go_at_call 118; refine (HP.out _ hA).mono ?_; rintro e w1 ⟨rfl, hw1⟩; subst hw1))
  go_wp2
  go_ret2
  exact ⟨rfl, hA⟩
set_option maxRecDepth 100000 in
set_option maxHeartbeats 4000000 in
theorem gtake_none (p : PD) (k : KD) (kb base : Nat) (a : GW) (n : Nat) (l : LnD) (w : World) (h : GK w base p k kb a) (hl : k.lines[n]? = some l) (hh : (headL l).2 = false) :
    Calls Tryz.prog 83 #[.pointer (some ⟨kb, 0, none⟩), .int .i64 n] w fun e w' => e = .returned (.int .i64 3) ∧ w' = w := by
  have hn := (List.getElem?_eq_some_iff.1 hl).1
  have hni : (n : Int) < (k.lines.length : Int) := by omega
  obtain ⟨b, u, cap, l', hl', hb, hu, hlv, hcap, hptr, hln⟩ := h.lines.at hn
  obtain rfl : l = l' := Option.some.inj (hl.symm.trans hl')
  have c4 := h.c4
  rw [hlv] at c4
  have hx : l.xs = [] := by
    unfold headL at hh
    split at hh
    · assumption
    · cases hh
  rw [hx] at hln
  obtain ⟨ao, cu, rfl⟩ := Ln.none hln
  have HT : Hid (Calls Tryz.prog 123 #[.pointer (some ⟨b, 0, none⟩)] w fun e w' => e = .returned (.tuple #[.int .i64 0, .iface 93 (.int .i64 5)]) ∧ w' = w) := take_none b _ _ _ ao cu w hln.c
  clear h hl hl' hb hu hlv hln hx hh
  go_enter Tryz.func83, Tryz.ntmps83
  go_wp2_with (go_at_call 123; refine HT.out.mono ?_; rintro e w1 ⟨rfl, hw1⟩; subst hw1)
  go_ret
  exact ⟨rfl, rfl⟩
set_option maxRecDepth 100000 in
set_option maxHeartbeats 4000000 in
theorem gtake_some (p : PD) (k : KD) (kb base : Nat) (a : GW) (n : Nat) (l : LnD) (w : World) (h : GK w base p k kb a) (hbw : base ≤ w.heap.size) (hl : k.lines[n]? = some l) (hk : l.w.2.2.1 = 1 ∨ l.w.2.2.1 = 2) (hh : (headL l).2 = true) :
    Calls Tryz.prog 83 #[.pointer (some ⟨kb, 0, none⟩), .int .i64 n] w fun e w' => e = .returned (.int .i64 2) ∧ ∃ a', GK w' base p ⟨k.rooms, k.lines.set n (restL l), k.time⟩ kb a' ∧ KTouch (a.F kb) w w' ∧ ∀ g ∈ a'.F kb, g ∈ a.F kb ∨ w.heap.size ≤ g := by
  have hn := (List.getElem?_eq_some_iff.1 hl).1
  have hni : (n : Int) < (k.lines.length : Int) := by omega
  obtain ⟨b, u, cap, l', hl', hb, hu, hlv, hcap, hptr, hln⟩ := h.lines.at hn
  obtain rfl : l = l' := Option.some.inj (hl.symm.trans hl')
  have c4 := h.c4
  rw [hlv] at c4
  have HT : Hid (Calls Tryz.prog 123 #[.pointer (some ⟨b, 0, none⟩)] w fun e w' => e = .returned (.tuple #[.int .i64 (headL l).1, .nilIface]) ∧ ∃ a', GK w' base p ⟨k.rooms, k.lines.set n (restL l), k.time⟩ kb a' ∧ KTouch (a.F kb) w w' ∧ ∀ g ∈ a'.F kb, g ∈ a.F kb ∨ w.heap.size ≤ g) := by
    refine (dtake_l _ b l u w hk hh hln).mono ?_
    rintro e w' ⟨u', rfl, h3, h4⟩
    exact ⟨rfl, _, h.line hbw hb hu h4 h3⟩
  clear h hl hl' hb hu hlv hln hh hk
  go_enter Tryz.func83, Tryz.ntmps83
  go_wp2_with (go_at_call 123; refine HT.out.mono ?_; rintro e w1 ⟨rfl, hq⟩)
  go_ret
  exact ⟨rfl, hq⟩
set_option maxRecDepth 100000 in
set_option maxHeartbeats 4000000 in
theorem gsend_any (p : PD) (k : KD) (kb base : Nat) (a : GW) (n : Nat) (l : LnD) (x : Int) (w : World) (h : GK w base p k kb a) (hbw : base ≤ w.heap.size) (hl : k.lines[n]? = some l) (hk : (l.w.2.2.1 = 1 ∧ l.w.2.2.2 = 1) ∨ l.w.2.2.1 = 2) (hx : 0 ≤ x ∧ x ≤ 999) (hls : 0 ≤ l.ls ∧ l.ls < 1000000000) (hxs : l.xs.length ≤ 1000000) :
    Calls Tryz.prog 84 #[.pointer (some ⟨kb, 0, none⟩), .int .i64 n, .int .i64 x] w fun e w' => e = .returned (.int .i64 (if fitL l = true then 1 else 3)) ∧ ∃ a', GK w' base p ⟨k.rooms, k.lines.set n (putL l x), k.time⟩ kb a' ∧ KTouch (a.F kb) w w' ∧ ∀ g ∈ a'.F kb, g ∈ a.F kb ∨ w.heap.size ≤ g := by
  have hn := (List.getElem?_eq_some_iff.1 hl).1
  have hni : (n : Int) < (k.lines.length : Int) := by omega
  obtain ⟨b, u, cap, l', hl', hb, hu, hlv, hcap, hptr, hln⟩ := h.lines.at hn
  obtain rfl : l = l' := Option.some.inj (hl.symm.trans hl')
  have c4 := h.c4
  rw [hlv] at c4
  have HT : Hid (Calls Tryz.prog 124 #[.pointer (some ⟨b, 0, none⟩), .int .i64 x] w fun e w' => e = .returned (.tuple #[.bool (fitL l), .nilIface]) ∧ ∃ a', GK w' base p ⟨k.rooms, k.lines.set n (putL l x), k.time⟩ kb a' ∧ KTouch (a.F kb) w w' ∧ ∀ g ∈ a'.F kb, g ∈ a.F kb ∨ w.heap.size ≤ g) := by
    refine (dsend_l _ b l u x w hk hx hls hxs hln).mono ?_
    rintro e w' ⟨u', rfl, h3, h4⟩
    exact ⟨rfl, _, h.line hbw hb hu h4 h3⟩
  clear h hl hl' hb hu hlv hln hk hls hxs
  cases hfl : fitL l with
  | true =>
    rw [hfl] at HT
    go_enter Tryz.func84, Tryz.ntmps84
    go_wp2_with (go_at_call 124; refine HT.out.mono ?_; rintro e w1 ⟨rfl, hq⟩)
    go_ret
    exact ⟨rfl, hq⟩
  | false =>
    rw [hfl] at HT
    go_enter Tryz.func84, Tryz.ntmps84
    go_wp2_with (go_at_call 124; refine HT.out.mono ?_; rintro e w1 ⟨rfl, hq⟩)
    go_ret
    exact ⟨rfl, hq⟩
end Go.Proofs.YtajfgmlockjmhaiGreatDoor
namespace Go.Proofs.YtajfgmlockjmhaiGreatDoor
open Go.RowKit

theorem own_mono {w : World} {base B : Nat} {e : TypeId} {size : Nat} {v : Value} {n : Nat} {xs : List Value} (h : w.ownsRow base e size v n xs) (hB : B ≤ base) : w.ownsRow B e size v n xs := by
  refine ⟨h.1, ?_⟩
  rcases h.2 with h2 | ⟨g, cap, cur, rfl, h3, r⟩
  · exact Or.inl h2
  · exact Or.inr ⟨g, cap, cur, rfl, Nat.le_trans hB h3, r⟩
set_option maxRecDepth 100000 in
set_option maxHeartbeats 4000000 in
theorem held_any (base b : Nat) (kd dp : Int) (xs : List Int) (ls : Int) (v : Value) (w : World) (hx : xs.length ≤ 1000000) (hL : Ln w base b kd dp xs ls v) :
    Calls Tryz.prog 66 #[.pointer (some ⟨b, 0, none⟩)] w fun e w' => ∃ ao cap, e = .returned (.agg #[.slice ao xs.length cap, .int .i64 ls]) ∧ w'.ownsRow w.heap.size 3 1 (.slice ao xs.length cap) xs.length (ints xs) ∧ Below w.heap.size w w' := by
  have hlt := hL.c.lt
  have hA : Below w.heap.size w (w.alloc (.cells #[.slice none 0 0, .int .i64 0] 100)) := (Below.refl _ _).alloc (Nat.le_refl _) _
  have hcl : Calls Tryz.prog 102 #[v] (w.alloc (.cells #[.slice none 0 0, .int .i64 0] 100)).drew fun e w' => ∃ ao cap, e = .returned (.slice ao xs.length cap) ∧ w'.ownsRow (w.heap.size + 1) 3 1 (.slice ao xs.length cap) xs.length (ints xs) ∧ Below (w.heap.size + 1) (w.alloc (.cells #[.slice none 0 0, .int .i64 0] 100)) w' := by
    rcases hL.form with ⟨rfl, rfl⟩ | ⟨g, cap, rfl⟩
    · refine (clone_nil _).mono fun e w' ⟨he, hw⟩ => ?_
      subst hw
      exact ⟨_, _, he, World.ownsRow_nil _ _ _ _, (Below.refl _ _).drew⟩
    · have hcp := own_cap hL.row
      refine (clone_some g cap xs _ hx (fun i x h => ((hA.drew).cell (p := ⟨g, i, none⟩) hcp.2.1).trans (hcp.2.2.2.2.1 i x h))).mono fun e w' ⟨v', he, hr, hb⟩ => ?_
      have hr' : w'.ownsRow (w.heap.size + 1) 3 1 v' xs.length (ints xs) := by simpa using hr
      rcases row_form hr' with ⟨rfl, h0⟩ | ⟨g', cap', rfl⟩
      · exact ⟨none, 0, by rw [h0]; exact he, by rw [h0] at hr' ⊢; exact hr', (Below.refl _ _).drew.trans (by simpa using hb)⟩
      · exact ⟨_, _, he, hr', (Below.refl _ _).drew.trans (by simpa using hb)⟩
  obtain ⟨sa, sm, sc, rfl⟩ : ∃ sa sm sc, v = .slice sa sm sc := by
    rcases row_form hL.row with ⟨rfl, _⟩ | ⟨g, cap, rfl⟩
    · exact ⟨_, _, _, rfl⟩
    · exact ⟨_, _, _, rfl⟩
  obtain ⟨c0, c1, c2, c3, f2, f3⟩ := hL.c
  clear c0 c1 f2 f3 hL
  go_enter Tryz.func66, Tryz.ntmps66
  go_wp2
  go_region_with (go_at_call 102; refine hcl.mono ?_; rintro e w1 ⟨ao, cap, rfl, own1, b1⟩; have d3 : w1.cell? ⟨b, 3, none⟩ = some (.int .i64 ls) := (b1.cell (p := ⟨b, 3, none⟩) (show b < _ by omega)).trans ((hA.cell (p := ⟨b, 3, none⟩) hlt).trans c3); have e0 : w1.cell? ⟨w.heap.size, 0, none⟩ = some (.slice none 0 0) := (b1.cell (p := ⟨w.heap.size, 0, none⟩) (by simp)).trans (by simp); have e1 : w1.cell? ⟨w.heap.size, 1, none⟩ = some (.int .i64 0) := (b1.cell (p := ⟨w.heap.size, 1, none⟩) (by simp)).trans (by simp); have g0 : w1.frozen? ⟨w.heap.size, 0, none⟩ = false := (b1.frozen (p := ⟨w.heap.size, 0, none⟩) (by simp)).trans (by simp); have g1 : w1.frozen? ⟨w.heap.size, 1, none⟩ = false := (b1.frozen (p := ⟨w.heap.size, 1, none⟩) (by simp)).trans (by simp))
  all_goals (try go_wp2)
  all_goals
    refine bodyPost_ret (v := .agg #[.slice ao xs.length cap, .int .i64 ls]) (by simp [results, Tryz.results66, go_sem, e0, e1]) rfl ⟨_, _, rfl, own_mono (ownsRow_setCell_below (ownsRow_setCell_below own1 (a := ⟨w.heap.size, 0, none⟩) (Nat.lt_succ_self _) _) (a := ⟨w.heap.size, 1, none⟩) (Nat.lt_succ_self _) _) (Nat.le_succ _), ?_⟩
    exact ((hA.trans (b1.mono (Nat.le_succ _))).setCell (p := ⟨w.heap.size, 0, none⟩) (Nat.le_refl _) _).setCell (p := ⟨w.heap.size, 1, none⟩) (Nat.le_refl _) _
end Go.Proofs.YtajfgmlockjmhaiGreatDoor
namespace Go.Proofs.YtajfgmlockjmhaiGreatDoor
open Go.RowKit

theorem dheld_l (base b : Nat) (l : LnD) (u : Value) (w : World) (hx : l.xs.length ≤ 1000000) (hL : Ln w base b l.w.2.2.1 l.w.2.2.2 l.xs l.ls u) :
    Calls Tryz.prog 66 #[.pointer (some ⟨b, 0, none⟩)] w fun e w' => ∃ v, e = .returned (.agg #[v, .int .i64 l.ls]) ∧ Rd w' v l.xs ∧ (∀ g, v.ownBlock = some g → w.heap.size ≤ g ∧ g < w'.heap.size) ∧ Below w.heap.size w w' := by
  refine (held_any base b _ _ l.xs l.ls u w hx hL).mono ?_
  rintro e w' ⟨ao, cap, rfl, h1, h2⟩
  refine ⟨_, rfl, ?_, fun g hg => h1.lt g hg, h2⟩
  rcases h1.2 with ⟨h3, h4⟩ | ⟨g, cap', cur, h3, h4, h5, h6, h7, _⟩
  · rw [h3]
    exact Or.inl ⟨List.length_eq_zero_iff.1 h4, _, _, rfl⟩
  · injection h3 with e1 e2 e3
    subst e1
    subst e3
    refine Or.inr ⟨g, 0, cap, rfl, h6, h7, (Array.getElem?_eq_some_iff.1 h5).1, fun i x hx => ?_⟩
    have := h1.cells (g := g) rfl i (.int .i64 x) (ints_at hx)
    rw [Addr.add_lit] at this
    exact this
end Go.Proofs.YtajfgmlockjmhaiGreatDoor
namespace Go.Proofs.YtajfgmlockjmhaiGreatDoor
open Go.RowKit

set_option maxRecDepth 100000 in
set_option maxHeartbeats 4000000 in
theorem gwire_any (p : PD) (k : KD) (kb base : Nat) (a : GW) (i : Int) (w : World) (h : GK w base p k kb a) (hx : ∀ l ∈ k.lines, l.xs.length ≤ 1000000) :
    Calls Tryz.prog 41 #[.pointer (some ⟨kb, 0, none⟩), .int .i64 i] w fun e w' => ∃ u, e = .returned (.tuple #[.agg #[u, .int .i64 (lineK k i).ls], wErr (errB (noLine k i))]) ∧ Rd w' u (lineK k i).xs ∧ (∀ g, u.ownBlock = some g → w.heap.size ≤ g ∧ g < w'.heap.size) ∧ Below w.heap.size w w' := by
  have c4 := h.c4
  have hkb := h.lt.1
  have hnk := World.new_ne w ⟨kb, 4, none⟩ c4
  by_cases hr : 0 ≤ i ∧ i < (k.lines.length : Int)
  · obtain ⟨n, rfl⟩ : ∃ n : Nat, i = n := ⟨i.toNat, by omega⟩
    have hn : n < k.lines.length := by omega
    have hni : (n : Int) < (k.lines.length : Int) := by omega
    have hno : noLine k n = false := by
      unfold noLine
      rw [Bool.or_eq_false_iff]
      exact ⟨decide_eq_false (by omega), decide_eq_false (by omega)⟩
    obtain ⟨b, u, cap, l, hl, hb, hu, hlv, hcap, hptr, hln⟩ := h.lines.at hn
    have hlk : lineK k n = l := by
      unfold lineK
      rw [if_neg (by rw [hno]; decide), Int.toNat_natCast]
      simp [List.getD, hl]
    have hxl := hx l (List.mem_of_getElem? hl)
    rw [hlk, hno]
    rw [hlv] at c4
    have HH : Hid (∀ W, Below w.heap.size w W → Calls Tryz.prog 66 #[.pointer (some ⟨b, 0, none⟩)] W fun e w' => ∃ ao m cu, e = .returned (.agg #[.slice ao m cu, .int .i64 l.ls]) ∧ Rd w' (.slice ao m cu) l.xs ∧ (∀ g, (Value.slice ao m cu).ownBlock = some g → W.heap.size ≤ g ∧ g < w'.heap.size) ∧ Below W.heap.size W w') := fun W hb => by
      refine (dheld_l _ b l u W hxl (hln.below hb)).mono ?_
      rintro e w' ⟨v, rfl, h1, h2, h3⟩
      have hf : ∃ ao m cu, v = .slice ao m cu := by
        rcases h1 with ⟨_, ao, cu, h4⟩ | ⟨g, off, cu, h4, _⟩
        · exact ⟨_, _, _, h4⟩
        · exact ⟨_, _, _, h4⟩
      obtain ⟨ao, m, cu, rfl⟩ := hf
      exact ⟨ao, m, cu, rfl, h1, h2, h3⟩
    have hnl := World.new_ne w ⟨a.lr, n, none⟩ hptr
    have hA : Below w.heap.size w (w.alloc (.cells #[.slice none 0 0, .int .i64 0] 100)) := (Below.refl _ w).alloc (Nat.le_refl _) _
    have dl : (w.alloc (.cells #[.slice none 0 0, .int .i64 0] 100)).cell? ⟨a.lr, n, none⟩ = some (.pointer (some ⟨b, 0, none⟩)) := (hA.cell (p := ⟨a.lr, n, none⟩) (wlt hptr)).trans hptr
    have d4 : (w.alloc (.cells #[.slice none 0 0, .int .i64 0] 100)).cell? ⟨kb, 4, none⟩ = some (.slice (some ⟨a.lr, 0, none⟩) k.lines.length cap) := (hA.cell (p := ⟨kb, 4, none⟩) (wlt c4)).trans c4
    clear h hno hlk hr hx hln hl hu hb hlv
    go_enter Tryz.func41, Tryz.ntmps41
    go_upto_region 3 with (go_at_call 60; refine (kbelow_yes _ _ _ (by omega) hni).mono ?_; rintro e w1 ⟨rfl, hw1⟩; subst hw1)
    clear c4 hptr
    generalize hW : w.alloc (.cells #[.slice none 0 0, .int .i64 0] 100) = WA at hA dl d4 ⊢
    go_cut [4, 5] from 16 to 23 (fun s4 s5 wx => s4 = .pointer (some ⟨w.heap.size, 0, none⟩) ∧ s5 = .nilIface ∧ ∃ v, wx.cell? ⟨w.heap.size, 0, none⟩ = some v ∧ wx.cell? ⟨w.heap.size, 1, none⟩ = some (.int .i64 l.ls) ∧ Rd wx v l.xs ∧ (∀ g, v.ownBlock = some g → w.heap.size + 1 ≤ g ∧ g < wx.heap.size) ∧ Below w.heap.size w wx)
    case first =>
      go_wp2_with (go_at_call 66; refine (HH.out _ hA).mono ?_; rintro e w1 ⟨ao, m, cu, rfl, hrd, hown, hb1⟩; have z0 : w1.cell? ⟨w.heap.size, 0, none⟩ = some (.slice none 0 0) := (hb1.cell (p := ⟨w.heap.size, 0, none⟩) (by rw [← hW]; simp)).trans (by rw [← hW]; simp); have z1 : w1.cell? ⟨w.heap.size, 1, none⟩ = some (.int .i64 0) := (hb1.cell (p := ⟨w.heap.size, 1, none⟩) (by rw [← hW]; simp)).trans (by rw [← hW]; simp); have y0 : w1.frozen? ⟨w.heap.size, 0, none⟩ = false := (hb1.frozen (p := ⟨w.heap.size, 0, none⟩) (by rw [← hW]; simp)).trans (by rw [← hW]; simp); have y1 : w1.frozen? ⟨w.heap.size, 1, none⟩ = false := (hb1.frozen (p := ⟨w.heap.size, 1, none⟩) (by rw [← hW]; simp)).trans (by rw [← hW]; simp))
      go_meet
      case rel =>
        have hWs : WA.heap.size = w.heap.size + 1 := by rw [← hW]; simp
        rw [hWs] at hown
        refine ⟨rfl, rfl, .slice ao m cu, by simp [go_sem, z0], by simp [go_sem, z1], ?_, ?_, ?_⟩
        · refine hrd.block (fun g hg ho => ?_) (by simp)
          have := (hown g ho).1
          rw [Below.heap_setCell _ _ _ _ (show g ≠ w.heap.size by omega), Below.heap_setCell _ _ _ _ (show g ≠ w.heap.size by omega)]
        · simpa using hown
        · exact ((hA.trans (hb1.mono (by omega))).setCell (p := ⟨w.heap.size, 0, none⟩) (by simp) _).setCell (p := ⟨w.heap.size, 1, none⟩) (by simp) _
    case rest =>
      obtain ⟨rfl, rfl, v, z0, z1, hrd, hown, hbl⟩ := hcut
      go_wp2
      refine bodyPost_ret (v := .tuple #[.agg #[v, .int .i64 l.ls], wErr (errB false)]) ?_ rfl ⟨v, rfl, hrd, fun g hg => ⟨by have := (hown g hg).1; omega, (hown g hg).2⟩, hbl⟩
      simp [results, Tryz.results41, go_sem, z0, z1, wErr, errB]
  · have hno : noLine k i = true := by
      unfold noLine
      rw [Bool.or_eq_true]
      by_cases h0 : i < 0
      · exact Or.inl (decide_eq_true h0)
      · exact Or.inr (decide_eq_true (by omega))
    have hlk : lineK k i = LnD.none := by
      unfold lineK
      rw [if_pos hno]
    have hform : ∃ ao cap, a.lv = .slice ao k.lines.length cap := by
      rcases h.lines.lv with ⟨h1, h2⟩ | ⟨cap, h1, _⟩
      · exact ⟨none, 0, by rw [h2, h1]; rfl⟩
      · exact ⟨_, cap, h1⟩
    obtain ⟨ao, cap, hlv⟩ := hform
    rw [hlk, hno]
    rw [hlv] at c4
    clear h hno hlk hlv hx
    go_enter Tryz.func41, Tryz.ntmps41
    go_wp2_with (go_at_call 60; refine (kbelow_no _ _ _ hr).mono ?_; rintro e w1 ⟨rfl, hw1⟩; subst hw1)
    refine bodyPost_ret (v := .tuple #[.agg #[.slice none 0 0, .int .i64 LnD.none.ls], wErr (errB true)]) ?_ rfl ⟨.slice none 0 0, rfl, Or.inl ⟨rfl, _, _, rfl⟩, fun g hg => (by simp [Value.ownBlock] at hg), ?_⟩
    · simp [results, Tryz.results41, go_sem, LnD.none, wErr, errB]
    · repeat' first | exact Below.refl _ _ | refine Below.drew ?_ | refine Below.alloc ?_ (by simp <;> omega) _ | refine Below.setCell ?_ (by simp <;> omega) _
end Go.Proofs.YtajfgmlockjmhaiGreatDoor
namespace Go.Proofs.YtajfgmlockjmhaiGreatDoor
open Go.RowKit

/-- What may not be so on a line. -/
def wputB (kd dp : Int) (ys : List Int) (nl : Int) : Bool := decide (dp < (ys.length : Int)) || ys.any woutB || decide (nl < 0) || (decide (0 < nl) && decide (kd = 1))
theorem wputB_no {kd dp : Int} {ys : List Int} {nl : Int} (h : wputB kd dp ys nl = false) : (ys.length : Int) ≤ dp ∧ ys.any woutB = false ∧ 0 ≤ nl ∧ (kd = 1 → nl = 0) := by
  unfold wputB at h
  rw [Bool.or_eq_false_iff, Bool.or_eq_false_iff, Bool.or_eq_false_iff, Bool.and_eq_false_iff] at h
  obtain ⟨⟨⟨h1, h2⟩, h3⟩, h4⟩ := h
  rw [decide_eq_false_iff_not] at h1 h3
  refine ⟨by omega, h2, by omega, fun hk => ?_⟩
  rcases h4 with h4 | h4
  · rw [decide_eq_false_iff_not] at h4
    omega
  · rw [decide_eq_false_iff_not] at h4
    exact absurd hk h4

/-- A line written: its numbers, and how many were lost. -/
theorem ln_put {base b : Nat} {kd dp ls nl : Int} {xs ys : List Int} {v v' : Value} {w W : World} (hL : Ln w base b kd dp xs ls v) (hb : Below w.heap.size w W) (own : W.ownsRow w.heap.size 3 1 v' ys.length (ints ys)) :
    Ln ((W.setCell ⟨b, 2, none⟩ v').setCell ⟨b, 3, none⟩ (.int .i64 nl)) base b kd dp ys nl v' ∧ Touch w ((W.setCell ⟨b, 2, none⟩ v').setCell ⟨b, 3, none⟩ (.int .i64 nl)) b v v' := by
  have h1 := hL.below hb
  refine ⟨⟨(h1.c.items v').lost nl, ownsRow_setCell_below (ownsRow_setCell_below (own_mono own hL.le) (a := ⟨b, 2, none⟩) hL.lt _) (a := ⟨b, 3, none⟩) hL.lt _, hL.lt, by have := h1.le; simpa using this⟩, ?_⟩
  have ht : Touch w W b v v' := ⟨hb.os, hb.tape, hb.output, hb.size, fun k hk _ _ => hb.block k hk, fun k hk => Or.inr (own.lt k hk).1⟩
  exact (ht.set 2 _).set 3 _
set_option maxRecDepth 100000 in
set_option maxHeartbeats 4000000 in
theorem wput_ok (base b : Nat) (kd dp : Int) (xs : List Int) (ls : Int) (v : Value) (ao : Option Addr) (cap : Nat) (ys : List Int) (nl : Int) (w : World) (hL : Ln w base b kd dp xs ls v) (hr : Rd w (.slice ao ys.length cap) ys) (hy : ys.length ≤ 1000000) (hp : wputB kd dp ys nl = false) :
    Calls Tryz.prog 116 #[.pointer (some ⟨b, 0, none⟩), .agg #[.slice ao ys.length cap, .int .i64 nl]] w fun e w' => ∃ v', e = .returned .nilIface ∧ Ln w' base b kd dp ys nl v' ∧ Touch w w' b v v' := by
  obtain ⟨g1, g2, g3, g4⟩ := wputB_no hp
  clear hp
  have HC : Hid (∀ W, Below w.heap.size w W → Calls Tryz.prog 143 #[.slice ao ys.length cap, .func (.func 153) #[] #[]] W fun e w' => e = .returned (.bool false) ∧ w' = W) := fun W hb => by
    have := wcon_any (.slice ao ys.length cap) ys W (by omega) (hr.all hb)
    rwa [g2] at this
  have HR : Hid (∀ W, Below w.heap.size w W → Calls Tryz.prog 102 #[.slice ao ys.length cap] W fun e w' => ∃ ao' cap', e = .returned (.slice ao' ys.length cap') ∧ w'.ownsRow W.heap.size 3 1 (.slice ao' ys.length cap') ys.length (ints ys) ∧ Below W.heap.size W w') := fun W hb => clone_rd _ ys W hy (hr.all hb)
  have HL : Hid (Ln w base b kd dp xs ls v) := hL
  have hlt := hL.c.lt
  obtain ⟨c0, c1, c2, c3, f2, f3⟩ := hL.c
  have h1 : decide (dp < (ys.length : Int)) = false := decide_eq_false (by omega)
  have h3 : decide (nl < 0) = false := decide_eq_false (by omega)
  have HK : Hid (kd = 1 → nl = 0) := g4
  have HN : Hid (0 ≤ nl) := g3
  clear hL hr g1 g2 g3 g4
  go_enter Tryz.func116, Tryz.ntmps116
  go_upto_region 1 with fail
  have hA : Below w.heap.size w (w.alloc (.cells #[.slice ao ys.length cap, .int .i64 nl] 100)) := (Below.refl _ _).alloc (Nat.le_refl _) _
  have hs : (w.alloc (.cells #[.slice ao ys.length cap, .int .i64 nl] 100)).heap.size = w.heap.size + 1 := by simp
  have d0 : (w.alloc (.cells #[.slice ao ys.length cap, .int .i64 nl] 100)).cell? ⟨w.heap.size, 0, none⟩ = some (.slice ao ys.length cap) := by simp
  have d1 : (w.alloc (.cells #[.slice ao ys.length cap, .int .i64 nl] 100)).cell? ⟨w.heap.size, 1, none⟩ = some (.int .i64 nl) := by simp
  generalize w.alloc (.cells #[.slice ao ys.length cap, .int .i64 nl] 100) = W0 at hA hs d0 d1 ⊢
  have e0 := (hA.cell (p := ⟨b, 0, none⟩) hlt).trans c0
  have e1 := (hA.cell (p := ⟨b, 1, none⟩) hlt).trans c1
  go_quiet ((go_at_call 143; exact Calls.quiet_of_same (HC.out _ (below_dN hA _))))
  have hQ : Below w.heap.size w (W0.drewN nq) := below_dN hA nq
  have hQ1 : Below W0.heap.size W0 (W0.drewN nq) := below_dN (Below.refl _ _) nq
  have HB : Hid (∀ W, Below W0.heap.size W0 W → W.cell? ⟨w.heap.size, 0, none⟩ = some (.slice ao ys.length cap) ∧ W.cell? ⟨w.heap.size, 1, none⟩ = some (.int .i64 nl)) := fun W hb => ⟨(hb.cell (p := ⟨w.heap.size, 0, none⟩) (show w.heap.size < _ by omega)).trans d0, (hb.cell (p := ⟨w.heap.size, 1, none⟩) (show w.heap.size < _ by omega)).trans d1⟩
  obtain ⟨j0, j1⟩ := HB.out _ hQ1
  have k0 := (hQ.cell (p := ⟨b, 0, none⟩) hlt).trans c0
  have k1 := (hQ.cell (p := ⟨b, 2, none⟩) hlt).trans c2
  have k2 := (hQ.cell (p := ⟨b, 3, none⟩) hlt).trans c3
  have k3 := (hQ.frozen (p := ⟨b, 2, none⟩) hlt).trans f2
  have k4 := (hQ.frozen (p := ⟨b, 3, none⟩) hlt).trans f3
  have hqs : w.heap.size + 1 ≤ (W0.drewN nq).heap.size := by have := hQ1.size; omega
  clear d0 d1 e0 e1 c0 c1 c2 c3 f2 f3 hA hs HB hQ1
  generalize W0.drewN nq = W1 at *
  go_upto_region 3 with fail
  go_cut [33] from 19 to 33 (fun s wx => s = .bool false ∧ wx = W1)
  case first =>
    by_cases h0 : 0 < nl
    · have hk : ¬ kd = 1 := fun e => by have := HK.out e; omega
      go_wp2_with fail
      go_meet
      case rel => exact ⟨by simp [hk], rfl⟩
    · have h0' : decide (0 < nl) = false := decide_eq_false h0
      go_wp2_with fail
      go_meet
      case rel => exact ⟨rfl, rfl⟩
  case rest =>
  obtain ⟨rfl, hwc⟩ := hcut
  subst wc
  go_upto_region 5 with fail
  have HS : Hid (∀ W, Below W1.heap.size W1 W → W.cell? ⟨w.heap.size, 0, none⟩ = some (.slice ao ys.length cap) ∧ W.cell? ⟨w.heap.size, 1, none⟩ = some (.int .i64 nl)) := fun W hb => ⟨(hb.cell (p := ⟨w.heap.size, 0, none⟩) (show w.heap.size < _ by omega)).trans j0, (hb.cell (p := ⟨w.heap.size, 1, none⟩) (show w.heap.size < _ by omega)).trans j1⟩
  have S0 := HS.out W1 (Below.refl _ _)
  have hne : b ≠ w.heap.size := by omega
  go_cut [35] from 35 to 45 (fun _ wx => ∃ v', Ln wx base b kd dp ys nl v' ∧ Touch w wx b v v')
  case first =>
    clear j0 j1
    go_region_held3 (fun W => W.cell? ⟨w.heap.size, 0, none⟩ = some (.slice ao ys.length cap) ∧ W.cell? ⟨w.heap.size, 1, none⟩ = some (.int .i64 nl))
      (first | exact S0 | exact S1 | go_keep)
      (first
        | (go_at_call 102; refine (HR.out _ hQ.drew).mono ?_; rintro e w2 ⟨ao', cap', rfl, own, b2⟩; have bq : Below W1.heap.size W1 w2 := (Below.refl _ _).drew.trans b2; have S1 := HS.out w2 bq; have m3 := (bq.frozen (p := ⟨b, 2, none⟩) (show b < _ by omega)).trans k3; have m4 := (bq.frozen (p := ⟨b, 3, none⟩) (show b < _ by omega)).trans k4; have m1 := (bq.cell (p := ⟨b, 2, none⟩) (show b < _ by omega)).trans k1; have m2 := (bq.cell (p := ⟨b, 3, none⟩) (show b < _ by omega)).trans k2))
    have hp := ln_put (nl := nl) HL.out (hQ.trans (bq.mono hQ.size)) (own_mono own (by simp; omega))
    go_wp2_with fail
    go_meet
    case rel => exact ⟨_, hp.1, hp.2⟩
  case rest =>
  obtain ⟨v', h1, h2⟩ := hcut
  go_wp2_with fail
  go_ret
  exact ⟨v', rfl, h1, h2⟩
set_option maxRecDepth 100000 in
set_option maxHeartbeats 4000000 in
theorem wput_no (b : Nat) (kd dp ls : Int) (v : Value) (ao : Option Addr) (cap : Nat) (ys : List Int) (nl : Int) (w : World) (hL : LnC w b kd dp ls v) (hr : Rd w (.slice ao ys.length cap) ys) (hy : ys.length ≤ 2000000000000) (hp : wputB kd dp ys nl = true) :
    Calls Tryz.prog 116 #[.pointer (some ⟨b, 0, none⟩), .agg #[.slice ao ys.length cap, .int .i64 nl]] w fun e w' => e = .returned (.iface 93 (.int .i64 1)) ∧ Below w.heap.size w w' := by
  have HC : Hid (∀ W, Below w.heap.size w W → Calls Tryz.prog 143 #[.slice ao ys.length cap, .func (.func 153) #[] #[]] W fun e w' => e = .returned (.bool (ys.any woutB)) ∧ w' = W) := fun W hb => wcon_any (.slice ao ys.length cap) ys W hy (hr.all hb)
  have hlt := hL.lt
  obtain ⟨c0, c1, c2, c3, f2, f3⟩ := hL
  clear hr c2 c3 f2 f3
  go_enter Tryz.func116, Tryz.ntmps116
  go_upto_region 1 with fail
  have hA : Below w.heap.size w (w.alloc (.cells #[.slice ao ys.length cap, .int .i64 nl] 100)) := (Below.refl _ _).alloc (Nat.le_refl _) _
  have hs : (w.alloc (.cells #[.slice ao ys.length cap, .int .i64 nl] 100)).heap.size = w.heap.size + 1 := by simp
  have d0 : (w.alloc (.cells #[.slice ao ys.length cap, .int .i64 nl] 100)).cell? ⟨w.heap.size, 0, none⟩ = some (.slice ao ys.length cap) := by simp
  have d1 : (w.alloc (.cells #[.slice ao ys.length cap, .int .i64 nl] 100)).cell? ⟨w.heap.size, 1, none⟩ = some (.int .i64 nl) := by simp
  generalize w.alloc (.cells #[.slice ao ys.length cap, .int .i64 nl] 100) = W0 at hA hs d0 d1 ⊢
  have e0 := (hA.cell (p := ⟨b, 0, none⟩) hlt).trans c0
  have e1 := (hA.cell (p := ⟨b, 1, none⟩) hlt).trans c1
  have HP : Hid (wputB kd dp ys nl = true) := hp
  clear hp c0 c1
  by_cases h1 : dp < (ys.length : Int)
  · go_quiet (fail)
    have hQ : Below w.heap.size w (W0.drewN nq) := below_dN hA nq
    go_wp2_with fail
    go_ret
    exact ⟨rfl, hQ⟩
  have h1' : decide (dp < (ys.length : Int)) = false := decide_eq_false h1
  obtain ⟨q, hq⟩ : ∃ q, q = ys.any woutB := ⟨_, rfl⟩
  rw [← hq] at HC
  cases q with
  | true =>
    clear hq
    go_quiet ((go_at_call 143; exact Calls.quiet_of_same (HC.out _ (below_dN hA _))))
    have hQ : Below w.heap.size w (W0.drewN nq) := below_dN hA nq
    go_wp2_with fail
    go_ret
    exact ⟨rfl, hQ⟩
  | false =>
    have HQ : Hid (nl < 0 ∨ (0 < nl ∧ kd = 1)) := by
      show nl < 0 ∨ (0 < nl ∧ kd = 1)
      have h := HP.out
      unfold wputB at h
      rw [h1', ← hq] at h
      simpa using h
    clear hq
    go_quiet ((go_at_call 143; exact Calls.quiet_of_same (HC.out _ (below_dN hA _))))
    have hQ : Below w.heap.size w (W0.drewN nq) := below_dN hA nq
    by_cases h3 : nl < 0
    · go_wp2_with fail
      go_ret
      exact ⟨rfl, hQ⟩
    · have h3' : decide (nl < 0) = false := decide_eq_false h3
      obtain ⟨h4, h5⟩ : 0 < nl ∧ kd = 1 := by rcases HQ.out with h | h; exact absurd h h3; exact h
      have h6 : (kd == 1) = true := by rw [h5]; rfl
      clear h5
      go_wp2_with fail
      go_ret
      exact ⟨rfl, hQ⟩
end Go.Proofs.YtajfgmlockjmhaiGreatDoor

/-
  GTake, GPut, CrHelp: joined into one text.
-/
import Derived.Test.YtajfgmlockjmhafDoorJa8
import Derived.Test.YtajfgmlockjmhafDoorJa9
import Derived.Test.YtajfgmlockjmhafDoorFWho
import Derived.Test.YtajfgmlockjmhafDoorJa2
import Derived.Deep.RegionHeld3
import Derived.Deep.CutRange
import Derived.Deep.RegionWith
import Derived.BigQuiet
import Derived.RangeFuncNested
import Derived.Test.YtajfgmlockjmhafDoorJa5
import Derived.Test.YtajfgmlockjmhafDoorJa1
namespace Go.Proofs.YtajfgmlockjmhafDoor
open Go.RowKit

set_option maxRecDepth 100000 in
set_option maxHeartbeats 4000000 in
theorem gturn_any (p : PD) (k : KD) (kb base : Nat) (a : GW) (w : World) (h : GK w base p k kb a) (hp : plchk p = 0) (hti : 0 ≤ k.time) :
    Calls Tryd.prog 40 #[.pointer (some ⟨kb, 0, none⟩)] w fun e w' => e = .returned (.int .i64 (hold p.spans (k.time % p.ticks))) ∧ Below w.heap.size w w' := by
  have hfz := (plchk_zero hp).2.2.1
  have hwr : whoR p.ticks p.spans k.time = (hold p.spans (k.time % p.ticks), 0) := by
    unfold whoR
    rw [if_pos hfz, if_neg (by omega)]
  have hsp := h.src.here.2
  obtain ⟨sa, sc, hsv⟩ := hsp.form
  rw [hsv] at hsp
  have HW : Hid (∀ W, Below w.heap.size w W → Calls Tryd.prog 64 #[.int .i64 p.ticks, .slice sa p.spans.length sc, .int .i64 k.time] W fun e w' => e = .returned (.tuple #[.int .i64 (hold p.spans (k.time % p.ticks)), .nilIface]) ∧ Below W.heap.size W w') := fun W hb => by
    have := who_any p.ticks p.spans (.slice sa p.spans.length sc) k.time W (hsp.all hb)
    rw [hwr] at this
    exact this
  have hkb := h.lt.1
  have c1 := h.c1
  have c2 := h.c2
  have c5 := h.c5
  rw [hsv] at c2
  have hcs : ∀ W, Below w.heap.size w W → W.cell? ⟨kb, 1, none⟩ = some (.int .i64 p.ticks) ∧ W.cell? ⟨kb, 2, none⟩ = some (.slice sa p.spans.length sc) ∧ W.cell? ⟨kb, 5, none⟩ = some (.int .i64 k.time) := fun W hb => ⟨(hb.cell (p := ⟨kb, 1, none⟩) hkb).trans c1, (hb.cell (p := ⟨kb, 2, none⟩) hkb).trans c2, (hb.cell (p := ⟨kb, 5, none⟩) hkb).trans c5⟩
  have bQ : Below w.heap.size w w.drew := (Below.refl _ _).drew
  clear h hsp hsv hwr hfz hp
  generalize hold p.spans (k.time % p.ticks) = r at HW ⊢
  go_enter Tryd.func40, Tryd.ntmps40
  go_upto_region 1 with fail
  go_region_held3 (fun w' => w'.cell? ⟨kb, 1, none⟩ = some (.int .i64 p.ticks) ∧ w'.cell? ⟨kb, 2, none⟩ = some (.slice sa p.spans.length sc) ∧ w'.cell? ⟨kb, 5, none⟩ = some (.int .i64 k.time))
    (first | exact ⟨c1, c2, c5⟩ | exact hcs _ bW | go_keep)
    (first
      | (go_at_call 64; refine (HW.out _ bQ).mono ?_; rintro e w1 ⟨rfl, b1⟩; have bW : Below w.heap.size w w1 := bQ.trans (b1.mono (by simp))))
  go_wp2
  go_ret
  exact ⟨rfl, bW⟩
/-- What an op may take. -/
def offG (k : KD) (o : O3) : Int × Bool := if o.1 = 9 then headL (lineAt k o) else (0, false)
set_option maxRecDepth 100000 in
set_option maxHeartbeats 4000000 in
theorem goff_no (kb : Nat) (x y z : Int) (w : World) (h9 : x ≠ 9) :
    Calls Tryd.prog 70 #[.pointer (some ⟨kb, 0, none⟩), .agg #[.int .i64 x, .int .i64 y, .int .i64 z]] w fun e w' => e = .returned (.tuple #[.int .i64 0, .bool false]) ∧ Below w.heap.size w w' := by
  have h9' : (x == 9) = false := by simpa using h9
  have h9'' : (x != 9) = true := by simpa using h9
  go_enter Tryd.func70, Tryd.ntmps70
  go_wp2
  go_ret2
  exact ⟨rfl, (Below.refl _ _).alloc (Nat.le_refl _) _⟩
set_option maxRecDepth 100000 in
set_option maxHeartbeats 4000000 in
theorem goff_yes (p : PD) (k : KD) (kb base : Nat) (a : GW) (y : Int) (n : Nat) (l : LnD) (w : World) (h : GK w base p k kb a) (hl : k.lines[n]? = some l) :
    Calls Tryd.prog 70 #[.pointer (some ⟨kb, 0, none⟩), .agg #[.int .i64 9, .int .i64 y, .int .i64 n]] w fun e w' => e = .returned (.tuple #[.int .i64 (headL l).1, .bool (headL l).2]) ∧ Below w.heap.size w w' := by
  have hn := (List.getElem?_eq_some_iff.1 hl).1
  have hni : (n : Int) < (k.lines.length : Int) := by omega
  obtain ⟨b, u, cap, l', hl', hb, hu, hlv, hcap, hptr, hln⟩ := h.lines.at hn
  obtain rfl : l = l' := Option.some.inj (hl.symm.trans hl')
  have c4 := h.c4
  rw [hlv] at c4
  have hnk := World.new_ne w ⟨kb, 4, none⟩ c4
  have hnl := World.new_ne w ⟨a.lr, n, none⟩ hptr
  have HP : Hid (∀ W, Below w.heap.size w W → Calls Tryd.prog 91 #[.pointer (some ⟨b, 0, none⟩)] W fun e w' => e = .returned (.tuple #[.int .i64 (headL l).1, .bool (headL l).2]) ∧ w' = W) := fun W hb => dpeek_l _ b l u W (hln.below hb)
  clear h hl hl' hb hu hlv hln
  go_enter Tryd.func70, Tryd.ntmps70
  go_upto_region 3 with fail
  have hA : Below w.heap.size w (w.alloc (.cells #[.int .i64 9, .int .i64 y, .int .i64 n] 57)).drew := ((Below.refl _ w).alloc (Nat.le_refl _) _).drew
  have d4 : (w.alloc (.cells #[.int .i64 9, .int .i64 y, .int .i64 n] 57)).drew.cell? ⟨kb, 4, none⟩ = some (.slice (some ⟨a.lr, 0, none⟩) k.lines.length cap) := (hA.cell (p := ⟨kb, 4, none⟩) (wlt c4)).trans c4
  have dl : (w.alloc (.cells #[.int .i64 9, .int .i64 y, .int .i64 n] 57)).drew.cell? ⟨a.lr, n, none⟩ = some (.pointer (some ⟨b, 0, none⟩)) := (hA.cell (p := ⟨a.lr, n, none⟩) (wlt hptr)).trans hptr
  have dn : (w.alloc (.cells #[.int .i64 9, .int .i64 y, .int .i64 n] 57)).drew.cell? ⟨w.heap.size, 2, none⟩ = some (.int .i64 n) := by simp
  go_region_held3 (fun w' => w'.cell? ⟨kb, 4, none⟩ = some (.slice (some ⟨a.lr, 0, none⟩) k.lines.length cap) ∧ w'.cell? ⟨w.heap.size, 2, none⟩ = some (.int .i64 n) ∧ w'.cell? ⟨a.lr, n, none⟩ = some (.pointer (some ⟨b, 0, none⟩)))
    (first | exact ⟨d4, dn, dl⟩ | go_keep)
    (first
      | (go_at_call 91; refine (HP.out _ hA).mono ?_; rintro e w1 ⟨rfl, hw1⟩; subst hw1))
  go_wp2
  go_ret2
  exact ⟨rfl, hA⟩
set_option maxRecDepth 100000 in
set_option maxHeartbeats 4000000 in
theorem gtake_none (p : PD) (k : KD) (kb base : Nat) (a : GW) (n : Nat) (l : LnD) (w : World) (h : GK w base p k kb a) (hl : k.lines[n]? = some l) (hh : (headL l).2 = false) :
    Calls Tryd.prog 71 #[.pointer (some ⟨kb, 0, none⟩), .int .i64 n] w fun e w' => e = .returned (.int .i64 3) ∧ w' = w := by
  have hn := (List.getElem?_eq_some_iff.1 hl).1
  have hni : (n : Int) < (k.lines.length : Int) := by omega
  obtain ⟨b, u, cap, l', hl', hb, hu, hlv, hcap, hptr, hln⟩ := h.lines.at hn
  obtain rfl : l = l' := Option.some.inj (hl.symm.trans hl')
  have c4 := h.c4
  rw [hlv] at c4
  have hx : l.xs = [] := by
    unfold headL at hh
    split at hh
    · assumption
    · cases hh
  rw [hx] at hln
  obtain ⟨ao, cu, rfl⟩ := Ln.none hln
  have HT : Hid (Calls Tryd.prog 92 #[.pointer (some ⟨b, 0, none⟩)] w fun e w' => e = .returned (.tuple #[.int .i64 0, .iface 87 (.int .i64 5)]) ∧ w' = w) := take_none b _ _ _ ao cu w hln.c
  clear h hl hl' hb hu hlv hln hx hh
  go_enter Tryd.func71, Tryd.ntmps71
  go_wp2_with (go_at_call 92; refine HT.out.mono ?_; rintro e w1 ⟨rfl, hw1⟩; subst hw1)
  go_ret
  exact ⟨rfl, rfl⟩
set_option maxRecDepth 100000 in
set_option maxHeartbeats 4000000 in
theorem gtake_some (p : PD) (k : KD) (kb base : Nat) (a : GW) (n : Nat) (l : LnD) (w : World) (h : GK w base p k kb a) (hbw : base ≤ w.heap.size) (hl : k.lines[n]? = some l) (hk : l.w.2.2.1 = 1 ∨ l.w.2.2.1 = 2) (hh : (headL l).2 = true) :
    Calls Tryd.prog 71 #[.pointer (some ⟨kb, 0, none⟩), .int .i64 n] w fun e w' => e = .returned (.int .i64 2) ∧ ∃ a', GK w' base p ⟨k.rooms, k.lines.set n (restL l), k.time⟩ kb a' ∧ KTouch (a.F kb) w w' ∧ ∀ g ∈ a'.F kb, g ∈ a.F kb ∨ w.heap.size ≤ g := by
  have hn := (List.getElem?_eq_some_iff.1 hl).1
  have hni : (n : Int) < (k.lines.length : Int) := by omega
  obtain ⟨b, u, cap, l', hl', hb, hu, hlv, hcap, hptr, hln⟩ := h.lines.at hn
  obtain rfl : l = l' := Option.some.inj (hl.symm.trans hl')
  have c4 := h.c4
  rw [hlv] at c4
  have HT : Hid (Calls Tryd.prog 92 #[.pointer (some ⟨b, 0, none⟩)] w fun e w' => e = .returned (.tuple #[.int .i64 (headL l).1, .nilIface]) ∧ ∃ a', GK w' base p ⟨k.rooms, k.lines.set n (restL l), k.time⟩ kb a' ∧ KTouch (a.F kb) w w' ∧ ∀ g ∈ a'.F kb, g ∈ a.F kb ∨ w.heap.size ≤ g) := by
    refine (dtake_l _ b l u w hk hh hln).mono ?_
    rintro e w' ⟨u', rfl, h3, h4⟩
    exact ⟨rfl, _, h.line hbw hb hu h4 h3⟩
  clear h hl hl' hb hu hlv hln hh hk
  go_enter Tryd.func71, Tryd.ntmps71
  go_wp2_with (go_at_call 92; refine HT.out.mono ?_; rintro e w1 ⟨rfl, hq⟩)
  go_ret
  exact ⟨rfl, hq⟩
set_option maxRecDepth 100000 in
set_option maxHeartbeats 4000000 in
theorem gsend_any (p : PD) (k : KD) (kb base : Nat) (a : GW) (n : Nat) (l : LnD) (x : Int) (w : World) (h : GK w base p k kb a) (hbw : base ≤ w.heap.size) (hl : k.lines[n]? = some l) (hk : (l.w.2.2.1 = 1 ∧ l.w.2.2.2 = 1) ∨ l.w.2.2.1 = 2) (hx : 0 ≤ x ∧ x ≤ 999) (hls : 0 ≤ l.ls ∧ l.ls < 1000000000) (hxs : l.xs.length ≤ 1000000) :
    Calls Tryd.prog 72 #[.pointer (some ⟨kb, 0, none⟩), .int .i64 n, .int .i64 x] w fun e w' => e = .returned (.int .i64 (if fitL l = true then 1 else 3)) ∧ ∃ a', GK w' base p ⟨k.rooms, k.lines.set n (putL l x), k.time⟩ kb a' ∧ KTouch (a.F kb) w w' ∧ ∀ g ∈ a'.F kb, g ∈ a.F kb ∨ w.heap.size ≤ g := by
  have hn := (List.getElem?_eq_some_iff.1 hl).1
  have hni : (n : Int) < (k.lines.length : Int) := by omega
  obtain ⟨b, u, cap, l', hl', hb, hu, hlv, hcap, hptr, hln⟩ := h.lines.at hn
  obtain rfl : l = l' := Option.some.inj (hl.symm.trans hl')
  have c4 := h.c4
  rw [hlv] at c4
  have HT : Hid (Calls Tryd.prog 93 #[.pointer (some ⟨b, 0, none⟩), .int .i64 x] w fun e w' => e = .returned (.tuple #[.bool (fitL l), .nilIface]) ∧ ∃ a', GK w' base p ⟨k.rooms, k.lines.set n (putL l x), k.time⟩ kb a' ∧ KTouch (a.F kb) w w' ∧ ∀ g ∈ a'.F kb, g ∈ a.F kb ∨ w.heap.size ≤ g) := by
    refine (dsend_l _ b l u x w hk hx hls hxs hln).mono ?_
    rintro e w' ⟨u', rfl, h3, h4⟩
    exact ⟨rfl, _, h.line hbw hb hu h4 h3⟩
  clear h hl hl' hb hu hlv hln hk hls hxs
  cases hfl : fitL l with
  | true =>
    rw [hfl] at HT
    go_enter Tryd.func72, Tryd.ntmps72
    go_wp2_with (go_at_call 93; refine HT.out.mono ?_; rintro e w1 ⟨rfl, hq⟩)
    go_ret
    exact ⟨rfl, hq⟩
  | false =>
    rw [hfl] at HT
    go_enter Tryd.func72, Tryd.ntmps72
    go_wp2_with (go_at_call 93; refine HT.out.mono ?_; rintro e w1 ⟨rfl, hq⟩)
    go_ret
    exact ⟨rfl, hq⟩
end Go.Proofs.YtajfgmlockjmhafDoor
namespace Go.Proofs.YtajfgmlockjmhafDoor
open Go.RowKit

set_option maxRecDepth 100000 in
set_option maxHeartbeats 8000000 in
theorem gput_ok (p : PD) (k : KD) (kb base : Nat) (a : GW) (r : Nat) (s' : St) (w : World) (hfm : Forms w) (h : GK w base p k kb a) (hp : plchk p = 0) (hk : KOk p k) (hr : r < p.code.length) (hs : ∀ c, p.code[r]? = some c → stOk s' c.length = true) :
    Calls Tryd.prog 63 #[.pointer (some ⟨kb, 0, none⟩), .int .i64 r, stA s'] w fun e w' => e = .returned .nilIface ∧ GK w' base p ⟨k.rooms.set r s', k.lines, k.time⟩ kb a ∧ KTouch [a.rb] w w' := by
  have hcz := (plchk_zero hp).2.2.2.2.2.2.1
  have hrk : k.rooms.length = p.code.length := hk.rl
  have hcd := h.src.here.1
  obtain ⟨ca, cc, hcv⟩ := hcd.form
  rw [hcv] at hcd
  obtain ⟨cb, co, ua, un, ug, c, rfl, hclt, hcy, hcc, rfl, hops⟩ := hcd.at hr
  have hrc : rchk c s' = 0 := by
    unfold rchk
    rw [if_pos (codesE_zero hcz c (List.mem_of_getElem? hcy)), if_pos (hs c hcy)]
  have HC : Hid (∀ W, Below w.heap.size w W → Calls Tryd.prog 57 #[.slice ua c.length ug, .agg #[.int .i64 s'.p, .int .i64 (s'.c 0), .int .i64 (s'.c 1), .int .i64 (s'.c 2), .int .i64 (s'.c 3), .int .i64 (s'.c 4), .int .i64 (s'.c 5), .bool s'.f]] W fun e w' => e = .returned .nilIface ∧ Below W.heap.size W w') := fun W hb => by
    have := rcheck_any c (.slice ua c.length ug) s' W (hfm.all hb) (hops.all hb)
    rw [hrc] at this
    exact this
  have hkb := h.lt.1
  have c0 := h.c0
  rw [hcv] at c0
  have c3 := h.c3
  rw [hrk] at c3
  have hri : (r : Int) < (p.code.length : Int) := by omega
  obtain ⟨s, hsr⟩ : ∃ s, k.rooms[r]? = some s := ⟨_, List.getElem?_eq_getElem (by omega)⟩
  have H : Hid (GK w base p k kb a) := h
  have HSR : Hid (k.rooms[r]? = some s) := hsr
  have hA : Below w.heap.size w (w.alloc (.cells #[.int .i64 s'.p, .int .i64 (s'.c 0), .int .i64 (s'.c 1), .int .i64 (s'.c 2), .int .i64 (s'.c 3), .int .i64 (s'.c 4), .int .i64 (s'.c 5), .bool s'.f] 39)) := (Below.refl _ _).alloc (Nat.le_refl _) _
  have hB : StB (w.alloc (.cells #[.int .i64 s'.p, .int .i64 (s'.c 0), .int .i64 (s'.c 1), .int .i64 (s'.c 2), .int .i64 (s'.c 3), .int .i64 (s'.c 4), .int .i64 (s'.c 5), .bool s'.f] 39)) w.heap.size s' := World.alloc_heap_new _ _
  have hnk := World.new_ne w ⟨kb, 3, none⟩ c3
  unfold stA
  clear h hs hcd hops hcy hrc hsr hcv hcz hk hfm
  go_enter Tryd.func63, Tryd.ntmps63
  go_upto_region 3 with (go_at_call 73; refine (kbelow_yes _ _ _ (by omega) hri).mono ?_; rintro e w1 ⟨rfl, hw1⟩; subst hw1)
  generalize w.alloc (.cells #[.int .i64 s'.p, .int .i64 (s'.c 0), .int .i64 (s'.c 1), .int .i64 (s'.c 2), .int .i64 (s'.c 3), .int .i64 (s'.c 4), .int .i64 (s'.c 5), .bool s'.f] 39) = W0 at hA hB ⊢
  have k0 : W0.cell? ⟨kb, 0, none⟩ = some (.slice (some ⟨cb, co, none⟩) p.code.length cc) := (hA.cell (p := ⟨kb, 0, none⟩) hkb).trans c0
  have k1 : W0.cell? ⟨cb, co + r, none⟩ = some (.slice ua c.length ug) := (hA.cell (p := ⟨cb, co + r, none⟩) hclt).trans hcc
  obtain ⟨n0, n1, n2, n3, n4, n5, n6, n7⟩ := hB.cs
  simp only [Nat.zero_add] at n1 n2 n3 n4 n5 n6 n7
  have bQ : Below w.heap.size w W0.drew := hA.drew
  go_cut [7] from 17 to 25 (fun s7 wx => s7 = .nilIface ∧ Below W0.heap.size W0 wx)
  case first =>
    go_region_with (go_at_call 57; refine (HC.out _ bQ).mono ?_; rintro e w1 ⟨rfl, b1⟩)
    all_goals
      go_wp2_with fail
      go_meet
      case rel => exact ⟨rfl, (Below.refl _ W0).drew.trans (b1.mono (Nat.le_refl _))⟩
  case rest =>
  obtain ⟨rfl, hb2⟩ := hcut
  have hb3 : Below w.heap.size w wc := hA.trans (hb2.mono hA.size)
  have hB3 : StB wc w.heap.size s' := (hb2.block _ (Array.getElem?_eq_some_iff.1 hB).1).trans hB
  clear n0 n1 n2 n3 n4 n5 n6 n7 k0 k1 hB hA hb2 bQ HC
  generalize wc = W3 at *
  obtain ⟨n0, n1, n2, n3, n4, n5, n6, n7⟩ := hB3.cs
  simp only [Nat.zero_add] at n1 n2 n3 n4 n5 n6 n7
  have D := H.out.all hb3
  have k3 := D.c3
  rw [hrk] at k3
  have hth : ∀ nq, (W3.drewN nq).there a.rb (r * 8) 8 := fun nq => there_st (D.rooms r s HSR.out) D.rf nq
  go_upto_region 6 with fail
  go_cut [29] from 29 to 35 (fun _ wx => ∃ nq, wx = setSt (W3.drewN nq) a.rb (r * 8) s')
  case first =>
    refine wp_region_quiet_last (by kernel_rfl) rfl (by decide +kernel) (by decide +kernel) ?_
    simp only [List.dropLast_cons_cons, List.dropLast_singleton]
    repeat (go_big_quiet_step (fail))
    refine wpQuiet_nil ?_
    intro _ hw'
    obtain ⟨nq, hw''⟩ := hw'
    subst hw''
    refine wp_store_mid _ _ _ rfl a.rb (r * 8) _ rfl rfl (hth nq) rfl (by simp [Value.oneCell']) ?_
    go_wp2_with fail
    go_meet
    case rel => exact ⟨nq, rfl⟩
  case rest =>
  obtain ⟨nq, hwx⟩ := hcut
  have bN : Below W3.heap.size W3 (W3.drewN nq) := below_dN (Below.refl _ _) nq
  have D9 := (D.all bN).set HSR.out s'
  have tk9 : KTouch [a.rb] W3 (setSt (W3.drewN nq) a.rb (r * 8) s') := (KTouch.of bN).trans (setSt_touch _ (by simp) _ _)
  rw [← hwx] at D9 tk9
  have tkw : KTouch [a.rb] w wc := (KTouch.of hb3).trans tk9
  clear hwx
  go_wp2
  go_ret
  exact ⟨rfl, D9, tkw⟩
end Go.Proofs.YtajfgmlockjmhafDoor
namespace Go.Proofs.YtajfgmlockjmhafDoor
open Go.RowKit

theorem stb_set {w : World} {b : Nat} {s : St} (h : StB w b s) (s' : St) : StB ((((((((w.setCell ⟨b, 0, none⟩ (.int .i64 s'.p)).setCell ⟨b, 1, none⟩ (.int .i64 (s'.c 0))).setCell ⟨b, 2, none⟩ (.int .i64 (s'.c 1))).setCell ⟨b, 3, none⟩ (.int .i64 (s'.c 2))).setCell ⟨b, 4, none⟩ (.int .i64 (s'.c 3))).setCell ⟨b, 5, none⟩ (.int .i64 (s'.c 4))).setCell ⟨b, 6, none⟩ (.int .i64 (s'.c 5))).setCell ⟨b, 7, none⟩ (.bool s'.f)) b s' := by
  have e : w.heap[b]? = _ := h
  unfold StB
  simp [World.setCell, Array.getElem?_modify, e]
theorem stb_on {w : World} {b : Nat} {s : St} (h : StB w b s) (n : Int) : StB ((w.setCell ⟨b, 7, none⟩ (.bool false)).setCell ⟨b, 0, none⟩ (.int .i64 n)) b ⟨n, s.c, false⟩ := by
  have e : w.heap[b]? = _ := h
  unfold StB
  simp [World.setCell, Array.getElem?_modify, e]
/-- The next op; behind the last is the first. -/
theorem next_op {a n : Int} (h0 : 0 ≤ a) (h1 : a < n) : (a + 1) % n = if a + 1 = n then 0 else a + 1 := by
  split
  · rename_i h
    rw [h, Int.emod_self]
  · exact Int.emod_eq_of_lt (by omega) (by omega)
set_option maxRecDepth 100000 in
set_option maxHeartbeats 8000000 in
theorem crhelp_any (p : PD) (what : List Int) (most : Int) (d : CD) (cb base : Nat) (x : CW) (r : Int) (w : World) (hfm : Forms w) (h : GC w base p what most d cb x) (hc : carE p what most = 0) (hok : COk p what most d) (hr : whoK p d.k = r) :
    Calls Tryd.prog 39 #[.pointer (some ⟨cb, 0, none⟩), .int .i64 r] w fun e w' => (∃ v, e = .returned v) ∧ GC w' base p what most (helpC p what most d) cb x ∧ KTouch (x.F cb) w w' := by
  obtain ⟨hp, hwl, hwr, hm0, hm1⟩ := carE_zero hc
  have hwr2 : -1 ≤ r ∧ (0 ≤ r → r.toNat < p.code.length) := by rw [← hr]; exact who_room hp (d.k.time % p.ticks)
  have H : Hid (GC w base p what most d cb x) := h
  have HS : Hid (Calls Tryd.prog 47 #[.pointer (some ⟨x.kb, 0, none⟩), .int .i64 r] w fun e w' => e = .returned (.tuple #[.agg #[.int .i64 (roomK d.k r).p, .int .i64 ((roomK d.k r).c 0), .int .i64 ((roomK d.k r).c 1), .int .i64 ((roomK d.k r).c 2), .int .i64 ((roomK d.k r).c 3), .int .i64 ((roomK d.k r).c 4), .int .i64 ((roomK d.k r).c 5), .bool (roomK d.k r).f], wErr (errB (noRoom d.k r))]) ∧ Below w.heap.size w w') := gstate_any p d.k x.kb base x.a r w h.k
  have HR : Hid (whoK p d.k = r) := hr
  have hrk : d.k.rooms.length = p.code.length := hok.k.rl
  have htl : d.ts.length = p.code.length := hok.tl
  have HOK : Hid (COk p what most d) := hok
  have HFM : Hid (Forms w) := hfm
  have HP : Hid (plchk p = 0) := hp
  have HF : Hid (∀ g ∈ x.F cb, g < w.heap.size) := h.flt
  have c0 := h.c0
  obtain ⟨sr, hsr⟩ : ∃ s, s = roomK d.k r := ⟨_, rfl⟩
  obtain ⟨er, her⟩ : ∃ e, e = errB (noRoom d.k r) := ⟨_, rfl⟩
  rw [← hsr, ← her] at HS
  have HSR : Hid (sr = roomK d.k r) := hsr
  have HER : Hid (er = errB (noRoom d.k r)) := her
  clear h hr hok hfm hp hc hsr her
  go_enter Tryd.func39, Tryd.ntmps39
  go_upto_region 0 with fail
  go_cut [4, 5] from 6 to 14 (fun s4 s5 wx => ∃ b, s4 = .pointer (some ⟨b, 0, none⟩) ∧ s5 = wErr er ∧ StB wx b sr ∧ w.heap.size ≤ b ∧ Below w.heap.size w wx)
  case first =>
    go_wp2_with (go_at_call 47; refine HS.out.mono ?_; rintro e w1 ⟨rfl, b1⟩)
    go_meet
    case rel =>
      exact ⟨w1.heap.size, rfl, rfl, World.alloc_heap_new _ _, b1.size, b1.alloc b1.size _⟩
  case rest =>
  obtain ⟨b, rfl, rfl, hst, hbg, hb1⟩ := hcut
  clear c0 HS
  generalize wc = W1 at *
  have D1 := H.out.all hb1
  have c0 := D1.c0
  have c1 := D1.c1
  have c2 := D1.c2
  rw [htl] at c1
  obtain ⟨n0, n1, n2, n3, n4, n5, n6, n7⟩ := hst.cs
  simp only [Nat.zero_add] at n1 n2 n3 n4 n5 n6 n7
  by_cases hneg : r < 0
  · have hno : noRoom d.k r = true := by
      unfold noRoom
      rw [decide_eq_true hneg, Bool.true_or]
    have he1 : er = 1 := by rw [HER.out, hno]; rfl
    have HX : Hid (helpC p what most d = d) := help_no (by rw [HR.out]; omega)
    rw [he1, show wErr 1 = .iface 87 (.int .i64 1) from rfl]
    clear hno he1 hneg hwr2
    go_upto_region 1 with fail
    go_quiet (fail)
    go_wp2_with fail
    first | go_end0 | ((try simp only [Exit.inBlock, Exit.then]); refine bodyPost_ret (results_none rfl _ _ _) rfl ?_)
    exact ⟨⟨_, rfl⟩, by rw [HX.out]; exact D1.all (below_dN (Below.refl _ _) _), KTouch.of (below_dN hb1 _)⟩
  · obtain ⟨rn, rfl⟩ : ∃ n : Nat, r = n := ⟨r.toNat, by omega⟩
    have hrl : rn < p.code.length := by simpa using hwr2.2 (by omega)
    have hri : (rn : Int) < (p.code.length : Int) := by omega
    have hno : noRoom d.k (rn : Int) = false := by
      unfold noRoom
      rw [Bool.or_eq_false_iff]
      exact ⟨decide_eq_false (by omega), decide_eq_false (by omega)⟩
    have he0 : er = 0 := by rw [HER.out, hno]; rfl
    rw [he0, show wErr 0 = .nilIface from rfl]
    obtain ⟨s, hs⟩ : ∃ s, d.k.rooms[rn]? = some s := ⟨_, List.getElem?_eq_getElem (by omega)⟩
    obtain ⟨t, ht⟩ : ∃ t, d.ts[rn]? = some t := ⟨_, List.getElem?_eq_getElem (by omega)⟩
    obtain ⟨wn, hw⟩ : ∃ n, what[rn]? = some n := ⟨_, List.getElem?_eq_getElem (by omega)⟩
    obtain ⟨c, hcd⟩ : ∃ c, p.code[rn]? = some c := ⟨_, List.getElem?_eq_getElem hrl⟩
    have hss : sr = s := by
      rw [HSR.out]
      unfold roomK
      rw [hno, if_neg (by decide), Int.toNat_natCast]
      simp [List.getD, hs]
    subst hss
    obtain ⟨q0, q1, q2⟩ := D1.row rn t ht
    have qf := D1.qf (rn * 3 + 2)
    have ew : what.getD rn 0 = wn := by simp [List.getD, hw]
    have ec : p.code.getD rn [] = c := by simp [List.getD, hcd]
    rw [ew] at q0
    rw [ec] at q1
    have hwn := hwr wn (List.mem_of_getElem? hw)
    have hcb : caresB what most d rn = (sr.f && (decide (0 < wn) && decide (t < most))) := by
      unfold caresB
      simp only [List.getD, hs, ht, hw, Option.getD_some]
    have hck : (chk c).2 = 0 := codesE_zero (plchk_zero HP.out).2.2.2.2.2.2.1 _ (List.mem_of_getElem? hcd)
    have hcl : c.length ≤ 20 := (chk_zero hck).2.1
    have hso := HOK.out.k.rooms rn c sr hcd hs
    obtain ⟨hsp0, hsp1, hsc⟩ := stOk_iff.1 hso
    have htb := HOK.out.ts rn t ht
    have hp5 := (plchk_zero HP.out).1
    have HNO : Hid (caresB what most d rn = false → helpC p what most d = d) := fun hcf => help_no (by rw [HR.out, Int.toNat_natCast, hcf]; simp)
    have HYES : Hid (caresB what most d rn = true → helpC p what most d = ⟨⟨d.k.rooms.set rn (helpS p what rn sr), d.k.lines, d.k.time⟩, d.ts.set rn (t + 1)⟩) := fun hct => help_yes HR.out hs ht hct
    have HHS : Hid (helpS p what rn sr = if wn = 1 then stNew else ⟨if sr.p + 1 = (c.length : Int) then 0 else sr.p + 1, sr.c, false⟩) := by
      show _ = _
      unfold helpS
      rw [ew, ec]
    have HTS : Hid (d.ts[rn]? = some t) := ht
    have HCD : Hid (p.code[rn]? = some c) := hcd
    have HWH : Hid (what[rn]? = some wn) := hw
    have HCB : Hid (caresB what most d rn = (sr.f && (decide (0 < wn) && decide (t < most)))) := hcb
    clear hno he0 hs ht hw hcd hcb hck hso hwr hwr2 hneg ew ec
    have hk0 : (sr.f = false ∨ t ≥ most) ∨ (sr.f = true ∧ t < most) := by
      cases sr.f with
      | false => exact Or.inl (Or.inl rfl)
      | true =>
        by_cases h2 : t < most
        · exact Or.inr ⟨rfl, h2⟩
        · exact Or.inl (Or.inr (by omega))
    rcases hk0 with hk1 | ⟨hf, htm⟩
    · have HX : Hid (helpC p what most d = d) := HNO.out (by
        rw [HCB.out]
        rcases hk1 with h1 | h1
        · rw [h1, Bool.false_and]
        · rw [decide_eq_false (show ¬ t < most by omega), Bool.and_false, Bool.and_false])
      have HD1 : Hid (GC W1 base p what most d cb x) := D1
      clear D1
      cases hf : sr.f with
      | false =>
        rw [hf] at n7
        clear hk1 hf
        go_upto_region 1 with fail
        go_quiet (fail)
        go_wp2_with fail
        first | go_end0 | ((try simp only [Exit.inBlock, Exit.then]); refine bodyPost_ret (results_none rfl _ _ _) rfl ?_)
        exact ⟨⟨_, rfl⟩, by rw [HX.out]; exact HD1.out.all (below_dN (Below.refl _ _) _), KTouch.of (below_dN hb1 _)⟩
      | true =>
        rw [hf] at n7
        have h2 : most ≤ t := by
          rcases hk1 with h1 | h1
          · rw [hf] at h1
            cases h1
          · exact h1
        have h2' : decide (most ≤ t) = true := decide_eq_true h2
        clear hk1 hf h2
        go_upto_region 1 with fail
        go_quiet (fail)
        go_wp2_with fail
        first | go_end0 | ((try simp only [Exit.inBlock, Exit.then]); refine bodyPost_ret (results_none rfl _ _ _) rfl ?_)
        exact ⟨⟨_, rfl⟩, by rw [HX.out]; exact HD1.out.all (below_dN (Below.refl _ _) _), KTouch.of (below_dN hb1 _)⟩
    · rw [hf] at n7
      have h2' : decide (most ≤ t) = false := decide_eq_false (by omega)
      have hne : (c.length : Int) ≠ 0 := by omega
      have hne' : ((c.length : Int) == 0) = false := by simpa using hne
      have HFT : Hid (sr.f = true) := hf
      have HST : Hid (StB W1 b sr) := hst
      clear hf D1 hst
      go_upto_region 1 with fail
      go_cut [36] from 15 to 35 (fun s36 wx => s36 = .bool false ∧ Below W1.heap.size W1 wx)
      case first =>
        go_quiet (fail)
        go_wp2_with fail
        go_meet
        case rel => exact ⟨rfl, below_dN (Below.refl _ _) _⟩
      case rest =>
      obtain ⟨rfl, hb2⟩ := hcut
      have hb3 := hb1.trans (hb2.mono hb1.size)
      have hst2 : StB wc b sr := (hb2.block _ (Array.getElem?_eq_some_iff.1 HST.out).1).trans HST.out
      clear c0 c1 c2 n0 n1 n2 n3 n4 n5 n6 n7 q0 q1 q2 qf HST
      generalize wc = W2 at *
      have D2 := H.out.all hb3
      have c0 := D2.c0
      have c1 := D2.c1
      rw [htl] at c1
      obtain ⟨n0, n1, n2, n3, n4, n5, n6, n7⟩ := hst2.cs
      simp only [Nat.zero_add] at n1 n2 n3 n4 n5 n6 n7
      obtain ⟨q0, q1, q2⟩ := D2.row rn t HTS.out
      have ew : what.getD rn 0 = wn := by simp [List.getD, HWH.out]
      rw [ew] at q0
      clear ew
      have ec : p.code.getD rn [] = c := by simp [List.getD, HCD.out]
      rw [ec] at q1
      clear ec
      have y0 := stb_fz hst2 0
      have y1 := stb_fz hst2 1
      have y2 := stb_fz hst2 2
      have y3 := stb_fz hst2 3
      have y4 := stb_fz hst2 4
      have y5 := stb_fz hst2 5
      have y6 := stb_fz hst2 6
      have y7 := stb_fz hst2 7
      have hne1 : b ≠ cb := by have := HF.out cb (by simp [CW.F]); omega
      have hne2 : b ≠ x.qb := by have := HF.out x.qb (by simp [CW.F]); omega
      by_cases hw0 : wn = 0
      · have HX : Hid (helpC p what most d = d) := HNO.out (by
          rw [HCB.out, decide_eq_false (show ¬ 0 < wn by omega), Bool.false_and, Bool.and_false])
        subst hw0
        have HD2 : Hid (GC W2 base p what most d cb x) := D2
        clear D2 hst2
        go_step
        go_wp2_with fail
        first | go_end0 | ((try simp only [Exit.inBlock, Exit.then]); refine bodyPost_ret (results_none rfl _ _ _) rfl ?_)
        exact ⟨⟨_, rfl⟩, by rw [HX.out]; exact HD2.out, KTouch.of hb3⟩
      · have HX : Hid (helpC p what most d = ⟨⟨d.k.rooms.set rn (helpS p what rn sr), d.k.lines, d.k.time⟩, d.ts.set rn (t + 1)⟩) := HYES.out (by
          rw [HCB.out, HFT.out, decide_eq_true (show 0 < wn by omega), decide_eq_true htm]
          rfl)
        have hw0' : (wn == 0) = false := by simpa using hw0
        by_cases hw1 : wn = 1
        · have HY : Hid (helpS p what rn sr = stNew) := by
            show _ = _
            rw [HHS.out, if_pos hw1]
          have HSO : Hid (∀ c', p.code[rn]? = some c' → stOk stNew c'.length = true) := fun c' hc' => by
            rw [HCD.out] at hc'
            obtain rfl := Option.some.inj hc'
            refine stOk_iff.2 ⟨Int.le_refl _, ?_, fun i _ => ⟨Int.le_refl _, by simp [stNew]⟩⟩
            show (0 : Int) < _
            omega
          have HRn : Hid (∀ W, Calls Tryd.prog 32 #[] W fun e w' => e = .returned (.agg #[.int .i64 0, .int .i64 0, .int .i64 0, .int .i64 0, .int .i64 0, .int .i64 0, .int .i64 0, .bool false]) ∧ Below W.heap.size W w') := fun W => new_any W
          subst hw1
          have HST : Hid (StB W2 b sr) := hst2
          clear D2 hst2 q1 hw0 hw0'
          go_step
          go_upto_region 8 with (go_at_call 32; refine (HRn.out _).mono ?_; rintro e w3 ⟨rfl, b3⟩; have hst3 : StB w3 b sr := (b3.block _ (Array.getElem?_eq_some_iff.1 HST.out).1).trans HST.out; obtain ⟨m0, m1, m2, m3, m4, m5, m6, m7⟩ := hst3.cs; simp only [Nat.zero_add] at m1 m2 m3 m4 m5 m6 m7; have z0 := stb_fz hst3 0; have z1 := stb_fz hst3 1; have z2 := stb_fz hst3 2; have z3 := stb_fz hst3 3; have z4 := stb_fz hst3 4; have z5 := stb_fz hst3 5; have z6 := stb_fz hst3 6; have z7 := stb_fz hst3 7)
          have hst4 : StB ((((((((w3.setCell ⟨b, 0, none⟩ (.int .i64 0)).setCell ⟨b, 1, none⟩ (.int .i64 0)).setCell ⟨b, 2, none⟩ (.int .i64 0)).setCell ⟨b, 3, none⟩ (.int .i64 0)).setCell ⟨b, 4, none⟩ (.int .i64 0)).setCell ⟨b, 5, none⟩ (.int .i64 0)).setCell ⟨b, 6, none⟩ (.int .i64 0)).setCell ⟨b, 7, none⟩ (.bool false)) b stNew := stb_set hst3 stNew
          have hb4 : Below w.heap.size w ((((((((w3.setCell ⟨b, 0, none⟩ (.int .i64 0)).setCell ⟨b, 1, none⟩ (.int .i64 0)).setCell ⟨b, 2, none⟩ (.int .i64 0)).setCell ⟨b, 3, none⟩ (.int .i64 0)).setCell ⟨b, 4, none⟩ (.int .i64 0)).setCell ⟨b, 5, none⟩ (.int .i64 0)).setCell ⟨b, 6, none⟩ (.int .i64 0)).setCell ⟨b, 7, none⟩ (.bool false)) := below_st8 (hb3.trans (b3.mono hb3.size)) b hbg _ _ _ _ _ _ _ _
          clear m0 m1 m2 m3 m4 m5 m6 m7 z0 z1 z2 z3 z4 z5 z6 z7 y0 y1 y2 y3 y4 y5 y6 y7 n0 n1 n2 n3 n4 n5 n6 n7 c0 c1 q0 q2 hst3 HRn
          generalize ((((((((w3.setCell ⟨b, 0, none⟩ (.int .i64 0)).setCell ⟨b, 1, none⟩ (.int .i64 0)).setCell ⟨b, 2, none⟩ (.int .i64 0)).setCell ⟨b, 3, none⟩ (.int .i64 0)).setCell ⟨b, 4, none⟩ (.int .i64 0)).setCell ⟨b, 5, none⟩ (.int .i64 0)).setCell ⟨b, 6, none⟩ (.int .i64 0)).setCell ⟨b, 7, none⟩ (.bool false)) = W5 at hst4 hb4 ⊢
          have D5 := H.out.all hb4
          have HD5 : Hid (GC W5 base p what most d cb x) := D5
          have c0 := D5.c0
          have hput : Calls Tryd.prog 63 #[.pointer (some ⟨x.kb, 0, none⟩), .int .i64 rn, stA stNew] W5.drew fun e w' => e = .returned .nilIface ∧ GK w' base p ⟨d.k.rooms.set rn stNew, d.k.lines, d.k.time⟩ x.kb x.a ∧ KTouch [x.a.rb] W5.drew w' := gput_ok p d.k x.kb base x.a rn stNew W5.drew (HFM.out.all hb4.drew) (D5.k.all (Below.refl _ _).drew) HP.out HOK.out.k hrl HSO.out
          unfold stA at hput
          obtain ⟨m0, m1, m2, m3, m4, m5, m6, m7⟩ := hst4.cs
          simp only [Nat.zero_add] at m1 m2 m3 m4 m5 m6 m7
          clear D5
          go_cut [73] from 66 to 72 (fun s73 wx => s73 = .bool true ∧ GK wx base p ⟨d.k.rooms.set rn stNew, d.k.lines, d.k.time⟩ x.kb x.a ∧ KTouch [x.a.rb] W5 wx)
          case first =>
            go_region_with (go_at_call 63; refine hput.mono ?_; rintro e w6 ⟨rfl, hgk, tk6⟩)
            all_goals
              go_wp2_with fail
              go_meet
              case rel => exact ⟨rfl, hgk, (KTouch.of (Below.refl _ _).drew).trans tk6⟩
          case rest =>
          obtain ⟨rfl, hgk, tk6⟩ := hcut
          have D6 : GC wc base p what most ⟨⟨d.k.rooms.set rn stNew, d.k.lines, d.k.time⟩, d.ts⟩ cb x := HD5.out.kern (tk6.mono (by simp [GW.F])) hgk (fun g hg => Or.inl hg)
          have tkw : KTouch (x.F cb) w wc := (KTouch.of hb4).trans (tk6.mono (by simp [CW.F, GW.F]))
          clear m0 m1 m2 m3 m4 m5 m6 m7 c0 hput hgk tk6 hst4
          generalize wc = W7 at *
          have c1 := D6.c1
          simp only at c1
          rw [htl] at c1
          obtain ⟨_, _, q2⟩ := D6.row rn t HTS.out
          have qf := D6.qf (rn * 3 + 2)
          have HD7 : Hid (GC (W7.setCell ⟨x.qb, rn * 3 + 2, none⟩ (.int .i64 (t + 1))) base p what most (helpC p what most d) cb x) := by
            show GC _ _ _ _ _ _ _ _
            rw [HX.out, HY.out]
            exact D6.times HTS.out (t + 1)
          have htl2 : t + 1 ≤ 9223372036854775807 := by omega
          clear D6
          go_step
          go_wp2_with fail
          first | go_end0 | ((try simp only [Exit.inBlock, Exit.then]); refine bodyPost_ret (results_none rfl _ _ _) rfl ?_)
          exact ⟨⟨_, rfl⟩, HD7.out, tkw.trans (KTouch.set W7 (by simp [CW.F]) _ _)⟩
        · have hw2 : wn = 2 := by omega
          subst hw2
          obtain ⟨s2, hs2⟩ : ∃ s2 : St, s2 = ⟨(sr.p + 1) % (c.length : Int), sr.c, false⟩ := ⟨_, rfl⟩
          have HS2 : Hid (s2 = ⟨(sr.p + 1) % (c.length : Int), sr.c, false⟩) := hs2
          have HY : Hid (helpS p what rn sr = s2) := by
            show _ = _
            rw [HHS.out, if_neg (by decide), hs2, next_op hsp0 hsp1]
          have HSO : Hid (∀ c', p.code[rn]? = some c' → stOk s2 c'.length = true) := fun c' hc' => by
            rw [HCD.out] at hc'
            rw [hs2]
            obtain rfl := Option.some.inj hc'
            exact stOk_iff.2 ⟨Int.emod_nonneg _ hne, Int.emod_lt_of_pos _ (by omega), hsc⟩
          have HST : Hid (StB W2 b sr) := hst2
          clear D2 hst2 hw0 hw1 hw0' hs2
          go_step
          go_upto_region 7 with fail
          have hwrap : IntKind.i64.wrap (sr.p + 1) = sr.p + 1 := IntWalk.i64_in _ (by omega)
          have htmod : (sr.p + 1).tmod (c.length : Int) = (sr.p + 1) % (c.length : Int) := Int.tmod_eq_emod_of_nonneg (by omega)
          have hcn : ¬ c = [] := fun e => by rw [e] at hne; exact hne rfl
          refine wp_region_popped (fun W => W.cell? ⟨b, 0, none⟩ = some (.int .i64 sr.p) ∧ W.cell? ⟨cb, 1, none⟩ = some (.slice (some ⟨x.qb, 0, none⟩) p.code.length x.qcap) ∧ W.cell? ⟨x.qb, rn * 3 + 1, none⟩ = some (.int .i64 (c.length : Nat))) (by kernel_rfl) rfl (by decide +kernel) ⟨n0, c1, q1⟩ (fun hHeld => ?_)
          simp only [List.pop_toArray, List.dropLast_cons_cons, List.dropLast_singleton, List.size_toArray, List.length_cons, List.length_nil, Nat.reduceAdd, Array.replicate_succ, Array.replicate_zero, List.push_toArray, List.nil_append, List.cons_append]
          refine wpAnyH_take (i := 0) (v := ?_) rfl (by decide +kernel) (by decide +kernel) (by decide +kernel) (fun _ _ _ h => h) (Or.inl ⟨by rfl, ?_⟩) (by assumption) ?_
          rotate_left
          · intro W hSw
            try dsimp only at hSw
            obtain ⟨hS1, hS2, hS3⟩ := hSw
            go_simp
            try with_reducible rfl
          simp only [Act.put, List.setIfInBounds_toArray, List.set_cons_zero]
          refine wpAnyH_take (i := 1) (v := ?_) rfl (by decide +kernel) (by decide +kernel) (by decide +kernel) (fun _ _ _ h => h) (Or.inl ⟨by rfl, ?_⟩) (by assumption) ?_
          rotate_left
          · intro W hSw
            try dsimp only at hSw
            obtain ⟨hS1, hS2, hS3⟩ := hSw
            go_simp
            try with_reducible rfl
          simp only [Act.put, List.setIfInBounds_toArray, List.set_cons_zero, List.set_cons_succ]
          refine wpAnyH_take (i := 2) (v := .int .i64 (sr.p + 1)) rfl (by decide +kernel) (by decide +kernel) (by decide +kernel) (fun _ _ _ h => h) (Or.inl ⟨by rfl, ?_⟩) (by assumption) ?_
          · intro W hSw
            try dsimp only at hSw
            obtain ⟨hS1, hS2, hS3⟩ := hSw
            go_simp
          simp only [Act.put, List.setIfInBounds_toArray, List.set_cons_zero, List.set_cons_succ]
          refine wpAnyH_take (i := 3) (v := ?_) rfl (by decide +kernel) (by decide +kernel) (by decide +kernel) (fun _ _ _ h => h) (Or.inl ⟨by rfl, ?_⟩) (by assumption) ?_
          rotate_left
          · intro W hSw
            try dsimp only at hSw
            obtain ⟨hS1, hS2, hS3⟩ := hSw
            go_simp
            try with_reducible rfl
          simp only [Act.put, List.setIfInBounds_toArray, List.set_cons_zero, List.set_cons_succ]
          refine wpAnyH_take (i := 4) (v := ?_) rfl (by decide +kernel) (by decide +kernel) (by decide +kernel) (fun _ _ _ h => h) (Or.inl ⟨by rfl, ?_⟩) (by assumption) ?_
          rotate_left
          · intro W hSw
            try dsimp only at hSw
            obtain ⟨hS1, hS2, hS3⟩ := hSw
            go_simp
            try with_reducible rfl
          simp only [Act.put, List.setIfInBounds_toArray, List.set_cons_zero, List.set_cons_succ]
          refine wpAnyH_take (i := 5) (v := ?_) rfl (by decide +kernel) (by decide +kernel) (by decide +kernel) (fun _ _ _ h => h) (Or.inl ⟨by rfl, ?_⟩) (by assumption) ?_
          rotate_left
          · intro W hSw
            try dsimp only at hSw
            obtain ⟨hS1, hS2, hS3⟩ := hSw
            go_simp
            try with_reducible rfl
          simp only [Act.put, List.setIfInBounds_toArray, List.set_cons_zero, List.set_cons_succ]
          refine wpAnyH_take (i := 6) (v := ?_) rfl (by decide +kernel) (by decide +kernel) (by decide +kernel) (fun _ _ _ h => h) (Or.inl ⟨by rfl, ?_⟩) (by assumption) ?_
          rotate_left
          · intro W hSw
            try dsimp only at hSw
            obtain ⟨hS1, hS2, hS3⟩ := hSw
            go_simp
            try with_reducible rfl
          simp only [Act.put, List.setIfInBounds_toArray, List.set_cons_zero, List.set_cons_succ]
          refine wpAnyH_take (i := 7) (v := ?_) rfl (by decide +kernel) (by decide +kernel) (by decide +kernel) (fun _ _ _ h => h) (Or.inl ⟨by rfl, ?_⟩) (by assumption) ?_
          rotate_left
          · intro W hSw
            try dsimp only at hSw
            obtain ⟨hS1, hS2, hS3⟩ := hSw
            go_simp
            try with_reducible rfl
          simp only [Act.put, List.setIfInBounds_toArray, List.set_cons_zero, List.set_cons_succ]
          refine wpAnyH_take (i := 8) (v := ?_) rfl (by decide +kernel) (by decide +kernel) (by decide +kernel) (fun _ _ _ h => h) (Or.inl ⟨by rfl, ?_⟩) (by assumption) ?_
          rotate_left
          · intro W hSw
            try dsimp only at hSw
            obtain ⟨hS1, hS2, hS3⟩ := hSw
            go_simp
            try with_reducible rfl
          simp only [Act.put, List.setIfInBounds_toArray, List.set_cons_zero, List.set_cons_succ]
          refine wpAnyH_take (i := 9) (v := ?_) rfl (by decide +kernel) (by decide +kernel) (by decide +kernel) (fun _ _ _ h => h) (Or.inl ⟨by rfl, ?_⟩) (by assumption) ?_
          rotate_left
          · intro W hSw
            try dsimp only at hSw
            obtain ⟨hS1, hS2, hS3⟩ := hSw
            go_simp
            try with_reducible rfl
          simp only [Act.put, List.setIfInBounds_toArray, List.set_cons_zero, List.set_cons_succ]
          refine wpAnyH_take (i := 10) (v := ?_) rfl (by decide +kernel) (by decide +kernel) (by decide +kernel) (fun _ _ _ h => h) (Or.inl ⟨by rfl, ?_⟩) (by assumption) ?_
          rotate_left
          · intro W hSw
            try dsimp only at hSw
            obtain ⟨hS1, hS2, hS3⟩ := hSw
            go_simp
            try with_reducible rfl
          simp only [Act.put, List.setIfInBounds_toArray, List.set_cons_zero, List.set_cons_succ]
          refine wpAnyH_take (i := 11) (v := .int .i64 ((sr.p + 1) % (c.length : Int))) rfl (by decide +kernel) (by decide +kernel) (by decide +kernel) (fun _ _ _ h => h) (Or.inl ⟨by rfl, ?_⟩) (by assumption) ?_
          · intro W hSw
            try dsimp only at hSw
            obtain ⟨hS1, hS2, hS3⟩ := hSw
            go_simp
          simp only [Act.put, List.setIfInBounds_toArray, List.set_cons_zero, List.set_cons_succ]
          refine wpAnyH_take (i := 12) (v := ?_) rfl (by decide +kernel) (by decide +kernel) (by decide +kernel) (fun _ _ _ h => h) (Or.inl ⟨by rfl, ?_⟩) (by assumption) ?_
          rotate_left
          · intro W hSw
            try dsimp only at hSw
            obtain ⟨hS1, hS2, hS3⟩ := hSw
            go_simp
            try with_reducible rfl
          simp only [Act.put, List.setIfInBounds_toArray, List.set_cons_zero, List.set_cons_succ]
          refine wpAnyH_ready (rs := [13]) (by decide +kernel) (by simp) ?_
          refine AllReadyH.cons (o := _) rfl (fun K hK => ?_) AllReadyH.nil
          go_simp
          have s1 : (W2.drew.setCell ⟨b, 7, none⟩ (.bool false)).cell? ⟨b, 0, none⟩ = some (.int .i64 sr.p) := by rw [setCell_far (by decide)]; exact n0
          have hbS : Below w.heap.size w (W2.drew.setCell ⟨b, 7, none⟩ (.bool false)) := hb3.drew.setCell (p := ⟨b, 7, none⟩) hbg _
          have DS := H.out.all hbS
          have e2 := DS.c1
          rw [htl] at e2
          have s3 := (DS.row rn t HTS.out).2.1
          rw [show p.code.getD rn [] = c by simp [List.getD, HCD.out]] at s3
          refine hK.out _ _ ⟨s1, e2, s3⟩ (fun hHeld => ?_)
          clear hK K DS
          simp only [List.setIfInBounds_toArray, List.set_cons_zero, List.set_cons_succ]
          refine wpAnyH_take (i := 14) (v := ?_) rfl (by decide +kernel) (by decide +kernel) (by decide +kernel) (fun _ _ _ h => h) (Or.inl ⟨by rfl, ?_⟩) (by assumption) ?_
          rotate_left
          · intro W hSw
            try dsimp only at hSw
            obtain ⟨hS1, hS2, hS3⟩ := hSw
            go_simp
            try with_reducible rfl
          simp only [Act.put, List.setIfInBounds_toArray, List.set_cons_zero, List.set_cons_succ]
          refine wpAnyH_done (by decide +kernel) ?_ _
          show Oper.wp _ _ _ _ _ _
          go_simp
          have hst4 : StB (((W2.setCell ⟨b, 7, none⟩ (.bool false)).setCell ⟨b, 0, none⟩ (.int .i64 ((sr.p + 1) % (c.length : Int)))).drew) b s2 := by
            rw [HS2.out]
            exact stb_on (w := W2) HST.out ((sr.p + 1) % (c.length : Int))
          have hb4 : Below w.heap.size w (((W2.setCell ⟨b, 7, none⟩ (.bool false)).setCell ⟨b, 0, none⟩ (.int .i64 ((sr.p + 1) % (c.length : Int)))).drew) := ((hb3.setCell (p := ⟨b, 7, none⟩) hbg _).setCell (p := ⟨b, 0, none⟩) hbg _).drew
          clear s1 e2 s3 hbS hHeld y0 y1 y2 y3 y4 y5 y6 y7 n0 n1 n2 n3 n4 n5 n6 n7 c0 c1 q0 q1 q2
          generalize ((W2.setCell ⟨b, 7, none⟩ (.bool false)).setCell ⟨b, 0, none⟩ (.int .i64 ((sr.p + 1) % (c.length : Int)))).drew = W5 at hst4 hb4 ⊢
          go_upto_region 8 with fail
          have D5 := H.out.all hb4
          have HD5 : Hid (GC W5 base p what most d cb x) := D5
          have c0 := D5.c0
          have hput : Calls Tryd.prog 63 #[.pointer (some ⟨x.kb, 0, none⟩), .int .i64 rn, stA s2] W5.drew fun e w' => e = .returned .nilIface ∧ GK w' base p ⟨d.k.rooms.set rn s2, d.k.lines, d.k.time⟩ x.kb x.a ∧ KTouch [x.a.rb] W5.drew w' := gput_ok p d.k x.kb base x.a rn s2 W5.drew (HFM.out.all hb4.drew) (D5.k.all (Below.refl _ _).drew) HP.out HOK.out.k hrl HSO.out
          unfold stA at hput
          obtain ⟨m0, m1, m2, m3, m4, m5, m6, m7⟩ := hst4.cs
          simp only [Nat.zero_add] at m1 m2 m3 m4 m5 m6 m7
          clear D5
          go_cut [73] from 66 to 72 (fun s73 wx => s73 = .bool true ∧ GK wx base p ⟨d.k.rooms.set rn s2, d.k.lines, d.k.time⟩ x.kb x.a ∧ KTouch [x.a.rb] W5 wx)
          case first =>
            go_region_with (go_at_call 63; refine hput.mono ?_; rintro e w6 ⟨rfl, hgk, tk6⟩)
            all_goals
              go_wp2_with fail
              go_meet
              case rel => exact ⟨rfl, hgk, (KTouch.of (Below.refl _ _).drew).trans tk6⟩
          case rest =>
          obtain ⟨rfl, hgk, tk6⟩ := hcut
          have D6 : GC wc base p what most ⟨⟨d.k.rooms.set rn s2, d.k.lines, d.k.time⟩, d.ts⟩ cb x := HD5.out.kern (tk6.mono (by simp [GW.F])) hgk (fun g hg => Or.inl hg)
          have tkw : KTouch (x.F cb) w wc := (KTouch.of hb4).trans (tk6.mono (by simp [CW.F, GW.F]))
          clear m0 m1 m2 m3 m4 m5 m6 m7 c0 hput hgk tk6 hst4
          generalize wc = W7 at *
          have c1 := D6.c1
          simp only at c1
          rw [htl] at c1
          obtain ⟨_, _, q2⟩ := D6.row rn t HTS.out
          have qf := D6.qf (rn * 3 + 2)
          have HD7 : Hid (GC (W7.setCell ⟨x.qb, rn * 3 + 2, none⟩ (.int .i64 (t + 1))) base p what most (helpC p what most d) cb x) := by
            show GC _ _ _ _ _ _ _ _
            rw [HX.out, HY.out]
            exact D6.times HTS.out (t + 1)
          have htl2 : t + 1 ≤ 9223372036854775807 := by omega
          clear D6
          go_step
          go_wp2_with fail
          first | go_end0 | ((try simp only [Exit.inBlock, Exit.then]); refine bodyPost_ret (results_none rfl _ _ _) rfl ?_)
          exact ⟨⟨_, rfl⟩, HD7.out, tkw.trans (KTouch.set W7 (by simp [CW.F]) _ _)⟩
end Go.Proofs.YtajfgmlockjmhafDoor

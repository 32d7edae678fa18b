/-
  FWho, GTake, GStep, GTick, CrTick, CrST: joined into one text.
-/
import Derived.Test.YtajfgmlockjmhafGreatDoorFCheck
import Derived.Test.YtajfgmlockjmhafGreatDoorJa5
import Derived.Test.YtajfgmlockjmhafGreatDoorJa4
import Derived.Test.YtajfgmlockjmhafGreatDoorJa2
import Derived.Deep.RegionHeld3
import Derived.Deep.CutRange
import Derived.Deep.RegionWith
import Derived.BigQuiet
import Derived.RangeFuncNested
import Derived.Test.YtajfgmlockjmhafGreatDoorJa9
import Derived.Test.YtajfgmlockjmhafGreatDoorJa1
import Derived.Test.YtajfgmlockjmhafGreatDoorJa3
import Derived.Test.YtajfgmlockjmhafGreatDoorJa7
namespace Go.Proofs.YtajfgmlockjmhafGreatDoor
open Go.RowKit

/-- Who has a tick; the fault. -/
def whoR (n : Int) (l : List S3) (t : Int) : Int × Int := if (fchk n l).2 = 0 then (if t < 0 then (0, 1) else (hold l (t % n), 0)) else (0, (fchk n l).2)

set_option maxRecDepth 100000 in
set_option maxHeartbeats 4000000 in
theorem who_bad (n : Int) (v : Value) (t : Int) (k e : Int) (w : World) (he : e ≠ 0)
    (hk : Calls Tryz.prog 44 #[.int .i64 n, v] w fun ev w' => ev = .returned (.tuple #[.int .i64 k, fErr e]) ∧ Below w.heap.size w w') :
    Calls Tryz.prog 40 #[.int .i64 n, v, .int .i64 t] w fun ev w' => ev = .returned (.tuple #[.int .i64 0, fErr e]) ∧ Below w.heap.size w w' := by
  rw [fErr_not he] at hk ⊢
  go_enter Tryz.func40, Tryz.ntmps40
  go_wp2_with (go_at_call 44; refine hk.mono ?_; rintro ev w1 ⟨rfl, b1⟩; clear hk)
  go_ret2
  exact ⟨rfl, b1⟩
set_option maxRecDepth 100000 in
set_option maxHeartbeats 4000000 in
theorem who_neg (n : Int) (v : Value) (t : Int) (k : Int) (w : World) (ht : t < 0)
    (hk : Calls Tryz.prog 44 #[.int .i64 n, v] w fun ev w' => ev = .returned (.tuple #[.int .i64 k, .nilIface]) ∧ Below w.heap.size w w') :
    Calls Tryz.prog 40 #[.int .i64 n, v, .int .i64 t] w fun ev w' => ev = .returned (.tuple #[.int .i64 0, fErr 1]) ∧ Below w.heap.size w w' := by
  go_enter Tryz.func40, Tryz.ntmps40
  go_wp2_with (go_at_call 44; refine hk.mono ?_; rintro ev w1 ⟨rfl, b1⟩; clear hk)
  go_ret2
  exact ⟨rfl, b1⟩
set_option maxRecDepth 100000 in
set_option maxHeartbeats 4000000 in
theorem who_good (n : Int) (l : List S3) (v : Value) (t : Int) (k : Int) (w : World) (hl : Sps w v l) (hlen : l.length ≤ 12) (hn0 : 1 ≤ n) (hn1 : n ≤ 40) (ht : 0 ≤ t)
    (hk : Calls Tryz.prog 44 #[.int .i64 n, v] w fun ev w' => ev = .returned (.tuple #[.int .i64 k, .nilIface]) ∧ Below w.heap.size w w') :
    Calls Tryz.prog 40 #[.int .i64 n, v, .int .i64 t] w fun ev w' => ev = .returned (.tuple #[.int .i64 (hold l (t % n)), fErr 0]) ∧ Below w.heap.size w w' := by
  have ht' : decide (t < 0) = false := by simp; omega
  have hn' : n ≠ 0 := by omega
  have hh : ∀ W, Below w.heap.size w W → Calls Tryz.prog 54 #[v, .int .i64 (t % n)] W fun e w' => e = .returned (.int .i64 (hold l (t % n))) ∧ Below W.heap.size W w' := fun W hb => by
    exact holder_any l v (t % n) W (hl.all hb) hlen
  have HH : Hid (∀ W, Below w.heap.size w W → Calls Tryz.prog 54 #[v, .int .i64 (t % n)] W fun e w' => e = .returned (.int .i64 (hold l (t % n))) ∧ Below W.heap.size W w') := hh
  clear hh hl
  go_enter Tryz.func40, Tryz.ntmps40
  go_wp2_with (first | (go_at_call 44; refine hk.mono ?_; rintro ev w1 ⟨rfl, b1⟩; clear hk; have h2 := HH.out w1 b1; clear HH) | (go_at_call 54; refine h2.mono ?_; rintro ev w2 ⟨rfl, b2⟩; clear h2))
  go_ret2
  exact ⟨rfl, b1.trans (b2.mono b1.size)⟩
theorem who_any (n : Int) (l : List S3) (v : Value) (t : Int) (w : World) (hl : Sps w v l) :
    Calls Tryz.prog 40 #[.int .i64 n, v, .int .i64 t] w fun ev w' => ev = .returned (.tuple #[.int .i64 (whoR n l t).1, fErr (whoR n l t).2]) ∧ Below w.heap.size w w' := by
  have hk := fcheck_any n l v w hl
  unfold whoR
  by_cases h : (fchk n l).2 = 0
  · obtain ⟨h1, h2, h3, _, _⟩ := fchk_zero h
    rw [h] at hk
    rw [if_pos h]
    by_cases ht : t < 0
    · rw [if_pos ht]
      exact who_neg n v t _ w ht hk
    · rw [if_neg ht]
      exact who_good n l v t _ w hl h3 h1 h2 (by omega) hk
  · rw [if_neg h]
    exact who_bad n v t _ _ w h hk
end Go.Proofs.YtajfgmlockjmhafGreatDoor
namespace Go.Proofs.YtajfgmlockjmhafGreatDoor
open Go.RowKit

set_option maxRecDepth 100000 in
set_option maxHeartbeats 4000000 in
theorem gturn_any (p : PD) (k : KD) (kb base : Nat) (a : GW) (w : World) (h : GK w base p k kb a) (hp : plchk p = 0) (hti : 0 ≤ k.time) :
    Calls Tryz.prog 24 #[.pointer (some ⟨kb, 0, none⟩)] w fun e w' => e = .returned (.int .i64 (hold p.spans (k.time % p.ticks))) ∧ Below w.heap.size w w' := by
  have hfz := (plchk_zero hp).2.2.1
  have hwr : whoR p.ticks p.spans k.time = (hold p.spans (k.time % p.ticks), 0) := by
    unfold whoR
    rw [if_pos hfz, if_neg (by omega)]
  have hsp := h.src.here.2
  obtain ⟨sa, sc, hsv⟩ := hsp.form
  rw [hsv] at hsp
  have HW : Hid (∀ W, Below w.heap.size w W → Calls Tryz.prog 40 #[.int .i64 p.ticks, .slice sa p.spans.length sc, .int .i64 k.time] W fun e w' => e = .returned (.tuple #[.int .i64 (hold p.spans (k.time % p.ticks)), .nilIface]) ∧ Below W.heap.size W w') := fun W hb => by
    have := who_any p.ticks p.spans (.slice sa p.spans.length sc) k.time W (hsp.all hb)
    rw [hwr] at this
    exact this
  have hkb := h.lt.1
  have c1 := h.c1
  have c2 := h.c2
  have c5 := h.c5
  rw [hsv] at c2
  have hcs : ∀ W, Below w.heap.size w W → W.cell? ⟨kb, 1, none⟩ = some (.int .i64 p.ticks) ∧ W.cell? ⟨kb, 2, none⟩ = some (.slice sa p.spans.length sc) ∧ W.cell? ⟨kb, 5, none⟩ = some (.int .i64 k.time) := fun W hb => ⟨(hb.cell (p := ⟨kb, 1, none⟩) hkb).trans c1, (hb.cell (p := ⟨kb, 2, none⟩) hkb).trans c2, (hb.cell (p := ⟨kb, 5, none⟩) hkb).trans c5⟩
  have bQ : Below w.heap.size w w.drew := (Below.refl _ _).drew
  clear h hsp hsv hwr hfz hp
  generalize hold p.spans (k.time % p.ticks) = r at HW ⊢
  go_enter Tryz.func24, Tryz.ntmps24
  go_upto_region 1 with fail
  go_region_held3 (fun w' => w'.cell? ⟨kb, 1, none⟩ = some (.int .i64 p.ticks) ∧ w'.cell? ⟨kb, 2, none⟩ = some (.slice sa p.spans.length sc) ∧ w'.cell? ⟨kb, 5, none⟩ = some (.int .i64 k.time))
    (first | exact ⟨c1, c2, c5⟩ | exact hcs _ bW | go_keep)
    (first
      | (go_at_call 40; refine (HW.out _ bQ).mono ?_; rintro e w1 ⟨rfl, b1⟩; have bW : Below w.heap.size w w1 := bQ.trans (b1.mono (by simp))))
  go_wp2
  go_ret
  exact ⟨rfl, bW⟩
/-- What an op may take. -/
def offG (k : KD) (o : O3) : Int × Bool := if o.1 = 9 then headL (lineAt k o) else (0, false)
set_option maxRecDepth 100000 in
set_option maxHeartbeats 4000000 in
theorem goff_no (kb : Nat) (x y z : Int) (w : World) (h9 : x ≠ 9) :
    Calls Tryz.prog 55 #[.pointer (some ⟨kb, 0, none⟩), .agg #[.int .i64 x, .int .i64 y, .int .i64 z]] w fun e w' => e = .returned (.tuple #[.int .i64 0, .bool false]) ∧ Below w.heap.size w w' := by
  have h9' : (x == 9) = false := by simpa using h9
  have h9'' : (x != 9) = true := by simpa using h9
  go_enter Tryz.func55, Tryz.ntmps55
  go_wp2
  go_ret2
  exact ⟨rfl, (Below.refl _ _).alloc (Nat.le_refl _) _⟩
set_option maxRecDepth 100000 in
set_option maxHeartbeats 4000000 in
theorem goff_yes (p : PD) (k : KD) (kb base : Nat) (a : GW) (y : Int) (n : Nat) (l : LnD) (w : World) (h : GK w base p k kb a) (hl : k.lines[n]? = some l) :
    Calls Tryz.prog 55 #[.pointer (some ⟨kb, 0, none⟩), .agg #[.int .i64 9, .int .i64 y, .int .i64 n]] w fun e w' => e = .returned (.tuple #[.int .i64 (headL l).1, .bool (headL l).2]) ∧ Below w.heap.size w w' := by
  have hn := (List.getElem?_eq_some_iff.1 hl).1
  have hni : (n : Int) < (k.lines.length : Int) := by omega
  obtain ⟨b, u, cap, l', hl', hb, hu, hlv, hcap, hptr, hln⟩ := h.lines.at hn
  obtain rfl : l = l' := Option.some.inj (hl.symm.trans hl')
  have c4 := h.c4
  rw [hlv] at c4
  have hnk := World.new_ne w ⟨kb, 4, none⟩ c4
  have hnl := World.new_ne w ⟨a.lr, n, none⟩ hptr
  have HP : Hid (∀ W, Below w.heap.size w W → Calls Tryz.prog 78 #[.pointer (some ⟨b, 0, none⟩)] W fun e w' => e = .returned (.tuple #[.int .i64 (headL l).1, .bool (headL l).2]) ∧ w' = W) := fun W hb => dpeek_l _ b l u W (hln.below hb)
  clear h hl hl' hb hu hlv hln
  go_enter Tryz.func55, Tryz.ntmps55
  go_upto_region 3 with fail
  have hA : Below w.heap.size w (w.alloc (.cells #[.int .i64 9, .int .i64 y, .int .i64 n] 89)).drew := ((Below.refl _ w).alloc (Nat.le_refl _) _).drew
  have d4 : (w.alloc (.cells #[.int .i64 9, .int .i64 y, .int .i64 n] 89)).drew.cell? ⟨kb, 4, none⟩ = some (.slice (some ⟨a.lr, 0, none⟩) k.lines.length cap) := (hA.cell (p := ⟨kb, 4, none⟩) (wlt c4)).trans c4
  have dl : (w.alloc (.cells #[.int .i64 9, .int .i64 y, .int .i64 n] 89)).drew.cell? ⟨a.lr, n, none⟩ = some (.pointer (some ⟨b, 0, none⟩)) := (hA.cell (p := ⟨a.lr, n, none⟩) (wlt hptr)).trans hptr
  have dn : (w.alloc (.cells #[.int .i64 9, .int .i64 y, .int .i64 n] 89)).drew.cell? ⟨w.heap.size, 2, none⟩ = some (.int .i64 n) := by simp
  go_region_held3 (fun w' => w'.cell? ⟨kb, 4, none⟩ = some (.slice (some ⟨a.lr, 0, none⟩) k.lines.length cap) ∧ w'.cell? ⟨w.heap.size, 2, none⟩ = some (.int .i64 n) ∧ w'.cell? ⟨a.lr, n, none⟩ = some (.pointer (some ⟨b, 0, none⟩)))
    (first | exact ⟨d4, dn, dl⟩ | go_keep)
    (first
      | (go_at_call 78; refine (HP.out _ hA).mono ?_; rintro e w1 ⟨rfl, hw1⟩; subst hw1))
  go_wp2
  go_ret2
  exact ⟨rfl, hA⟩
set_option maxRecDepth 100000 in
set_option maxHeartbeats 4000000 in
theorem gtake_none (p : PD) (k : KD) (kb base : Nat) (a : GW) (n : Nat) (l : LnD) (w : World) (h : GK w base p k kb a) (hl : k.lines[n]? = some l) (hh : (headL l).2 = false) :
    Calls Tryz.prog 57 #[.pointer (some ⟨kb, 0, none⟩), .int .i64 n] w fun e w' => e = .returned (.int .i64 3) ∧ w' = w := by
  have hn := (List.getElem?_eq_some_iff.1 hl).1
  have hni : (n : Int) < (k.lines.length : Int) := by omega
  obtain ⟨b, u, cap, l', hl', hb, hu, hlv, hcap, hptr, hln⟩ := h.lines.at hn
  obtain rfl : l = l' := Option.some.inj (hl.symm.trans hl')
  have c4 := h.c4
  rw [hlv] at c4
  have hx : l.xs = [] := by
    unfold headL at hh
    split at hh
    · assumption
    · cases hh
  rw [hx] at hln
  obtain ⟨ao, cu, rfl⟩ := Ln.none hln
  have HT : Hid (Calls Tryz.prog 82 #[.pointer (some ⟨b, 0, none⟩)] w fun e w' => e = .returned (.tuple #[.int .i64 0, .iface 70 (.int .i64 5)]) ∧ w' = w) := take_none b _ _ _ ao cu w hln.c
  clear h hl hl' hb hu hlv hln hx hh
  go_enter Tryz.func57, Tryz.ntmps57
  go_wp2_with (go_at_call 82; refine HT.out.mono ?_; rintro e w1 ⟨rfl, hw1⟩; subst hw1)
  go_ret
  exact ⟨rfl, rfl⟩
set_option maxRecDepth 100000 in
set_option maxHeartbeats 4000000 in
theorem gtake_some (p : PD) (k : KD) (kb base : Nat) (a : GW) (n : Nat) (l : LnD) (w : World) (h : GK w base p k kb a) (hbw : base ≤ w.heap.size) (hl : k.lines[n]? = some l) (hk : l.w.2.2.1 = 1 ∨ l.w.2.2.1 = 2) (hh : (headL l).2 = true) :
    Calls Tryz.prog 57 #[.pointer (some ⟨kb, 0, none⟩), .int .i64 n] w fun e w' => e = .returned (.int .i64 2) ∧ ∃ a', GK w' base p ⟨k.rooms, k.lines.set n (restL l), k.time⟩ kb a' ∧ KTouch (a.F kb) w w' ∧ ∀ g ∈ a'.F kb, g ∈ a.F kb ∨ w.heap.size ≤ g := by
  have hn := (List.getElem?_eq_some_iff.1 hl).1
  have hni : (n : Int) < (k.lines.length : Int) := by omega
  obtain ⟨b, u, cap, l', hl', hb, hu, hlv, hcap, hptr, hln⟩ := h.lines.at hn
  obtain rfl : l = l' := Option.some.inj (hl.symm.trans hl')
  have c4 := h.c4
  rw [hlv] at c4
  have HT : Hid (Calls Tryz.prog 82 #[.pointer (some ⟨b, 0, none⟩)] w fun e w' => e = .returned (.tuple #[.int .i64 (headL l).1, .nilIface]) ∧ ∃ a', GK w' base p ⟨k.rooms, k.lines.set n (restL l), k.time⟩ kb a' ∧ KTouch (a.F kb) w w' ∧ ∀ g ∈ a'.F kb, g ∈ a.F kb ∨ w.heap.size ≤ g) := by
    refine (dtake_l _ b l u w hk hh hln).mono ?_
    rintro e w' ⟨u', rfl, h3, h4⟩
    exact ⟨rfl, _, h.line hbw hb hu h4 h3⟩
  clear h hl hl' hb hu hlv hln hh hk
  go_enter Tryz.func57, Tryz.ntmps57
  go_wp2_with (go_at_call 82; refine HT.out.mono ?_; rintro e w1 ⟨rfl, hq⟩)
  go_ret
  exact ⟨rfl, hq⟩
set_option maxRecDepth 100000 in
set_option maxHeartbeats 4000000 in
theorem gsend_any (p : PD) (k : KD) (kb base : Nat) (a : GW) (n : Nat) (l : LnD) (x : Int) (w : World) (h : GK w base p k kb a) (hbw : base ≤ w.heap.size) (hl : k.lines[n]? = some l) (hk : (l.w.2.2.1 = 1 ∧ l.w.2.2.2 = 1) ∨ l.w.2.2.1 = 2) (hx : 0 ≤ x ∧ x ≤ 999) (hls : 0 ≤ l.ls ∧ l.ls < 1000000000) (hxs : l.xs.length ≤ 1000000) :
    Calls Tryz.prog 58 #[.pointer (some ⟨kb, 0, none⟩), .int .i64 n, .int .i64 x] w fun e w' => e = .returned (.int .i64 (if fitL l = true then 1 else 3)) ∧ ∃ a', GK w' base p ⟨k.rooms, k.lines.set n (putL l x), k.time⟩ kb a' ∧ KTouch (a.F kb) w w' ∧ ∀ g ∈ a'.F kb, g ∈ a.F kb ∨ w.heap.size ≤ g := by
  have hn := (List.getElem?_eq_some_iff.1 hl).1
  have hni : (n : Int) < (k.lines.length : Int) := by omega
  obtain ⟨b, u, cap, l', hl', hb, hu, hlv, hcap, hptr, hln⟩ := h.lines.at hn
  obtain rfl : l = l' := Option.some.inj (hl.symm.trans hl')
  have c4 := h.c4
  rw [hlv] at c4
  have HT : Hid (Calls Tryz.prog 83 #[.pointer (some ⟨b, 0, none⟩), .int .i64 x] w fun e w' => e = .returned (.tuple #[.bool (fitL l), .nilIface]) ∧ ∃ a', GK w' base p ⟨k.rooms, k.lines.set n (putL l x), k.time⟩ kb a' ∧ KTouch (a.F kb) w w' ∧ ∀ g ∈ a'.F kb, g ∈ a.F kb ∨ w.heap.size ≤ g) := by
    refine (dsend_l _ b l u x w hk hx hls hxs hln).mono ?_
    rintro e w' ⟨u', rfl, h3, h4⟩
    exact ⟨rfl, _, h.line hbw hb hu h4 h3⟩
  clear h hl hl' hb hu hlv hln hk hls hxs
  cases hfl : fitL l with
  | true =>
    rw [hfl] at HT
    go_enter Tryz.func58, Tryz.ntmps58
    go_wp2_with (go_at_call 83; refine HT.out.mono ?_; rintro e w1 ⟨rfl, hq⟩)
    go_ret
    exact ⟨rfl, hq⟩
  | false =>
    rw [hfl] at HT
    go_enter Tryz.func58, Tryz.ntmps58
    go_wp2_with (go_at_call 83; refine HT.out.mono ?_; rintro e w1 ⟨rfl, hq⟩)
    go_ret
    exact ⟨rfl, hq⟩
end Go.Proofs.YtajfgmlockjmhafGreatDoor
namespace Go.Proofs.YtajfgmlockjmhafGreatDoor
open Go.RowKit

/-- What is there to be taken, if it is offered. -/
theorem off_ok {p : PD} {k : KD} (hp : plchk p = 0) (hk : KOk p k) {r : Nat} {c : List O3} {s : St} {o : O3} (h : Turn p k r c s o) : (offG k o).2 = true → 0 ≤ (offG k o).1 ∧ (offG k o).1 ≤ 999 := by
  unfold offG
  split
  · rename_i ht
    obtain ⟨x, hx, _⟩ := (op_wire hp h.hc (List.mem_of_getElem? h.ho)).2 ht
    have hlt : o.2.2.toNat < k.lines.length := by rw [hk.ll]; exact (List.getElem?_eq_some_iff.1 hx).1
    have hl : k.lines[o.2.2.toNat]? = some k.lines[o.2.2.toNat] := List.getElem?_eq_getElem hlt
    have e : lineAt k o = k.lines[o.2.2.toNat] := by simp [lineAt, List.getD, hl]
    rw [e]
    exact headL_ok (hk.lines _ _ _ hl hx)
  · intro hh; cases hh
/-- The wire of an op that takes or sends. -/
theorem port_line {p : PD} {k : KD} (hp : plchk p = 0) (hk : KOk p k) {r : Nat} {c : List O3} {s : St} {o : O3} (h : Turn p k r c s o) (ho : o.1 = 8 ∨ o.1 = 9) : ∃ (n : Nat) (l : LnD), o.2.2 = (n : Int) ∧ k.lines[n]? = some l ∧ ((l.w.2.2.1 = 1 ∧ l.w.2.2.2 = 1) ∨ l.w.2.2.1 = 2) ∧ 0 ≤ l.ls ∧ l.ls ≤ k.time + 10000000 ∧ l.xs.length ≤ 1000000 := by
  have hx : ∃ x, p.wires[o.2.2.toNat]? = some x := by
    rcases ho with h8 | h9
    · obtain ⟨x, hx, _⟩ := (op_wire hp h.hc (List.mem_of_getElem? h.ho)).1 h8
      exact ⟨x, hx⟩
    · obtain ⟨x, hx, _⟩ := (op_wire hp h.hc (List.mem_of_getElem? h.ho)).2 h9
      exact ⟨x, hx⟩
  obtain ⟨x, hx⟩ := hx
  have hlt : o.2.2.toNat < k.lines.length := by rw [hk.ll]; exact (List.getElem?_eq_some_iff.1 hx).1
  have hl : k.lines[o.2.2.toNat]? = some k.lines[o.2.2.toNat] := List.getElem?_eq_getElem hlt
  have hlo := hk.lines _ _ _ hl hx
  have hkx := wchk_kind ((wschk_ok (plchk_zero hp).2.2.2.1).2 x (List.mem_of_getElem? hx))
  refine ⟨o.2.2.toNat, _, by have := (ok3_range h.ok).2.2.2.2.1; omega, hl, ?_, hlo.ls, hk.lost _ (List.mem_of_getElem? hl), ?_⟩
  · rw [hlo.w]
    rcases hkx with ⟨h1, h2⟩ | ⟨h1, _⟩
    · exact Or.inl ⟨h1, h2⟩
    · exact Or.inr h1
  · rcases hkx with ⟨h1, _⟩ | ⟨h1, h2, h3⟩
    · have := hlo.one h1
      omega
    · have := hlo.deep h1
      omega
set_option maxRecDepth 100000 in
set_option maxHeartbeats 8000000 in
theorem gstep_any (p : PD) (k : KD) (kb base : Nat) (a : GW) (r : Nat) (w : World) (hfm : Forms w) (h : GK w base p k kb a) (hbw : base ≤ w.heap.size) (hp : plchk p = 0) (hk : KOk p k) (ht : k.time < 100000000) (hr : r < p.code.length) :
    Calls Tryz.prog 41 #[.pointer (some ⟨kb, 0, none⟩), .int .i64 r] w fun e w' => e = .returned (.int .i64 (turnK p k r).2.2) ∧ ∃ a', GK w' base p ⟨(turnK p k r).1.rooms, (turnK p k r).1.lines, k.time⟩ kb a' ∧ KTouch (a.F kb) w w' ∧ ∀ g ∈ a'.F kb, g ∈ a.F kb ∨ w.heap.size ≤ g := by
  obtain ⟨c, s, o, htn⟩ := turn_of hp hk hr
  have HTN : Hid (Turn p k r c s o) := htn
  have H : Hid (GK w base p k kb a) := h
  have hcd := h.src.here.1
  obtain ⟨ca, cc, hcv⟩ := hcd.form
  rw [hcv] at hcd
  obtain ⟨cb, co, u, n, g, c', rfl, hclt, hcy, hcc, rfl, hops⟩ := hcd.at hr
  obtain rfl : c = c' := by
    rw [htn.hc] at hcy
    exact Option.some.inj hcy
  obtain ⟨pn, hpn⟩ : ∃ n : Nat, s.p = n := ⟨s.p.toNat, by have := (stOk_iff.1 htn.st).1; omega⟩
  have hpl : pn < c.length := by have := (stOk_iff.1 htn.st).2.1; omega
  have hpi : (pn : Int) < (c.length : Int) := by omega
  have hoc : c[pn]? = some o := by
    have := htn.ho
    rw [hpn] at this
    simpa using this
  obtain ⟨ob, oo, ocap, hoe, holt, hoce⟩ : ∃ b off cap, (Value.slice u c.length g) = .slice (some ⟨b, off, none⟩) c.length cap ∧ b < w.heap.size ∧ ∀ (i : Nat) o, c[i]? = some o → w.cell? ⟨b, off + i * 3, none⟩ = some (.int .i64 o.1) ∧ w.cell? ⟨b, off + i * 3 + 1, none⟩ = some (.int .i64 o.2.1) ∧ w.cell? ⟨b, off + i * 3 + 2, none⟩ = some (.int .i64 o.2.2) := by
    rcases hops with ⟨h0, _⟩ | h1
    · rw [h0] at hpl
      simp at hpl
    · exact h1
  injection hoe with hoe1 hoe2 hoe3
  subst hoe1
  clear hoe2 hoe3
  obtain ⟨o0, o1, o2⟩ := hoce pn o hoc
  have HG : Hid (∀ W, Below w.heap.size w W → ∀ g0 g1, (g1 = true → 0 ≤ g0 ∧ g0 ≤ 999) → Calls Tryz.prog 56 #[.slice (some ⟨ob, oo, none⟩) c.length g, .agg #[.int .i64 pn, .int .i64 (s.c 0), .int .i64 (s.c 1), .int .i64 (s.c 2), .int .i64 (s.c 3), .int .i64 (s.c 4), .int .i64 (s.c 5), .bool s.f], .int .i64 g0, .bool g1] W fun e w' => ∃ s', Hid (s' = stepF o s c.length g0 g1) ∧ e = .returned (.tuple #[.agg #[.int .i64 s'.p, .int .i64 (s'.c 0), .int .i64 (s'.c 1), .int .i64 (s'.c 2), .int .i64 (s'.c 3), .int .i64 (s'.c 4), .int .i64 (s'.c 5), .bool s'.f], .int .i64 (sendF o s), .nilIface]) ∧ Below W.heap.size W w') := fun W hb g0 g1 hg => by
    have h1 := rstep_any c (.slice (some ⟨ob, oo, none⟩) c.length g) s g0 g1 W (hfm.all hb) (hops.all hb)
    have h2 : gchk c s g0 g1 = 0 := by
      unfold gchk rchk
      rw [if_pos htn.ck, if_pos htn.st, if_pos rfl, if_neg (fun hn => by have := hg hn.1; omega)]
    have hod : c.getD s.p.toNat (0, 0, 0) = o := by simp [List.getD, htn.ho]
    unfold stepT at h1
    rw [if_pos h2, hod] at h1
    rw [← hpn]
    refine h1.mono ?_
    rintro e w' ⟨rfl, hb'⟩
    exact ⟨_, rfl, rfl, hb'⟩
  have hrk : k.rooms.length = p.code.length := hk.rl
  have hri : (r : Int) < (p.code.length : Int) := by omega
  obtain ⟨s0, s1, s2, s3, s4, s5, s6, s7⟩ := h.rooms r s htn.hs
  rw [hpn] at s0
  have k0 := h.c0
  have k3 := h.c3
  rw [hcv] at k0
  rw [hrk] at k3
  have hn0 := World.new_ne w ⟨kb, 0, none⟩ k0
  have hnr := World.new_ne w ⟨a.rb, _, none⟩ s0
  have hncb := World.new_ne w ⟨cb, _, none⟩ hcc
  have HF : Hid (∀ g ∈ a.F kb, g < w.heap.size) := h.flt
  clear h hops hoce hcd hcv hcy htn
  go_enter Tryz.func41, Tryz.ntmps41
  go_upto_region 1 with fail
  go_cut [5, 6] from 13 to 26 (fun s5 s6 wx => s5 = .slice (some ⟨ob, oo, none⟩) c.length g ∧ s6 = .pointer (some ⟨w.heap.size, 0, none⟩) ∧ StB wx w.heap.size s ∧ Below w.heap.size w wx)
  case first =>
    go_region_held3 (fun w' => (w'.cell? ⟨kb, 0, none⟩ = some (.slice (some ⟨cb, co, none⟩) p.code.length cc) ∧ w'.cell? ⟨kb, 3, none⟩ = some (.slice (some ⟨a.rb, 0, none⟩) p.code.length a.rcap) ∧ w'.cell? ⟨cb, co + r, none⟩ = some (.slice (some ⟨ob, oo, none⟩) c.length g)) ∧ (w'.cell? ⟨a.rb, r * 8, none⟩ = some (.int .i64 pn) ∧ w'.cell? ⟨a.rb, r * 8 + 1, none⟩ = some (.int .i64 (s.c 0)) ∧ w'.cell? ⟨a.rb, r * 8 + 2, none⟩ = some (.int .i64 (s.c 1)) ∧ w'.cell? ⟨a.rb, r * 8 + 3, none⟩ = some (.int .i64 (s.c 2))) ∧ (w'.cell? ⟨a.rb, r * 8 + 4, none⟩ = some (.int .i64 (s.c 3)) ∧ w'.cell? ⟨a.rb, r * 8 + 5, none⟩ = some (.int .i64 (s.c 4)) ∧ w'.cell? ⟨a.rb, r * 8 + 6, none⟩ = some (.int .i64 (s.c 5)) ∧ w'.cell? ⟨a.rb, r * 8 + 7, none⟩ = some (.bool s.f)))
      (first | exact ⟨⟨k0, k3, hcc⟩, ⟨s0, s1, s2, s3⟩, s4, s5, s6, s7⟩ | go_keep)
      (fail)
    go_wp2_with fail
    go_meet
    case rel => exact ⟨rfl, rfl, by rw [StB, hpn]; exact World.alloc_heap_new w _, ((Below.refl _ w).alloc (Nat.le_refl _) _).drew⟩
  case rest =>
  obtain ⟨rfl, rfl, hsb, hbc⟩ := hcut
  clear s0 s1 s2 s3 s4 s5 s6 s7 k0 k3 hn0 hnr hncb hcc
  replace o0 := (hbc.cell (p := ⟨ob, _, none⟩) holt).trans o0
  replace o1 := (hbc.cell (p := ⟨ob, _, none⟩) holt).trans o1
  replace o2 := (hbc.cell (p := ⟨ob, _, none⟩) holt).trans o2
  obtain ⟨s0, s1, s2, s3, s4, s5, s6, s7⟩ := hsb.cs
  simp only [Nat.zero_add] at s1 s2 s3 s4 s5 s6 s7
  rw [hpn] at s0
  go_upto_region 3 with fail
  have bA : Below wc.heap.size wc (wc.alloc (.cells #[.int .i64 o.1, .int .i64 o.2.1, .int .i64 o.2.2] 89)) := (Below.refl _ _).alloc (Nat.le_refl _) _
  have hob6 : (wc.alloc (.cells #[.int .i64 o.1, .int .i64 o.2.1, .int .i64 o.2.2] 89)).heap[wc.heap.size]? = some (.cells #[.int .i64 o.1, .int .i64 o.2.1, .int .i64 o.2.2] 89 (0, 0)) := World.alloc_heap_new _ _
  have hb6 : Below w.heap.size w (wc.alloc (.cells #[.int .i64 o.1, .int .i64 o.2.1, .int .i64 o.2.2] 89)) := hbc.trans (bA.mono hbc.size)
  have hsb6 : StB (wc.alloc (.cells #[.int .i64 o.1, .int .i64 o.2.1, .int .i64 o.2.2] 89)) w.heap.size s := (bA.block _ (Array.getElem?_eq_some_iff.1 hsb).1).trans hsb
  have hb2 : w.heap.size ≤ wc.heap.size := hbc.size
  clear s0 s1 s2 s3 s4 s5 s6 s7 o0 o1 o2 bA hsb hbc
  generalize wc.alloc (.cells #[.int .i64 o.1, .int .i64 o.2.1, .int .i64 o.2.2] 89) = W6 at hob6 hb6 hsb6 ⊢
  generalize wc.heap.size = b2 at hob6 hb2 ⊢
  have hocs : W6.cell? ⟨b2, 0, none⟩ = some (.int .i64 o.1) ∧ W6.cell? ⟨b2, 1, none⟩ = some (.int .i64 o.2.1) ∧ W6.cell? ⟨b2, 2, none⟩ = some (.int .i64 o.2.2) := by simp [World.cell?, hob6]
  obtain ⟨o0, o1, o2⟩ := hocs
  have HO : Hid (Calls Tryz.prog 55 #[.pointer (some ⟨kb, 0, none⟩), .agg #[.int .i64 o.1, .int .i64 o.2.1, .int .i64 o.2.2]] W6 fun e w' => e = .returned (.tuple #[.int .i64 (offG k o).1, .bool (offG k o).2]) ∧ Below W6.heap.size W6 w') := by
    by_cases h9 : o.1 = 9
    · obtain ⟨bn, l, hbn, hl, _⟩ := port_line hp hk HTN.out (Or.inr h9)
      have e : offG k o = headL l := by
        unfold offG lineAt
        rw [if_pos h9, hbn, Int.toNat_natCast]
        simp [List.getD, hl]
      rw [e, h9, hbn]
      exact goff_yes p k kb base a o.2.1 bn l W6 (H.out.all hb6) hl
    · have e : offG k o = (0, false) := by
        unfold offG
        rw [if_neg h9]
      rw [e]
      exact goff_no kb _ _ _ W6 h9
  have hgo := off_ok hp hk HTN.out
  obtain ⟨g0, hg0⟩ : ∃ x, (offG k o).1 = x := ⟨_, rfl⟩
  obtain ⟨g1, hg1⟩ : ∃ x, (offG k o).2 = x := ⟨_, rfl⟩
  rw [hg0, hg1] at HO hgo
  go_upto_region 4 with (go_at_call 55; refine HO.out.mono ?_; rintro e w7 ⟨rfl, b7⟩)
  have hb7 := hb6.trans (b7.mono hb6.size)
  have hsb7 : StB w7 w.heap.size s := (b7.block _ (Array.getElem?_eq_some_iff.1 hsb6).1).trans hsb6
  have hob7 := (b7.block _ (Array.getElem?_eq_some_iff.1 hob6).1).trans hob6
  clear o0 o1 o2 hob6 hsb6 b7 HO hb6
  obtain ⟨s0, s1, s2, s3, s4, s5, s6, s7⟩ := hsb7.cs
  simp only [Nat.zero_add] at s1 s2 s3 s4 s5 s6 s7
  rw [hpn] at s0
  go_upto_region 7 with (go_at_call 56; refine (HG.out w7 hb7 g0 g1 hgo).mono ?_; rintro e w1 ⟨s', hs', rfl, b1⟩)
  have bA : Below w1.heap.size w1 (w1.alloc (.cells #[.int .i64 s'.p, .int .i64 (s'.c 0), .int .i64 (s'.c 1), .int .i64 (s'.c 2), .int .i64 (s'.c 3), .int .i64 (s'.c 4), .int .i64 (s'.c 5), .bool s'.f] 47)) := (Below.refl _ _).alloc (Nat.le_refl _) _
  have bB := b1.trans (bA.mono b1.size)
  have hb8 := hb7.trans (bB.mono hb7.size)
  have hsb8 : StB _ w.heap.size s := (bB.block _ (Array.getElem?_eq_some_iff.1 hsb7).1).trans hsb7
  have hob8 := (bB.block _ (Array.getElem?_eq_some_iff.1 hob7).1).trans hob7
  have hn8 : StB (w1.alloc (.cells #[.int .i64 s'.p, .int .i64 (s'.c 0), .int .i64 (s'.c 1), .int .i64 (s'.c 2), .int .i64 (s'.c 3), .int .i64 (s'.c 4), .int .i64 (s'.c 5), .bool s'.f] 47)) w1.heap.size s' := World.alloc_heap_new _ _
  have hnb : w.heap.size ≤ w1.heap.size := Nat.le_trans hb7.size b1.size
  clear s0 s1 s2 s3 s4 s5 s6 s7 bA bB b1 hb7 hsb7 hob7 HG
  generalize w1.alloc (.cells #[.int .i64 s'.p, .int .i64 (s'.c 0), .int .i64 (s'.c 1), .int .i64 (s'.c 2), .int .i64 (s'.c 3), .int .i64 (s'.c 4), .int .i64 (s'.c 5), .bool s'.f] 47) = W8 at hb8 hsb8 hob8 hn8 ⊢
  generalize w1.heap.size = nb at hn8 hnb ⊢
  obtain ⟨n0, n1, n2, n3, n4, n5, n6, n7⟩ := hn8.cs
  simp only [Nat.zero_add] at n1 n2 n3 n4 n5 n6 n7
  have D8 := H.out.all hb8
  have k3 := D8.c3
  rw [hrk] at k3
  have hth : ∀ nq, (W8.drewN nq).there a.rb (r * 8) 8 := fun nq => there_st (D8.rooms r s HTN.out.hs) D8.rf nq
  go_cut [49] from 49 to 55 (fun _ wx => ∃ nq, wx = setSt (W8.drewN nq) a.rb (r * 8) s')
  case first =>
    refine wp_region_quiet_last (by kernel_rfl) rfl (by decide +kernel) (by decide +kernel) ?_
    simp only [List.dropLast_cons_cons, List.dropLast_singleton]
    repeat (go_big_quiet_step (fail))
    refine wpQuiet_nil ?_
    intro _ hw'
    obtain ⟨nq, hw''⟩ := hw'
    subst hw''
    refine wp_store_mid _ _ _ rfl a.rb (r * 8) _ rfl rfl (hth nq) rfl (by simp [Value.oneCell']) ?_
    go_wp2_with fail
    go_meet
    case rel => exact ⟨nq, rfl⟩
  case rest =>
  obtain ⟨nq, hwx⟩ := hcut
  have bN : Below W8.heap.size W8 (W8.drewN nq) := below_dN (Below.refl _ _) nq
  have D9 := (D8.all bN).set HTN.out.hs s'
  have hrm : a.rb ∈ a.F kb := by simp [GW.F]
  have tk9 : KTouch [a.rb] W8 (setSt (W8.drewN nq) a.rb (r * 8) s') := (KTouch.of bN).trans (setSt_touch _ (by simp) _ _)
  rw [← hwx] at D9 tk9
  have hnm : ∀ m, w.heap.size ≤ m → m ∉ [a.rb] := fun m h1 h2 => by
    rw [List.mem_singleton] at h2
    subst h2
    have := HF.out _ hrm
    omega
  have tk9w : KTouch (a.F kb) w wc := (KTouch.of hb8).trans (tk9.mono (by simp [GW.F]))
  have hsb9 : StB wc w.heap.size s := (tk9.block _ (Array.getElem?_eq_some_iff.1 hsb8).1 (hnm _ (Nat.le_refl _))).trans hsb8
  have hob9 := (tk9.block _ (Array.getElem?_eq_some_iff.1 hob8).1 (hnm _ hb2)).trans hob8
  have hn9 : StB wc nb s' := (tk9.block _ (Array.getElem?_eq_some_iff.1 hn8).1 (hnm _ hnb)).trans hn8
  have hbw9 : base ≤ wc.heap.size := Nat.le_trans hbw tk9w.size
  clear hwx bN tk9 D8 hb8 hsb8 hob8 hn8 n0 n1 n2 n3 n4 n5 n6 n7 k3 hth
  generalize wc = W9 at *
  obtain ⟨_, _, _, _, _, _, _, s7⟩ := hsb9.cs
  obtain ⟨_, _, _, _, _, _, _, n7⟩ := hn9.cs
  simp only [Nat.zero_add] at s7 n7
  have hocs : W9.cell? ⟨b2, 0, none⟩ = some (.int .i64 o.1) ∧ W9.cell? ⟨b2, 1, none⟩ = some (.int .i64 o.2.1) ∧ W9.cell? ⟨b2, 2, none⟩ = some (.int .i64 o.2.2) := by simp [World.cell?, hob9]
  obtain ⟨o0, o1, o2⟩ := hocs
  have hsf : s'.f = if s.f = true then true else decide (o.1 = 11) := by
    rw [hs'.out]
    unfold stepF
    cases hq : s.f <;> simp [hq]
  cases hsfe : s.f with
  | true =>
    have e9 := turn_failed HTN.out hsfe
    have hss : s' = s := by
      rw [hs'.out]
      unfold stepF
      rw [if_pos hsfe]
    rw [hss, set_same HTN.out.hs] at D9
    rw [hsfe] at s7
    have HE : Hid (turnK p k r = (⟨k.rooms, k.lines, k.time + 1⟩, s.p, 5)) := e9
    clear e9
    go_wp2
    go_ret
    rw [HE.out]
    exact ⟨rfl, a, D9, tk9w, fun g hg => Or.inl hg⟩
  | false =>
    rw [hsfe] at s7
    rw [hsfe, if_neg (by decide)] at hsf
    rw [hsf] at n7
    by_cases h9 : o.1 = 9
    · obtain ⟨bn, l, hbn, hl, hkd, hls0, hls1, hxl⟩ := port_line hp hk HTN.out (Or.inr h9)
      have eo : offG k o = headL l := by
        unfold offG lineAt
        rw [if_pos h9, hbn, Int.toNat_natCast]
        simp [List.getD, hl]
      have h11 : decide (o.1 = 11) = false := by rw [h9]; decide
      rw [h11] at n7
      rw [h9] at o0
      rw [hbn] at o2
      have hbt : o.2.2.toNat = bn := by rw [hbn]; simp
      cases hhd : (headL l).2 with
      | true =>
        have e9 := turn_takes HTN.out hsfe h9 (by rw [hbt]; exact hl) hhd
        have hst : s' = stepF o s c.length (headL l).1 true := by rw [hs'.out, ← hg0, ← hg1, eo, hhd]
        rw [hbt, ← hst] at e9
        have HE : Hid (turnK p k r = (⟨k.rooms.set r s', k.lines.set bn (restL l), k.time + 1⟩, s.p, 2)) := e9
        have HT : Hid (Calls Tryz.prog 57 #[.pointer (some ⟨kb, 0, none⟩), .int .i64 bn] W9 fun e w' => e = .returned (.int .i64 2) ∧ ∃ a', GK w' base p ⟨k.rooms.set r s', k.lines.set bn (restL l), k.time⟩ kb a' ∧ KTouch (a.F kb) W9 w' ∧ ∀ g ∈ a'.F kb, g ∈ a.F kb ∨ W9.heap.size ≤ g) := gtake_some p ⟨k.rooms.set r s', k.lines, k.time⟩ kb base a bn l W9 D9 hbw9 hl (hkd.imp And.left id) hhd
        clear e9 hst
        go_wp2_with (go_at_call 57; refine HT.out.mono ?_; rintro e w2 ⟨rfl, a', hq1, hq2, hq3⟩)
        go_ret
        rw [HE.out]
        exact ⟨rfl, a', hq1, tk9w.trans hq2, fun g hg => (hq3 g hg).imp id (fun h => Nat.le_trans tk9w.size h)⟩
      | false =>
        have e9 := turn_waits HTN.out hsfe h9 (by rw [hbt]; exact hl) hhd
        have hhz : (headL l).1 = 0 := by
          unfold headL at hhd ⊢
          split
          · rfl
          · rename_i hx
            rw [hx] at hhd
            cases hhd
        have hst : s' = stepF o s c.length 0 false := by rw [hs'.out, ← hg0, ← hg1, eo, hhd, hhz]
        rw [← hst] at e9
        have HE : Hid (turnK p k r = (⟨k.rooms.set r s', k.lines, k.time + 1⟩, s.p, 3)) := e9
        have HT : Hid (Calls Tryz.prog 57 #[.pointer (some ⟨kb, 0, none⟩), .int .i64 bn] W9 fun e w' => e = .returned (.int .i64 3) ∧ w' = W9) := gtake_none p ⟨k.rooms.set r s', k.lines, k.time⟩ kb base a bn l W9 D9 hl hhd
        clear e9 hst
        go_wp2_with (go_at_call 57; refine HT.out.mono ?_; rintro e w2 ⟨rfl, hw2⟩)
        go_ret
        rw [HE.out]
        exact ⟨rfl, a, D9, tk9w, fun g hg => Or.inl hg⟩
    · have h9' : (o.1 == 9) = false := by simpa using h9
      have eo : offG k o = (0, false) := by
        unfold offG
        rw [if_neg h9]
      have hst : s' = stepF o s c.length 0 false := by rw [hs'.out, ← hg0, ← hg1, eo]
      by_cases h8 : o.1 = 8
      · obtain ⟨bn, l, hbn, hl, hkd, hls0, hls1, hxl⟩ := port_line hp hk HTN.out (Or.inl h8)
        have h11 : decide (o.1 = 11) = false := by rw [h8]; decide
        rw [h11] at n7
        rw [hbn] at o2
        have hbt : o.2.2.toNat = bn := by rw [hbn]; simp
        have e9 := turn_sends HTN.out hsfe h8 (by rw [hbt]; exact hl)
        have hsn : sendF o s = s.c o.2.1.toNat := by
          unfold sendF sentF
          rw [hsfe, if_neg (by decide), if_pos h8]
        have hsr := sendK_range HTN.out
        have hx0 : 0 ≤ sendF o s := by
          rw [hsn]
          have hr := (ok3_range HTN.out.ok).2.2
          have hb := (bA_le o.1).2
          exact ((stOk_iff.1 HTN.out.st).2.2 o.2.1.toNat (by omega)).1
        rw [hbt, ← hst, ← hsn] at e9
        rw [h8] at o0
        have hsd := gsend_any p ⟨k.rooms.set r s', k.lines, k.time⟩ kb base a bn l (sendF o s) W9 D9 hbw9 hl hkd ⟨hx0, hsr.2.1⟩ ⟨hls0, by omega⟩ hxl
        generalize (if fitL l = true then (1 : Int) else 3) = qv at hsd e9
        have HE : Hid (turnK p k r = (⟨k.rooms.set r s', k.lines.set bn (putL l (sendF o s)), k.time + 1⟩, s.p, qv)) := e9
        have HT : Hid (Calls Tryz.prog 58 #[.pointer (some ⟨kb, 0, none⟩), .int .i64 bn, .int .i64 (sendF o s)] W9 fun e w' => e = .returned (.int .i64 qv) ∧ ∃ a', GK w' base p ⟨k.rooms.set r s', k.lines.set bn (putL l (sendF o s)), k.time⟩ kb a' ∧ KTouch (a.F kb) W9 w' ∧ ∀ g ∈ a'.F kb, g ∈ a.F kb ∨ W9.heap.size ≤ g) := hsd
        clear hsd
        clear e9 hst hsn
        go_wp2_with (go_at_call 58; refine HT.out.mono ?_; rintro e w2 ⟨rfl, a', hq1, hq2, hq3⟩)
        go_ret
        rw [HE.out]
        exact ⟨rfl, a', hq1, tk9w.trans hq2, fun g hg => (hq3 g hg).imp id (fun h => Nat.le_trans tk9w.size h)⟩
      · have h8' : (o.1 == 8) = false := by simpa using h8
        have e9 := turn_else HTN.out hsfe h8 h9
        rw [← hst] at e9
        have HE : Hid (turnK p k r = (⟨k.rooms.set r s', k.lines, k.time + 1⟩, s.p, if o.1 = 11 then 4 else 0)) := e9
        clear e9 hst
        by_cases h11 : o.1 = 11
        · have h11' : decide (o.1 = 11) = true := decide_eq_true h11
          rw [h11'] at n7
          go_wp2
          go_ret
          rw [HE.out, if_pos h11]
          exact ⟨rfl, a, D9, tk9w, fun g hg => Or.inl hg⟩
        · have h11' : decide (o.1 = 11) = false := decide_eq_false h11
          rw [h11'] at n7
          go_wp2
          go_ret
          rw [HE.out, if_neg h11]
          exact ⟨rfl, a, D9, tk9w, fun g hg => Or.inl hg⟩
end Go.Proofs.YtajfgmlockjmhafGreatDoor
namespace Go.Proofs.YtajfgmlockjmhafGreatDoor
open Go.RowKit

set_option maxRecDepth 100000 in
set_option maxHeartbeats 8000000 in
theorem gtick_any (p : PD) (k : KD) (kb base : Nat) (a : GW) (w : World) (hfm : Forms w) (h : GK w base p k kb a) (hbw : base ≤ w.heap.size) (hp : plchk p = 0) (hk : KOk p k) (ht : k.time < 100000000) :
    Calls Tryz.prog 25 #[.pointer (some ⟨kb, 0, none⟩)] w fun e w' => e = .returned (evA (tickK p p.spans k).2) ∧ ∃ a', GK w' base p (tickK p p.spans k).1 kb a' ∧ KTouch (a.F kb) w w' ∧ ∀ g ∈ a'.F kb, g ∈ a.F kb ∨ w.heap.size ≤ g := by
  have hkb := h.lt.1
  have hw0 : Below w.heap.size w (w.alloc (.cells #[.int .i64 0, .int .i64 0, .int .i64 0, .int .i64 0] 43)) := (Below.refl _ w).alloc (Nat.le_refl _) _
  have H : Hid (GK w base p k kb a) := h
  have hti := hk.time
  have HWho : Hid (∀ W, Below w.heap.size w W → Calls Tryz.prog 24 #[.pointer (some ⟨kb, 0, none⟩)] W fun e w' => e = .returned (.int .i64 (hold p.spans (k.time % p.ticks))) ∧ Below W.heap.size W w') := fun W hb => gturn_any p k kb base a W (H.out.all hb) hp hti
  have HF : Hid (∀ g ∈ a.F kb, g < w.heap.size) := h.flt
  have hwr := who_room hp (k.time % p.ticks)
  have c5 := h.c5
  obtain ⟨r, hr⟩ : ∃ r, r = hold p.spans (k.time % p.ticks) := ⟨_, rfl⟩
  rw [← hr] at HWho hwr
  have HR : Hid (r = hold p.spans (k.time % p.ticks)) := hr
  clear hr h
  go_enter Tryz.func25, Tryz.ntmps25
  go_upto_region 1 with fail
  go_cut [3] from 4 to 10 (fun s3 wx => ∃ e2, s3 = .pointer (some ⟨e2, 0, none⟩) ∧ Ev w wx e2 k.time r 0 0 ∧ Below w.heap.size w wx)
  case first =>
    have hc1 : ∀ W, Below w.heap.size w W → W.cell? ⟨kb, 5, none⟩ = some (.int .i64 k.time) := fun W hb => (hb.cell (p := ⟨kb, 5, none⟩) hkb).trans c5
    have hn6 := World.new_ne w ⟨kb, 5, none⟩ c5
    have hA : Below w.heap.size w (w.alloc (.cells #[.int .i64 0, .int .i64 0, .int .i64 0, .int .i64 0] 43)).drew := hw0.drew
    have hA2 : Below w.heap.size w (((w.alloc (.cells #[.int .i64 0, .int .i64 0, .int .i64 0, .int .i64 0] 43)).alloc (.cells #[.int .i64 0, .int .i64 0, .int .i64 0, .int .i64 0] 43)).drew) := (hw0.alloc (by simp) _).drew
    go_region_held3 (fun w' => w'.cell? ⟨kb, 5, none⟩ = some (.int .i64 k.time))
      (first | exact hc1 _ hA | exact hc1 _ hA2 | exact hc1 _ hB1 | exact hc1 _ hB2 | exact hc1 _ (hB1.alloc hB1.size _) | exact hc1 _ ((((hB2.setCell (p := ⟨w.heap.size + 1, 0, none⟩) (by simp) _).setCell (p := ⟨w.heap.size + 1, 1, none⟩) (by simp) _).setCell (p := ⟨w.heap.size + 1, 2, none⟩) (by simp) _).setCell (p := ⟨w.heap.size + 1, 3, none⟩) (by simp) _) | go_keep)
      (first
        | (go_at_call 24; refine (HWho.out _ hA).mono ?_; rintro e w1 ⟨rfl, b1⟩; have hB1 : Below w.heap.size w w1 := hA.trans (b1.mono (by simp)))
        | (go_at_call 24; refine (HWho.out _ hA2).mono ?_; rintro e w1 ⟨rfl, b1⟩; have hB2 : Below w.heap.size w w1 := hA2.trans (b1.mono (by simp; omega)); obtain ⟨⟨z0, z1, z2, z3⟩, y0, y1, y2, y3⟩ := ev_box (w := w) b1))
    · go_wp2_with fail
      go_meet
      case rel =>
        refine ⟨w1.heap.size, rfl, ⟨?_, ?_, ?_, ?_⟩, hB1.alloc hB1.size _⟩
        · exact (Below.heap_alloc _ _ _ (by have := b1.size; simp at this; omega)).trans ((b1.block _ (by simp)).trans (World.alloc_heap_new w _))
        · exact World.alloc_heap_new w1 _
        · have := b1.size
          simp at this
          omega
        · exact hB1.size
    · go_wp2_with fail
      go_meet
      case rel =>
        refine ⟨w.heap.size + 1, rfl, ⟨?_, ?_, by omega, by omega⟩, ?_⟩
        · show (((((w1.setCell _ _).setCell _ _).setCell _ _).setCell _ _).heap[w.heap.size]?) = _
          rw [Below.heap_setCell _ _ _ _ (show w.heap.size ≠ w.heap.size + 1 by omega), Below.heap_setCell _ _ _ _ (show w.heap.size ≠ w.heap.size + 1 by omega), Below.heap_setCell _ _ _ _ (show w.heap.size ≠ w.heap.size + 1 by omega), Below.heap_setCell _ _ _ _ (show w.heap.size ≠ w.heap.size + 1 by omega)]
          exact (b1.block _ (by simp; omega)).trans ((Below.heap_alloc _ _ _ (by simp)).trans (World.alloc_heap_new w _))
        · have hb : EvB w1 (w.heap.size + 1) 0 0 0 0 := (b1.block _ (by simp)).trans (by
            have := World.alloc_heap_new (w.alloc (.cells #[.int .i64 0, .int .i64 0, .int .i64 0, .int .i64 0] 43)) (.cells #[.int .i64 0, .int .i64 0, .int .i64 0, .int .i64 0] 43)
            rw [World.size_alloc] at this
            exact this)
          exact hb.set _ _ _ _
        · exact (((hB2.setCell (p := ⟨w.heap.size + 1, 0, none⟩) (by simp) _).setCell (p := ⟨w.heap.size + 1, 1, none⟩) (by simp) _).setCell (p := ⟨w.heap.size + 1, 2, none⟩) (by simp) _).setCell (p := ⟨w.heap.size + 1, 3, none⟩) (by simp) _
  case rest =>
  obtain ⟨e2, rfl, hev, hbc⟩ := hcut
  have D1 := H.out.all hbc
  clear c5 hw0 HWho
  obtain ⟨u0, u1, u2, u3⟩ := hev.own.cs
  have hadd : k.time + 1 ≤ 9223372036854775807 := by omega
  have hnf : ∀ m, w.heap.size ≤ m → m ∉ a.F kb := fun m h1 h2 => by have := HF.out m h2; omega
  by_cases hr0 : r < 0
  · obtain rfl : r = -1 := by omega
    have HT : Hid (tickK p p.spans k = (⟨k.rooms, k.lines, k.time + 1⟩, k.time, -1, 0, 0)) := by
      show _ = _
      unfold tickK
      simp only
      rw [← HR.out, if_pos (by decide)]
    have k5 := D1.c5
    have j5 := D1.f5
    have hne2 : e2 ≠ kb := by have := hev.ge; omega
    have hnew : w.heap.size ≠ kb := by omega
    obtain ⟨v0, v1, v2, v3⟩ := hev.res.cs
    obtain ⟨x0, x1, x2, x3⟩ := hev.res.fs
    have hne := hev.ne
    go_wp2
    have tk1 : KTouch (a.F kb) w (wc.setCell ⟨kb, 5, none⟩ (.int .i64 (k.time + 1))) := (KTouch.of hbc).trans (KTouch.set wc (by simp [GW.F]) 5 _)
    have D2 := D1.time (k.time + 1)
    generalize hW : wc.setCell ⟨kb, 5, none⟩ (.int .i64 (k.time + 1)) = W3 at tk1 D2 ⊢
    have tkE : KTouch [w.heap.size] W3 ((((W3.setCell ⟨w.heap.size, 0, none⟩ (.int .i64 k.time)).setCell ⟨w.heap.size, 1, none⟩ (.int .i64 (-1))).setCell ⟨w.heap.size, 2, none⟩ (.int .i64 0)).setCell ⟨w.heap.size, 3, none⟩ (.int .i64 0)) := (((KTouch.set W3 (by simp) 0 _).trans (KTouch.set _ (by simp) 1 _)).trans (KTouch.set _ (by simp) 2 _)).trans (KTouch.set _ (by simp) 3 _)
    refine bodyPost_ret (v := .agg #[.int .i64 k.time, .int .i64 (-1), .int .i64 0, .int .i64 0]) ?_ rfl ⟨by rw [HT.out]; rfl, a, ?_, tk1.more tkE (by simp), fun g hg => Or.inl hg⟩
    · rw [← hW]
      simp [results, Tryz.results25, go_sem, v0, v1, v2, v3]
    · rw [HT.out]
      exact D2.frame tkE (fun m hm => by rw [List.mem_singleton] at hm; subst hm; exact hnf _ (Nat.le_refl _))
  · obtain ⟨rn, rfl⟩ : ∃ n : Nat, r = n := ⟨r.toNat, by omega⟩
    have hrl : rn < p.code.length := by have := hwr.2 (by omega); simpa using this
    have HT : Hid (tickK p p.spans k = ((turnK p k rn).1, k.time, (rn : Int), (turnK p k rn).2.1, (turnK p k rn).2.2)) := by
      show _ = _
      unfold tickK
      simp only
      rw [← HR.out, if_neg (by omega), Int.toNat_natCast]
    obtain ⟨c, s, o, htn⟩ := turn_of hp hk hrl
    have hat : (turnK p k rn).2.1 = s.p := by
      unfold turnK
      simp only [htn.at.2.1]
    have htm : (turnK p k rn).1.time = k.time + 1 := rfl
    have hrk : k.rooms.length = p.code.length := hk.rl
    have hri : (rn : Int) < (p.code.length : Int) := by omega
    have k3 := D1.c3
    rw [hrk] at k3
    obtain ⟨s0, _⟩ := D1.rooms rn s htn.hs
    have hne1 : ((rn : Int) != -1) = true := by simp
    have hne1' : ((rn : Int) == -1) = false := by simp
    obtain ⟨y0, y1, y2, y3⟩ := hev.own.fs
    generalize wc = W1 at *
    go_upto_region 3 with fail
    go_cut [14] from 14 to 23 (fun _ wx => ∃ nq, wx = (W1.drewN nq).setCell ⟨e2, 2, none⟩ (.int .i64 s.p))
    case first =>
      refine wp_region_quiet_last (by kernel_rfl) rfl (by decide +kernel) (by decide +kernel) ?_
      simp only [List.dropLast_cons_cons, List.dropLast_singleton]
      repeat (go_big_quiet_step (fail))
      refine wpQuiet_nil ?_
      intro _ hw'
      obtain ⟨nq, hw''⟩ := hw'
      subst hw''
      have u2' : (W1.drewN nq).cell? ⟨e2, 2, none⟩ = some (.int .i64 0) := by simpa using u2
      have y2' : (W1.drewN nq).frozen? ⟨e2, 2, none⟩ = false := by simpa using y2
      go_simp
      go_wp2_with fail
      go_meet
      case rel => exact ⟨nq, rfl⟩
    case rest =>
    obtain ⟨nq, hwx⟩ := hcut
    have bN : Below W1.heap.size W1 (W1.drewN nq) := below_dN (Below.refl _ _) nq
    have tk2 : KTouch [e2] W1 wc := by
      rw [hwx]
      exact (KTouch.of bN).trans (KTouch.set _ (by simp) 2 _)
    have D2 := D1.frame tk2 (fun m hm => by rw [List.mem_singleton] at hm; subst hm; exact hnf _ hev.ge)
    have ev2 : Ev w wc e2 k.time rn s.p 0 := by
      refine ⟨(tk2.block _ hev.res.lt (by simpa using Ne.symm hev.ne)).trans hev.res, ?_, hev.ne, hev.ge⟩
      rw [hwx]
      exact EvB.at ((bN.block _ hev.own.lt).trans hev.own) s.p
    have tkw : KTouch [e2] w wc := (KTouch.of hbc).trans tk2
    have hb2 : Below w.heap.size w wc := tkw.below (fun b hb => by rw [List.mem_singleton] at hb; subst hb; exact hev.ge) (Nat.le_refl _)
    have HS : Hid (Calls Tryz.prog 41 #[.pointer (some ⟨kb, 0, none⟩), .int .i64 rn] wc fun e w' => e = .returned (.int .i64 (turnK p k rn).2.2) ∧ ∃ a', GK w' base p ⟨(turnK p k rn).1.rooms, (turnK p k rn).1.lines, k.time⟩ kb a' ∧ KTouch (a.F kb) wc w' ∧ ∀ g ∈ a'.F kb, g ∈ a.F kb ∨ wc.heap.size ≤ g) := gstep_any p k kb base a rn wc (hfm.all hb2) D2 (Nat.le_trans hbw hb2.size) hp hk ht hrl
    have HTK : Hid ((tickK p p.spans k).2 = (k.time, (rn : Int), s.p, (turnK p k rn).2.2) ∧ (tickK p p.spans k).1 = ⟨(turnK p k rn).1.rooms, (turnK p k rn).1.lines, k.time + 1⟩) := by
      refine ⟨?_, ?_⟩
      · rw [HT.out, hat]
      · rw [HT.out]
        rfl
    clear hwx bN tk2 tkw u0 u1 u2 u3 y0 y1 y2 y3 k3 s0 D1 D2 hbc hev HT hat htm htn
    generalize (turnK p k rn).2.2 = qv at HS HTK
    generalize (turnK p k rn).1.rooms = rs at HS HTK
    generalize (turnK p k rn).1.lines = ls at HS HTK
    obtain ⟨u0, u1, u2, u3⟩ := ev2.own.cs
    generalize wc = W2 at *
    go_upto_region 5 with (go_at_call 41; refine HS.out.mono ?_; rintro e w3 ⟨rfl, a', hq1, hq2, hq3⟩; have ev3 : Ev w w3 e2 k.time rn s.p 0 := ⟨(hq2.block _ ev2.res.lt (hnf _ (Nat.le_refl _))).trans ev2.res, (hq2.block _ ev2.own.lt (hnf _ ev2.ge)).trans ev2.own, ev2.ne, ev2.ge⟩; obtain ⟨v0, v1, v2, v3⟩ := ev3.own.cs; obtain ⟨y0, y1, y2, y3⟩ := ev3.own.fs)
    have tk4 : KTouch [e2] w3 (w3.setCell ⟨e2, 3, none⟩ (.int .i64 qv)) := KTouch.set w3 (by simp) 3 _
    have hnf' : ∀ m, w.heap.size ≤ m → m < W2.heap.size → m ∉ a'.F kb := fun m h1 h2 h3 => by
      rcases hq3 m h3 with h4 | h4
      · exact hnf m h1 h4
      · omega
    have D4 := hq1.frame tk4 (fun m hm => by rw [List.mem_singleton] at hm; subst hm; exact hnf' _ ev2.ge ev2.own.lt)
    have ev4 : Ev w (w3.setCell ⟨e2, 3, none⟩ (.int .i64 qv)) e2 k.time rn s.p qv := ⟨(tk4.block _ ev3.res.lt (by simpa using Ne.symm ev3.ne)).trans ev3.res, ev3.own.what qv, ev3.ne, ev3.ge⟩
    have tkw4 : KTouch (a.F kb) w (w3.setCell ⟨e2, 3, none⟩ (.int .i64 qv)) := ((KTouch.of hb2).trans hq2).more tk4 (by simpa using ev3.ge)
    clear v0 v1 v2 v3 y0 y1 y2 y3 u0 u1 u2 u3 hq1 tk4 ev3
    generalize w3.setCell ⟨e2, 3, none⟩ (.int .i64 qv) = W4 at D4 ev4 tkw4 ⊢
    have k5 := D4.c5
    have j5 := D4.f5
    have hne2 : e2 ≠ kb := by have := ev4.ge; omega
    have hnew : w.heap.size ≠ kb := by omega
    obtain ⟨u0, u1, u2, u3⟩ := ev4.own.cs
    obtain ⟨v0, v1, v2, v3⟩ := ev4.res.cs
    obtain ⟨x0, x1, x2, x3⟩ := ev4.res.fs
    have hne := ev4.ne
    go_wp2
    have hkm : kb ∈ a.F kb := by simp [GW.F]
    have tk5 : KTouch (a.F kb) w (W4.setCell ⟨kb, 5, none⟩ (.int .i64 (k.time + 1))) := tkw4.trans (KTouch.set W4 hkm 5 _)
    have D5 := D4.time (k.time + 1)
    generalize hW : W4.setCell ⟨kb, 5, none⟩ (.int .i64 (k.time + 1)) = W5 at tk5 D5 ⊢
    have tkE : KTouch [w.heap.size] W5 ((((W5.setCell ⟨w.heap.size, 0, none⟩ (.int .i64 k.time)).setCell ⟨w.heap.size, 1, none⟩ (.int .i64 rn)).setCell ⟨w.heap.size, 2, none⟩ (.int .i64 s.p)).setCell ⟨w.heap.size, 3, none⟩ (.int .i64 qv)) := (((KTouch.set W5 (by simp) 0 _).trans (KTouch.set _ (by simp) 1 _)).trans (KTouch.set _ (by simp) 2 _)).trans (KTouch.set _ (by simp) 3 _)
    refine bodyPost_ret (v := .agg #[.int .i64 k.time, .int .i64 rn, .int .i64 s.p, .int .i64 qv]) ?_ rfl ⟨by rw [HTK.out.1]; rfl, a', ?_, tk5.more tkE (by simp), fun g hg => (hq3 g hg).imp id (fun h => Nat.le_trans hb2.size h)⟩
    · rw [← hW]
      simp [results, Tryz.results25, go_sem, v0, v1, v2, v3]
    · rw [HTK.out.2]
      exact D5.frame tkE (fun m hm => by rw [List.mem_singleton] at hm; subst hm; exact hnf' _ (Nat.le_refl _) ev2.res.lt)
end Go.Proofs.YtajfgmlockjmhafGreatDoor
namespace Go.Proofs.YtajfgmlockjmhafGreatDoor
open Go.RowKit

set_option maxRecDepth 100000 in
set_option maxHeartbeats 8000000 in
theorem crtick_any (p : PD) (what : List Int) (most : Int) (d : CD) (cb base : Nat) (x : CW) (w : World) (hfm : Forms w) (h : GC w base p what most d cb x) (hbw : base ≤ w.heap.size) (hfb : ∀ W, Below base w W → Forms W) (hc : carE p what most = 0) (hok : COk p what most d) (ht : d.k.time < 100000000) :
    Calls Tryz.prog 10 #[.pointer (some ⟨cb, 0, none⟩)] w fun e w' => e = .returned (evA (evC p what most d)) ∧ ∃ x', GC w' base p what most (tickC p what most d) cb x' ∧ KTouch (x.F cb) w w' ∧ ∀ g ∈ x'.F cb, g ∈ x.F cb ∨ w.heap.size ≤ g := by
  have hp := (carE_zero hc).1
  have hB1 : Below w.heap.size w (w.alloc (.cells #[.int .i64 0, .int .i64 0, .int .i64 0, .int .i64 0] 43)) := (Below.refl _ w).alloc (Nat.le_refl _) _
  have hbox : EvB (w.alloc (.cells #[.int .i64 0, .int .i64 0, .int .i64 0, .int .i64 0] 43)) w.heap.size 0 0 0 0 := World.alloc_heap_new w _
  generalize hW1 : w.alloc (.cells #[.int .i64 0, .int .i64 0, .int .i64 0, .int .i64 0] 43) = W1 at hB1 hbox
  obtain ⟨t1, ht1⟩ : ∃ y, (evC p what most d).1 = y := ⟨_, rfl⟩
  obtain ⟨t2, ht2⟩ : ∃ y, (evC p what most d).2.1 = y := ⟨_, rfl⟩
  obtain ⟨t3, ht3⟩ : ∃ y, (evC p what most d).2.2.1 = y := ⟨_, rfl⟩
  obtain ⟨t4, ht4⟩ : ∃ y, (evC p what most d).2.2.2 = y := ⟨_, rfl⟩
  have hgo : evA (evC p what most d) = .agg #[.int .i64 t1, .int .i64 t2, .int .i64 t3, .int .i64 t4] := by
    unfold evA
    rw [ht1, ht2, ht3, ht4]
  have hek : evA (tickK p p.spans (helpC p what most d).k).2 = .agg #[.int .i64 t1, .int .i64 t2, .int .i64 t3, .int .i64 t4] := hgo
  rw [hgo]
  have D1 := h.all hB1
  have HT : Hid (Calls Tryz.prog 24 #[.pointer (some ⟨x.kb, 0, none⟩)] W1 fun e w' => e = .returned (.int .i64 (whoK p d.k)) ∧ Below W1.heap.size W1 w') := gturn_any p d.k x.kb base x.a W1 D1.k hp hok.k.time
  have HH : Hid (∀ W, Below w.heap.size w W → Calls Tryz.prog 23 #[.pointer (some ⟨cb, 0, none⟩), .int .i64 (whoK p d.k)] W fun e w' => (∃ v, e = .returned v) ∧ GC w' base p what most (helpC p what most d) cb x ∧ KTouch (x.F cb) W w') := fun W hb => crhelp_any p what most d cb base x _ W (hfm.all hb) (h.all hb) hc hok rfl
  have HK : Hid (∀ W, KTouch (x.F cb) w W → GC W base p what most (helpC p what most d) cb x → Calls Tryz.prog 25 #[.pointer (some ⟨x.kb, 0, none⟩)] W fun e w' => e = .returned (.agg #[.int .i64 t1, .int .i64 t2, .int .i64 t3, .int .i64 t4]) ∧ ∃ a', GC w' base p what most (tickC p what most d) cb { x with a := a' } ∧ KTouch (x.F cb) W w' ∧ ∀ g ∈ a'.F x.kb, g ∈ x.a.F x.kb ∨ W.heap.size ≤ g) := fun W hb hg => by
    have q := gtick_any p (helpC p what most d).k x.kb base x.a W (hfb W (hb.below h.fge hbw)) hg.k (Nat.le_trans hbw hb.size) hp (helpC_ok hp hok).k (by rw [help_time]; exact ht)
    refine q.mono ?_
    rintro e w' ⟨rfl, a', h1, h2, h3⟩
    exact ⟨by rw [hek], a', hg.kern h2 h1 h3, h2.mono (fun m hm => by simp [CW.F, hm]), h3⟩
  have HF : Hid (∀ g ∈ x.F cb, g < w.heap.size) := h.flt
  have c0 := D1.c0
  have HD1 : Hid (GC W1 base p what most d cb x) := D1
  clear h hfm hok hc D1 hgo hek ht1 ht2 ht3 ht4 hfb
  go_enter Tryz.func10, Tryz.ntmps10
  go_upto_region 1 with fail
  have hs1 : W1.heap.size = w.heap.size + 1 := by rw [← hW1]; simp
  clear hW1
  go_upto_region 2 with (first
    | (go_at_call 24; refine HT.out.mono ?_; rintro e w1 ⟨rfl, b1⟩; have hB2 := hB1.trans (b1.mono hB1.size); have hx1 : EvB w1 w.heap.size 0 0 0 0 := (b1.block _ hbox.lt).trans hbox)
    | (go_at_call 23; refine (HH.out w1 hB2).mono ?_; rintro e w2 ⟨⟨v, rfl⟩, hg2, tk2⟩))
  have hnf : w.heap.size ∉ x.F cb := fun hm => by have := HF.out _ hm; omega
  have hx2 : EvB w2 w.heap.size 0 0 0 0 := (tk2.block _ hx1.lt hnf).trans hx1
  have tkA : KTouch (x.F cb) w w2 := (KTouch.of hB2).trans tk2
  have q := HK.out w2 tkA hg2
  have c2 := hg2.c0
  clear hg2 tk2 hx1 HT HH HK hB2 c0
  have hs2 : w.heap.size < w2.heap.size := hx2.lt
  go_wp2_with (go_at_call 25; refine q.mono ?_; rintro e w6 ⟨rfl, a', hg6, tk6, hn6⟩; clear q; have hev : EvB w6 w.heap.size 0 0 0 0 := (tk6.block w.heap.size hs2 hnf).trans hx2; obtain ⟨v0, v1, v2, v3⟩ := hev.cs; obtain ⟨y0, y1, y2, y3⟩ := hev.fs)
  have tkE : KTouch [w.heap.size] w6 ((((w6.setCell ⟨w.heap.size, 0, none⟩ (.int .i64 t1)).setCell ⟨w.heap.size, 1, none⟩ (.int .i64 t2)).setCell ⟨w.heap.size, 2, none⟩ (.int .i64 t3)).setCell ⟨w.heap.size, 3, none⟩ (.int .i64 t4)) := (((KTouch.set w6 (by simp) 0 _).trans (KTouch.set _ (by simp) 1 _)).trans (KTouch.set _ (by simp) 2 _)).trans (KTouch.set _ (by simp) 3 _)
  have hnew : ∀ g ∈ CW.F cb { x with a := a' }, g ∈ x.F cb ∨ w2.heap.size ≤ g := fun g hg => by
    unfold CW.F at hg ⊢
    simp only [List.mem_cons] at hg ⊢
    rcases hg with e | e | e
    · exact Or.inl (Or.inl e)
    · exact Or.inl (Or.inr (Or.inl e))
    · exact (hn6 g e).imp (fun e => Or.inr (Or.inr e)) id
  refine bodyPost_ret (v := .agg #[.int .i64 t1, .int .i64 t2, .int .i64 t3, .int .i64 t4]) ?_ rfl ⟨rfl, { x with a := a' }, hg6.frame tkE (fun m hm => ?_), (tkA.trans tk6).more tkE (by simp), fun g hg => (hnew g hg).imp id (fun e => by omega)⟩
  · simp [results, Tryz.results10, go_sem, v0, v1, v2, v3]
  · rw [List.mem_singleton] at hm
    subst hm
    intro hm
    rcases hnew _ hm with e | e
    · exact hnf e
    · omega
end Go.Proofs.YtajfgmlockjmhafGreatDoor
namespace Go.Proofs.YtajfgmlockjmhafGreatDoor
open Go.RowKit

set_option maxRecDepth 100000 in
set_option maxHeartbeats 4000000 in
theorem crstate_any (p : PD) (what : List Int) (most : Int) (d : CD) (cb base : Nat) (x : CW) (r : Int) (w : World) (h : GC w base p what most d cb x) :
    Calls Tryz.prog 12 #[.pointer (some ⟨cb, 0, none⟩), .int .i64 r] w fun e w' => e = .returned (.tuple #[stA (roomK d.k r), wErr (errB (noRoom d.k r))]) ∧ Below w.heap.size w w' := by
  have hB1 : Below w.heap.size w (w.alloc (.cells #[.int .i64 0, .int .i64 0, .int .i64 0, .int .i64 0, .int .i64 0, .int .i64 0, .int .i64 0, .bool false] 47)) := (Below.refl _ w).alloc (Nat.le_refl _) _
  have hbox : StB (w.alloc (.cells #[.int .i64 0, .int .i64 0, .int .i64 0, .int .i64 0, .int .i64 0, .int .i64 0, .int .i64 0, .bool false] 47)) w.heap.size stNew := World.alloc_heap_new w _
  generalize hW1 : w.alloc (.cells #[.int .i64 0, .int .i64 0, .int .i64 0, .int .i64 0, .int .i64 0, .int .i64 0, .int .i64 0, .bool false] 47) = W1 at hB1 hbox
  have D1 := h.all hB1
  have HS : Hid (Calls Tryz.prog 28 #[.pointer (some ⟨x.kb, 0, none⟩), .int .i64 r] W1 fun e w' => e = .returned (.tuple #[.agg #[.int .i64 (roomK d.k r).p, .int .i64 ((roomK d.k r).c 0), .int .i64 ((roomK d.k r).c 1), .int .i64 ((roomK d.k r).c 2), .int .i64 ((roomK d.k r).c 3), .int .i64 ((roomK d.k r).c 4), .int .i64 ((roomK d.k r).c 5), .bool (roomK d.k r).f], wErr (errB (noRoom d.k r))]) ∧ Below W1.heap.size W1 w') := gstate_any p d.k x.kb base x.a r W1 D1.k
  have c0 := D1.c0
  clear h D1
  unfold stA
  generalize roomK d.k r = s at HS ⊢
  generalize wErr (errB (noRoom d.k r)) = ev at HS ⊢
  go_enter Tryz.func12, Tryz.ntmps12
  go_upto_region 1 with fail
  clear hW1
  go_wp2_with (go_at_call 28; refine HS.out.mono ?_; rintro e w1 ⟨rfl, b1⟩; have hst : StB w1 w.heap.size stNew := (b1.block _ (Array.getElem?_eq_some_iff.1 hbox).1).trans hbox; obtain ⟨m0, m1, m2, m3, m4, m5, m6, m7⟩ := hst.cs; simp only [Nat.zero_add] at m1 m2 m3 m4 m5 m6 m7; have z0 := stb_fz hst 0; have z1 := stb_fz hst 1; have z2 := stb_fz hst 2; have z3 := stb_fz hst 3; have z4 := stb_fz hst 4; have z5 := stb_fz hst 5; have z6 := stb_fz hst 6; have z7 := stb_fz hst 7)
  refine bodyPost_ret (v := .tuple #[.agg #[.int .i64 s.p, .int .i64 (s.c 0), .int .i64 (s.c 1), .int .i64 (s.c 2), .int .i64 (s.c 3), .int .i64 (s.c 4), .int .i64 (s.c 5), .bool s.f], ev]) ?_ rfl ⟨rfl, below_st8 (hB1.trans (b1.mono hB1.size)) _ (Nat.le_refl _) _ _ _ _ _ _ _ _⟩
  simp [results, Tryz.results12, go_sem, m0, m1, m2, m3, m4, m5, m6, m7]
set_option maxRecDepth 100000 in
set_option maxHeartbeats 4000000 in
theorem crtimes_any (p : PD) (what : List Int) (most : Int) (d : CD) (cb base : Nat) (x : CW) (r : Int) (w : World) (h : GC w base p what most d cb x) (hl : d.ts.length = d.k.rooms.length) :
    Calls Tryz.prog 13 #[.pointer (some ⟨cb, 0, none⟩), .int .i64 r] w fun e w' => e = .returned (.tuple #[.int .i64 (timesC d r), wErr (errB (noRoom d.k r))]) ∧ Below w.heap.size w w' := by
  have c1 := h.c1
  by_cases h0 : r < 0
  · have hno : noRoom d.k r = true := by
      unfold noRoom
      rw [decide_eq_true h0, Bool.true_or]
    have ht : timesC d r = 0 := by
      unfold timesC
      rw [if_pos hno]
    rw [ht, hno]
    have h0' : decide (r < 0) = true := decide_eq_true h0
    clear h ht hno hl h0
    go_enter Tryz.func13, Tryz.ntmps13
    go_wp2
    go_ret2
    exact ⟨rfl, Below.refl _ _⟩
  · have h0' : decide (r < 0) = false := decide_eq_false h0
    by_cases h1 : (d.ts.length : Int) ≤ r
    · have hno : noRoom d.k r = true := by
        unfold noRoom
        rw [← hl, decide_eq_true h1, Bool.or_true]
      have ht : timesC d r = 0 := by
        unfold timesC
        rw [if_pos hno]
      rw [ht, hno]
      have h1' : decide ((d.ts.length : Int) ≤ r) = true := decide_eq_true h1
      clear h ht hno hl h0
      go_enter Tryz.func13, Tryz.ntmps13
      go_wp2
      go_ret2
      exact ⟨rfl, Below.refl _ _⟩
    · obtain ⟨rn, rfl⟩ : ∃ n : Nat, r = n := ⟨r.toNat, by omega⟩
      have hri : (rn : Int) < (d.ts.length : Int) := by omega
      have hno : noRoom d.k (rn : Int) = false := by
        unfold noRoom
        rw [Bool.or_eq_false_iff]
        exact ⟨h0', decide_eq_false (by omega)⟩
      obtain ⟨t, ht⟩ : ∃ t, d.ts[rn]? = some t := ⟨_, List.getElem?_eq_getElem (by omega)⟩
      have htc : timesC d rn = t := by
        unfold timesC
        rw [if_neg (by rw [hno]; decide), Int.toNat_natCast]
        simp [List.getD, ht]
      obtain ⟨_, _, q2⟩ := h.row rn t ht
      rw [htc, hno]
      have h1' : decide ((d.ts.length : Int) ≤ (rn : Int)) = false := decide_eq_false h1
      have h1'' : decide (d.ts.length ≤ rn) = false := decide_eq_false (by omega)
      clear h ht hno hl h0 htc h1
      go_enter Tryz.func13, Tryz.ntmps13
      go_wp2
      go_ret2
      exact ⟨rfl, Below.refl _ _⟩
end Go.Proofs.YtajfgmlockjmhafGreatDoor

/-
  Package kernel: PutWire, PutTime; Put of a state that a room may not be in.
-/
import Derived.Test.YtajfgmlockjmhaiGreatDoorJt18
import Derived.Test.YtajfgmlockjmhaiGreatDoorJt20
import Derived.Test.YtajfgmlockjmhaiGreatDoorJt19
import Derived.Deep.RegionWith
namespace Go.Proofs.YtajfgmlockjmhaiGreatDoor
open Go.RowKit

set_option maxRecDepth 100000 in
set_option maxHeartbeats 4000000 in
theorem gputw_ok (p : PD) (k : KD) (kb base : Nat) (a : GW) (n : Nat) (l : LnD) (ao : Option Addr) (cap : Nat) (ys : List Int) (nl : Int) (w : World) (h : GK w base p k kb a) (hbw : base ≤ w.heap.size) (hl : k.lines[n]? = some l) (hr : Rd w (.slice ao ys.length cap) ys) (hy : ys.length ≤ 1000000) (hp : wputB l.w.2.2.1 l.w.2.2.2 ys nl = false) :
    Calls Tryz.prog 78 #[.pointer (some ⟨kb, 0, none⟩), .int .i64 n, .agg #[.slice ao ys.length cap, .int .i64 nl]] w fun e w' => e = .returned .nilIface ∧ ∃ a', GK w' base p ⟨k.rooms, k.lines.set n ⟨l.w, ys, nl⟩, k.time⟩ kb a' ∧ KTouch (a.F kb) w w' ∧ ∀ g ∈ a'.F kb, g ∈ a.F kb ∨ w.heap.size ≤ g := by
  have hn := (List.getElem?_eq_some_iff.1 hl).1
  have hni : (n : Int) < (k.lines.length : Int) := by omega
  obtain ⟨b, u, lcap, l', hl', hb, hu, hlv, hcap, hptr, hln⟩ := h.lines.at hn
  obtain rfl : l = l' := Option.some.inj (hl.symm.trans hl')
  have c4 := h.c4
  rw [hlv] at c4
  have hkb := h.lt.1
  have HT : Hid (∀ W, Below w.heap.size w W → Calls Tryz.prog 116 #[.pointer (some ⟨b, 0, none⟩), .agg #[.slice ao ys.length cap, .int .i64 nl]] W fun e w' => e = .returned .nilIface ∧ ∃ a', GK w' base p ⟨k.rooms, k.lines.set n ⟨l.w, ys, nl⟩, k.time⟩ kb a' ∧ KTouch (a.F kb) w w' ∧ ∀ g ∈ a'.F kb, g ∈ a.F kb ∨ w.heap.size ≤ g) := fun W hW => by
    have hW2 := h.all hW
    refine (wput_ok a.b1 b _ _ l.xs l.ls u ao cap ys nl W (hln.below hW) (hr.all hW) hy hp).mono ?_
    rintro e w' ⟨u', rfl, h3, h4⟩
    obtain ⟨q1, q2, q3⟩ := hW2.line (l' := ⟨l.w, ys, nl⟩) (Nat.le_trans hbw hW.size) hb hu h4 h3
    exact ⟨rfl, _, q1, (KTouch.of hW).trans q2, fun g hg => by rcases q3 g hg with h5 | h5; exact Or.inl h5; exact Or.inr (Nat.le_trans hW.size h5)⟩
  clear h hl hl' hb hu hlv hln hr hp
  go_enter Tryz.func78, Tryz.ntmps78
  have hA : Below w.heap.size w (w.alloc (.cells #[.slice ao ys.length cap, .int .i64 nl] 100)) := (Below.refl _ _).alloc (Nat.le_refl _) _
  have hs : (w.alloc (.cells #[.slice ao ys.length cap, .int .i64 nl] 100)).heap.size = w.heap.size + 1 := by simp
  have d0 : (w.alloc (.cells #[.slice ao ys.length cap, .int .i64 nl] 100)).cell? ⟨w.heap.size, 0, none⟩ = some (.slice ao ys.length cap) := by simp
  have d1 : (w.alloc (.cells #[.slice ao ys.length cap, .int .i64 nl] 100)).cell? ⟨w.heap.size, 1, none⟩ = some (.int .i64 nl) := by simp
  have e4 := (hA.cell (p := ⟨kb, 4, none⟩) hkb).trans c4
  have e0 := (hA.cell (p := ⟨a.lr, n, none⟩) (wlt hptr)).trans hptr
  generalize hW0 : w.alloc (.cells #[.slice ao ys.length cap, .int .i64 nl] 100) = W0 at hA hs d0 d1 e4 e0
  go_upto_region 1 with fail
  go_upto_region 3 with (go_at_call 60; refine (kbelow_yes _ _ _ (by omega) hni).mono ?_; rintro e w1 ⟨rfl, hw1⟩; subst w1)
  clear hW0 c4 hptr
  have q := HT.out _ hA.drew
  go_region_with (go_at_call 116; refine q.mono ?_; rintro e w1 ⟨rfl, hq⟩)
  all_goals
    go_wp2_with fail
    go_ret
    exact ⟨rfl, hq⟩
set_option maxRecDepth 100000 in
set_option maxHeartbeats 4000000 in
theorem gputw_no (p : PD) (k : KD) (kb base : Nat) (a : GW) (n : Nat) (l : LnD) (ao : Option Addr) (cap : Nat) (ys : List Int) (nl : Int) (w : World) (h : GK w base p k kb a) (hl : k.lines[n]? = some l) (hr : Rd w (.slice ao ys.length cap) ys) (hy : ys.length ≤ 2000000000000) (hp : wputB l.w.2.2.1 l.w.2.2.2 ys nl = true) :
    Calls Tryz.prog 78 #[.pointer (some ⟨kb, 0, none⟩), .int .i64 n, .agg #[.slice ao ys.length cap, .int .i64 nl]] w fun e w' => e = .returned (.iface 93 (.int .i64 1)) ∧ Below w.heap.size w w' := by
  have hn := (List.getElem?_eq_some_iff.1 hl).1
  have hni : (n : Int) < (k.lines.length : Int) := by omega
  obtain ⟨b, u, lcap, l', hl', hb, hu, hlv, hcap, hptr, hln⟩ := h.lines.at hn
  obtain rfl : l = l' := Option.some.inj (hl.symm.trans hl')
  have c4 := h.c4
  rw [hlv] at c4
  have hkb := h.lt.1
  have HT : Hid (∀ W, Below w.heap.size w W → Calls Tryz.prog 116 #[.pointer (some ⟨b, 0, none⟩), .agg #[.slice ao ys.length cap, .int .i64 nl]] W fun e w' => e = .returned (.iface 93 (.int .i64 1)) ∧ Below w.heap.size w w') := fun W hW => by
    refine (wput_no b _ _ l.ls u ao cap ys nl W (hln.below hW).c (hr.all hW) hy hp).mono ?_
    rintro e w' ⟨rfl, h3⟩
    exact ⟨rfl, hW.trans (h3.mono hW.size)⟩
  clear h hl hl' hb hu hlv hln hr hp
  go_enter Tryz.func78, Tryz.ntmps78
  have hA : Below w.heap.size w (w.alloc (.cells #[.slice ao ys.length cap, .int .i64 nl] 100)) := (Below.refl _ _).alloc (Nat.le_refl _) _
  have hs : (w.alloc (.cells #[.slice ao ys.length cap, .int .i64 nl] 100)).heap.size = w.heap.size + 1 := by simp
  have d0 : (w.alloc (.cells #[.slice ao ys.length cap, .int .i64 nl] 100)).cell? ⟨w.heap.size, 0, none⟩ = some (.slice ao ys.length cap) := by simp
  have d1 : (w.alloc (.cells #[.slice ao ys.length cap, .int .i64 nl] 100)).cell? ⟨w.heap.size, 1, none⟩ = some (.int .i64 nl) := by simp
  have e4 := (hA.cell (p := ⟨kb, 4, none⟩) hkb).trans c4
  have e0 := (hA.cell (p := ⟨a.lr, n, none⟩) (wlt hptr)).trans hptr
  generalize hW0 : w.alloc (.cells #[.slice ao ys.length cap, .int .i64 nl] 100) = W0 at hA hs d0 d1 e4 e0
  go_upto_region 1 with fail
  go_upto_region 3 with (go_at_call 60; refine (kbelow_yes _ _ _ (by omega) hni).mono ?_; rintro e w1 ⟨rfl, hw1⟩; subst w1)
  clear hW0 c4 hptr
  have q := HT.out _ hA.drew
  go_region_with (go_at_call 116; refine q.mono ?_; rintro e w1 ⟨rfl, hq⟩)
  all_goals
    go_wp2_with fail
    go_ret
    exact ⟨rfl, hq⟩
set_option maxRecDepth 100000 in
set_option maxHeartbeats 4000000 in
theorem gputt_any (p : PD) (k : KD) (kb base : Nat) (a : GW) (t : Int) (w : World) (h : GK w base p k kb a) (ht : 0 ≤ t) :
    Calls Tryz.prog 79 #[.pointer (some ⟨kb, 0, none⟩), .int .i64 t] w fun e w' => e = .returned .nilIface ∧ GK w' base p ⟨k.rooms, k.lines, t⟩ kb a ∧ KTouch [kb] w w' := by
  have c5 := h.c5
  have f5 := h.f5
  have H := h.time t
  have HH : Hid (GK (w.setCell ⟨kb, 5, none⟩ (.int .i64 t)) base p ⟨k.rooms, k.lines, t⟩ kb a) := H
  have h0 : decide (t < 0) = false := decide_eq_false (by omega)
  clear h H
  go_enter Tryz.func79, Tryz.ntmps79
  go_wp2
  go_ret
  exact ⟨rfl, HH.out, KTouch.set w (by simp) 5 _⟩
set_option maxRecDepth 100000 in
set_option maxHeartbeats 8000000 in
theorem gput_no (p : PD) (k : KD) (kb base : Nat) (a : GW) (r : Nat) (s' : St) (c : List O3) (w : World) (hfm : Forms w) (h : GK w base p k kb a) (hp : plchk p = 0) (hk : KOk p k) (hc : p.code[r]? = some c) (hs : stOk s' c.length = false) :
    Calls Tryz.prog 77 #[.pointer (some ⟨kb, 0, none⟩), .int .i64 r, stA s'] w fun e w' => e = .returned (.iface 93 (.int .i64 1)) ∧ Below w.heap.size w w' := by
  have hr := (List.getElem?_eq_some_iff.1 hc).1
  have hcz := (plchk_zero hp).2.2.2.2.2.2.1
  have hrk : k.rooms.length = p.code.length := hk.rl
  have hcd := h.src.here.1
  obtain ⟨ca, cc, hcv⟩ := hcd.form
  rw [hcv] at hcd
  obtain ⟨cb, co, ua, un, ug, c', rfl, hclt, hcy, hcc, rfl, hops⟩ := hcd.at hr
  obtain rfl : c = c' := Option.some.inj (hc.symm.trans hcy)
  have hrc : rchk c s' = 1 := by
    unfold rchk
    rw [if_pos (codesE_zero hcz c (List.mem_of_getElem? hcy)), if_neg (by rw [hs]; decide)]
  have HC : Hid (∀ W, Below w.heap.size w W → Calls Tryz.prog 115 #[.slice ua c.length ug, .agg #[.int .i64 s'.p, .int .i64 (s'.c 0), .int .i64 (s'.c 1), .int .i64 (s'.c 2), .int .i64 (s'.c 3), .int .i64 (s'.c 4), .int .i64 (s'.c 5), .bool s'.f]] W fun e w' => e = .returned (.iface 93 (.int .i64 1)) ∧ Below W.heap.size W w') := fun W hb => by
    have := rcheck_any c (.slice ua c.length ug) s' W (hfm.all hb) (hops.all hb)
    rw [hrc] at this
    exact this
  have hkb := h.lt.1
  have c0 := h.c0
  rw [hcv] at c0
  have c3 := h.c3
  rw [hrk] at c3
  have hri : (r : Int) < (p.code.length : Int) := by omega
  have hA : Below w.heap.size w (w.alloc (.cells #[.int .i64 s'.p, .int .i64 (s'.c 0), .int .i64 (s'.c 1), .int .i64 (s'.c 2), .int .i64 (s'.c 3), .int .i64 (s'.c 4), .int .i64 (s'.c 5), .bool s'.f] 73)) := (Below.refl _ _).alloc (Nat.le_refl _) _
  have hB : StB (w.alloc (.cells #[.int .i64 s'.p, .int .i64 (s'.c 0), .int .i64 (s'.c 1), .int .i64 (s'.c 2), .int .i64 (s'.c 3), .int .i64 (s'.c 4), .int .i64 (s'.c 5), .bool s'.f] 73)) w.heap.size s' := World.alloc_heap_new _ _
  have hnk := World.new_ne w ⟨kb, 3, none⟩ c3
  unfold stA
  clear h hs hcd hops hcy hrc hcv hcz hk hfm hc
  go_enter Tryz.func77, Tryz.ntmps77
  go_upto_region 3 with (go_at_call 60; refine (kbelow_yes _ _ _ (by omega) hri).mono ?_; rintro e w1 ⟨rfl, hw1⟩; subst hw1)
  generalize w.alloc (.cells #[.int .i64 s'.p, .int .i64 (s'.c 0), .int .i64 (s'.c 1), .int .i64 (s'.c 2), .int .i64 (s'.c 3), .int .i64 (s'.c 4), .int .i64 (s'.c 5), .bool s'.f] 73) = W0 at hA hB ⊢
  have k0 : W0.cell? ⟨kb, 0, none⟩ = some (.slice (some ⟨cb, co, none⟩) p.code.length cc) := (hA.cell (p := ⟨kb, 0, none⟩) hkb).trans c0
  have k1 : W0.cell? ⟨cb, co + r, none⟩ = some (.slice ua c.length ug) := (hA.cell (p := ⟨cb, co + r, none⟩) hclt).trans hcc
  obtain ⟨n0, n1, n2, n3, n4, n5, n6, n7⟩ := hB.cs
  simp only [Nat.zero_add] at n1 n2 n3 n4 n5 n6 n7
  have bQ : Below w.heap.size w W0.drew := hA.drew
  go_cut [7] from 17 to 25 (fun s7 wx => s7 = .iface 93 (.int .i64 1) ∧ Below W0.heap.size W0 wx)
  case first =>
    go_region_with (go_at_call 115; refine (HC.out _ bQ).mono ?_; rintro e w1 ⟨rfl, b1⟩)
    all_goals
      go_wp2_with fail
      go_meet
      case rel => exact ⟨rfl, (Below.refl _ W0).drew.trans (b1.mono (Nat.le_refl _))⟩
  case rest =>
  obtain ⟨rfl, hb2⟩ := hcut
  have hb3 : Below w.heap.size w wc := hA.trans (hb2.mono hA.size)
  clear n0 n1 n2 n3 n4 n5 n6 n7 k0 k1 hB hA hb2 bQ HC
  go_wp2_with fail
  go_ret
  exact ⟨rfl, hb3⟩
end Go.Proofs.YtajfgmlockjmhaiGreatDoor

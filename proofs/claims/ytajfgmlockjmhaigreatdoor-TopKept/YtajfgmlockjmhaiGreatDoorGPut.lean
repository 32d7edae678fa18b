/-
  Package kernel: Put, of a room that there is and a state that it may be in.
-/
import Derived.Test.YtajfgmlockjmhaiGreatDoorJt19
import Derived.Test.YtajfgmlockjmhaiGreatDoorJt12
import Derived.Test.YtajfgmlockjmhaiGreatDoorJt1
namespace Go.Proofs.YtajfgmlockjmhaiGreatDoor
open Go.RowKit

set_option maxRecDepth 100000 in
set_option maxHeartbeats 8000000 in
theorem gput_ok (p : PD) (k : KD) (kb base : Nat) (a : GW) (r : Nat) (s' : St) (w : World) (hfm : Forms w) (h : GK w base p k kb a) (hp : plchk p = 0) (hk : KOk p k) (hr : r < p.code.length) (hs : ∀ c, p.code[r]? = some c → stOk s' c.length = true) :
    Calls Tryz.prog 77 #[.pointer (some ⟨kb, 0, none⟩), .int .i64 r, stA s'] w fun e w' => e = .returned .nilIface ∧ GK w' base p ⟨k.rooms.set r s', k.lines, k.time⟩ kb a ∧ KTouch [a.rb] w w' := by
  have hcz := (plchk_zero hp).2.2.2.2.2.2.1
  have hrk : k.rooms.length = p.code.length := hk.rl
  have hcd := h.src.here.1
  obtain ⟨ca, cc, hcv⟩ := hcd.form
  rw [hcv] at hcd
  obtain ⟨cb, co, ua, un, ug, c, rfl, hclt, hcy, hcc, rfl, hops⟩ := hcd.at hr
  have hrc : rchk c s' = 0 := by
    unfold rchk
    rw [if_pos (codesE_zero hcz c (List.mem_of_getElem? hcy)), if_pos (hs c hcy)]
  have HC : Hid (∀ W, Below w.heap.size w W → Calls Tryz.prog 115 #[.slice ua c.length ug, .agg #[.int .i64 s'.p, .int .i64 (s'.c 0), .int .i64 (s'.c 1), .int .i64 (s'.c 2), .int .i64 (s'.c 3), .int .i64 (s'.c 4), .int .i64 (s'.c 5), .bool s'.f]] W fun e w' => e = .returned .nilIface ∧ Below W.heap.size W w') := fun W hb => by
    have := rcheck_any c (.slice ua c.length ug) s' W (hfm.all hb) (hops.all hb)
    rw [hrc] at this
    exact this
  have hkb := h.lt.1
  have c0 := h.c0
  rw [hcv] at c0
  have c3 := h.c3
  rw [hrk] at c3
  have hri : (r : Int) < (p.code.length : Int) := by omega
  obtain ⟨s, hsr⟩ : ∃ s, k.rooms[r]? = some s := ⟨_, List.getElem?_eq_getElem (by omega)⟩
  have H : Hid (GK w base p k kb a) := h
  have HSR : Hid (k.rooms[r]? = some s) := hsr
  have hA : Below w.heap.size w (w.alloc (.cells #[.int .i64 s'.p, .int .i64 (s'.c 0), .int .i64 (s'.c 1), .int .i64 (s'.c 2), .int .i64 (s'.c 3), .int .i64 (s'.c 4), .int .i64 (s'.c 5), .bool s'.f] 73)) := (Below.refl _ _).alloc (Nat.le_refl _) _
  have hB : StB (w.alloc (.cells #[.int .i64 s'.p, .int .i64 (s'.c 0), .int .i64 (s'.c 1), .int .i64 (s'.c 2), .int .i64 (s'.c 3), .int .i64 (s'.c 4), .int .i64 (s'.c 5), .bool s'.f] 73)) w.heap.size s' := World.alloc_heap_new _ _
  have hnk := World.new_ne w ⟨kb, 3, none⟩ c3
  unfold stA
  clear h hs hcd hops hcy hrc hsr hcv hcz hk hfm
  go_enter Tryz.func77, Tryz.ntmps77
  go_upto_region 3 with (go_at_call 60; refine (kbelow_yes _ _ _ (by omega) hri).mono ?_; rintro e w1 ⟨rfl, hw1⟩; subst hw1)
  generalize w.alloc (.cells #[.int .i64 s'.p, .int .i64 (s'.c 0), .int .i64 (s'.c 1), .int .i64 (s'.c 2), .int .i64 (s'.c 3), .int .i64 (s'.c 4), .int .i64 (s'.c 5), .bool s'.f] 73) = W0 at hA hB ⊢
  have k0 : W0.cell? ⟨kb, 0, none⟩ = some (.slice (some ⟨cb, co, none⟩) p.code.length cc) := (hA.cell (p := ⟨kb, 0, none⟩) hkb).trans c0
  have k1 : W0.cell? ⟨cb, co + r, none⟩ = some (.slice ua c.length ug) := (hA.cell (p := ⟨cb, co + r, none⟩) hclt).trans hcc
  obtain ⟨n0, n1, n2, n3, n4, n5, n6, n7⟩ := hB.cs
  simp only [Nat.zero_add] at n1 n2 n3 n4 n5 n6 n7
  have bQ : Below w.heap.size w W0.drew := hA.drew
  go_cut [7] from 17 to 25 (fun s7 wx => s7 = .nilIface ∧ Below W0.heap.size W0 wx)
  case first =>
    go_region_with (go_at_call 115; refine (HC.out _ bQ).mono ?_; rintro e w1 ⟨rfl, b1⟩)
    all_goals
      go_wp2_with fail
      go_meet
      case rel => exact ⟨rfl, (Below.refl _ W0).drew.trans (b1.mono (Nat.le_refl _))⟩
  case rest =>
  obtain ⟨rfl, hb2⟩ := hcut
  have hb3 : Below w.heap.size w wc := hA.trans (hb2.mono hA.size)
  have hB3 : StB wc w.heap.size s' := (hb2.block _ (Array.getElem?_eq_some_iff.1 hB).1).trans hB
  clear n0 n1 n2 n3 n4 n5 n6 n7 k0 k1 hB hA hb2 bQ HC
  generalize wc = W3 at *
  obtain ⟨n0, n1, n2, n3, n4, n5, n6, n7⟩ := hB3.cs
  simp only [Nat.zero_add] at n1 n2 n3 n4 n5 n6 n7
  have D := H.out.all hb3
  have k3 := D.c3
  rw [hrk] at k3
  have hth : ∀ nq, (W3.drewN nq).there a.rb (r * 8) 8 := fun nq => there_st (D.rooms r s HSR.out) D.rf nq
  go_upto_region 6 with fail
  go_cut [29] from 29 to 35 (fun _ wx => ∃ nq, wx = setSt (W3.drewN nq) a.rb (r * 8) s')
  case first =>
    refine wp_region_quiet_last (by kernel_rfl) rfl (by decide +kernel) (by decide +kernel) ?_
    simp only [List.dropLast_cons_cons, List.dropLast_singleton]
    repeat (go_big_quiet_step (fail))
    refine wpQuiet_nil ?_
    intro _ hw'
    obtain ⟨nq, hw''⟩ := hw'
    subst hw''
    refine wp_store_mid _ _ _ rfl a.rb (r * 8) _ rfl rfl (hth nq) rfl (by simp [Value.oneCell']) ?_
    go_wp2_with fail
    go_meet
    case rel => exact ⟨nq, rfl⟩
  case rest =>
  obtain ⟨nq, hwx⟩ := hcut
  have bN : Below W3.heap.size W3 (W3.drewN nq) := below_dN (Below.refl _ _) nq
  have D9 := (D.all bN).set HSR.out s'
  have tk9 : KTouch [a.rb] W3 (setSt (W3.drewN nq) a.rb (r * 8) s') := (KTouch.of bN).trans (setSt_touch _ (by simp) _ _)
  rw [← hwx] at D9 tk9
  have tkw : KTouch [a.rb] w wc := (KTouch.of hb3).trans tk9
  clear hwx
  go_wp2
  go_ret
  exact ⟨rfl, D9, tkw⟩
end Go.Proofs.YtajfgmlockjmhaiGreatDoor

/-
  GPut, SnAll: joined into one text.
-/
import Derived.Test.YtajfgmlockjmhaiGreatDoorJa11
import Derived.Test.YtajfgmlockjmhaiGreatDoorJa6
import Derived.Test.YtajfgmlockjmhaiGreatDoorJa1
import Derived.Test.YtajfgmlockjmhaiGreatDoorJa16
import Derived.Test.YtajfgmlockjmhaiGreatDoorJa15
import Derived.Test.YtajfgmlockjmhaiGreatDoorJa3
import Derived.Test.YtajfgmlockjmhaiGreatDoorJa2
import Derived.Deep.RegionLaw
import Derived.RangeFuncNested
namespace Go.Proofs.YtajfgmlockjmhaiGreatDoor
open Go.RowKit

set_option maxRecDepth 100000 in
set_option maxHeartbeats 8000000 in
theorem gput_ok (p : PD) (k : KD) (kb base : Nat) (a : GW) (r : Nat) (s' : St) (w : World) (hfm : Forms w) (h : GK w base p k kb a) (hp : plchk p = 0) (hk : KOk p k) (hr : r < p.code.length) (hs : ∀ c, p.code[r]? = some c → stOk s' c.length = true) :
    Calls Tryz.prog 77 #[.pointer (some ⟨kb, 0, none⟩), .int .i64 r, stA s'] w fun e w' => e = .returned .nilIface ∧ GK w' base p ⟨k.rooms.set r s', k.lines, k.time⟩ kb a ∧ KTouch [a.rb] w w' := by
  have hcz := (plchk_zero hp).2.2.2.2.2.2.1
  have hrk : k.rooms.length = p.code.length := hk.rl
  have hcd := h.src.here.1
  obtain ⟨ca, cc, hcv⟩ := hcd.form
  rw [hcv] at hcd
  obtain ⟨cb, co, ua, un, ug, c, rfl, hclt, hcy, hcc, rfl, hops⟩ := hcd.at hr
  have hrc : rchk c s' = 0 := by
    unfold rchk
    rw [if_pos (codesE_zero hcz c (List.mem_of_getElem? hcy)), if_pos (hs c hcy)]
  have HC : Hid (∀ W, Below w.heap.size w W → Calls Tryz.prog 115 #[.slice ua c.length ug, .agg #[.int .i64 s'.p, .int .i64 (s'.c 0), .int .i64 (s'.c 1), .int .i64 (s'.c 2), .int .i64 (s'.c 3), .int .i64 (s'.c 4), .int .i64 (s'.c 5), .bool s'.f]] W fun e w' => e = .returned .nilIface ∧ Below W.heap.size W w') := fun W hb => by
    have := rcheck_any c (.slice ua c.length ug) s' W (hfm.all hb) (hops.all hb)
    rw [hrc] at this
    exact this
  have hkb := h.lt.1
  have c0 := h.c0
  rw [hcv] at c0
  have c3 := h.c3
  rw [hrk] at c3
  have hri : (r : Int) < (p.code.length : Int) := by omega
  obtain ⟨s, hsr⟩ : ∃ s, k.rooms[r]? = some s := ⟨_, List.getElem?_eq_getElem (by omega)⟩
  have H : Hid (GK w base p k kb a) := h
  have HSR : Hid (k.rooms[r]? = some s) := hsr
  have hA : Below w.heap.size w (w.alloc (.cells #[.int .i64 s'.p, .int .i64 (s'.c 0), .int .i64 (s'.c 1), .int .i64 (s'.c 2), .int .i64 (s'.c 3), .int .i64 (s'.c 4), .int .i64 (s'.c 5), .bool s'.f] 73)) := (Below.refl _ _).alloc (Nat.le_refl _) _
  have hB : StB (w.alloc (.cells #[.int .i64 s'.p, .int .i64 (s'.c 0), .int .i64 (s'.c 1), .int .i64 (s'.c 2), .int .i64 (s'.c 3), .int .i64 (s'.c 4), .int .i64 (s'.c 5), .bool s'.f] 73)) w.heap.size s' := World.alloc_heap_new _ _
  have hnk := World.new_ne w ⟨kb, 3, none⟩ c3
  unfold stA
  clear h hs hcd hops hcy hrc hsr hcv hcz hk hfm
  go_enter Tryz.func77, Tryz.ntmps77
  go_upto_region 3 with (go_at_call 60; refine (kbelow_yes _ _ _ (by omega) hri).mono ?_; rintro e w1 ⟨rfl, hw1⟩; subst hw1)
  generalize w.alloc (.cells #[.int .i64 s'.p, .int .i64 (s'.c 0), .int .i64 (s'.c 1), .int .i64 (s'.c 2), .int .i64 (s'.c 3), .int .i64 (s'.c 4), .int .i64 (s'.c 5), .bool s'.f] 73) = W0 at hA hB ⊢
  have k0 : W0.cell? ⟨kb, 0, none⟩ = some (.slice (some ⟨cb, co, none⟩) p.code.length cc) := (hA.cell (p := ⟨kb, 0, none⟩) hkb).trans c0
  have k1 : W0.cell? ⟨cb, co + r, none⟩ = some (.slice ua c.length ug) := (hA.cell (p := ⟨cb, co + r, none⟩) hclt).trans hcc
  obtain ⟨n0, n1, n2, n3, n4, n5, n6, n7⟩ := hB.cs
  simp only [Nat.zero_add] at n1 n2 n3 n4 n5 n6 n7
  have bQ : Below w.heap.size w W0.drew := hA.drew
  go_cut [7] from 17 to 25 (fun s7 wx => s7 = .nilIface ∧ Below W0.heap.size W0 wx)
  case first =>
    go_region_with (go_at_call 115; refine (HC.out _ bQ).mono ?_; rintro e w1 ⟨rfl, b1⟩)
    all_goals
      go_wp2_with fail
      go_meet
      case rel => exact ⟨rfl, (Below.refl _ W0).drew.trans (b1.mono (Nat.le_refl _))⟩
  case rest =>
  obtain ⟨rfl, hb2⟩ := hcut
  have hb3 : Below w.heap.size w wc := hA.trans (hb2.mono hA.size)
  have hB3 : StB wc w.heap.size s' := (hb2.block _ (Array.getElem?_eq_some_iff.1 hB).1).trans hB
  clear n0 n1 n2 n3 n4 n5 n6 n7 k0 k1 hB hA hb2 bQ HC
  generalize wc = W3 at *
  obtain ⟨n0, n1, n2, n3, n4, n5, n6, n7⟩ := hB3.cs
  simp only [Nat.zero_add] at n1 n2 n3 n4 n5 n6 n7
  have D := H.out.all hb3
  have k3 := D.c3
  rw [hrk] at k3
  have hth : ∀ nq, (W3.drewN nq).there a.rb (r * 8) 8 := fun nq => there_st (D.rooms r s HSR.out) D.rf nq
  go_upto_region 6 with fail
  go_cut [29] from 29 to 35 (fun _ wx => ∃ nq, wx = setSt (W3.drewN nq) a.rb (r * 8) s')
  case first =>
    refine wp_region_quiet_last (by kernel_rfl) rfl (by decide +kernel) (by decide +kernel) ?_
    simp only [List.dropLast_cons_cons, List.dropLast_singleton]
    repeat (go_big_quiet_step (fail))
    refine wpQuiet_nil ?_
    intro _ hw'
    obtain ⟨nq, hw''⟩ := hw'
    subst hw''
    refine wp_store_mid _ _ _ rfl a.rb (r * 8) _ rfl rfl (hth nq) rfl (by simp [Value.oneCell']) ?_
    go_wp2_with fail
    go_meet
    case rel => exact ⟨nq, rfl⟩
  case rest =>
  obtain ⟨nq, hwx⟩ := hcut
  have bN : Below W3.heap.size W3 (W3.drewN nq) := below_dN (Below.refl _ _) nq
  have D9 := (D.all bN).set HSR.out s'
  have tk9 : KTouch [a.rb] W3 (setSt (W3.drewN nq) a.rb (r * 8) s') := (KTouch.of bN).trans (setSt_touch _ (by simp) _ _)
  rw [← hwx] at D9 tk9
  have tkw : KTouch [a.rb] w wc := (KTouch.of hb3).trans tk9
  clear hwx
  go_wp2
  go_ret
  exact ⟨rfl, D9, tkw⟩
end Go.Proofs.YtajfgmlockjmhaiGreatDoor
namespace Go.Proofs.YtajfgmlockjmhaiGreatDoor
open Go.RowKit

theorem stCells_next {l : List St} {n : Nat} {s : St} (h : l[n]? = some s) : stCells (l.take (n + 1)) = stCells (l.take n) ++ [.int .i64 s.p, .int .i64 (s.c 0), .int .i64 (s.c 1), .int .i64 (s.c 2), .int .i64 (s.c 3), .int .i64 (s.c 4), .int .i64 (s.c 5), .bool s.f] := by
  obtain ⟨hk, rfl⟩ := List.getElem?_eq_some_iff.1 h
  rw [List.take_succ_eq_append_getElem hk, stCells_snoc]
set_option maxRecDepth 100000 in
set_option maxHeartbeats 8000000 in
theorem all_st {G : World → Prop} (C : KerC G) {w0 W : World} {p : PD} {vc vs vw : Value} {k : KD} {kb : Nat} {F : List Nat} (hK : C.K w0 W p vc vs vw k kb F) (hk : KOk p k) (hp : plchk p = 0) :
    Calls Tryz.prog 39 #[.int .i64 (k.rooms.length : Nat), .func (.func 32) #[.pointer (some ⟨kb, 0, none⟩)] #[]] W fun e w' => ∃ v, e = .returned (.tuple #[v, .bool true]) ∧ w'.ownsRow W.heap.size 73 8 v k.rooms.length (stCells k.rooms) ∧ Below W.heap.size W w' := by
  obtain ⟨jj, hj, hy0, hy1, hy2⟩ := info_parts infoSt
  have hn5 : k.rooms.length ≤ 5 := by rw [hk.rl]; exact (plchk_zero hp).1
  have HT : Hid (∀ (i : Nat) s wr, k.rooms[i]? = some s → Below W.heap.size W wr → Calls Tryz.prog 32 #[.pointer (some ⟨kb, 0, none⟩), .int .i64 i] wr fun e w2 => e = .returned (.tuple #[.agg #[.int .i64 s.p, .int .i64 (s.c 0), .int .i64 (s.c 1), .int .i64 (s.c 2), .int .i64 (s.c 3), .int .i64 (s.c 4), .int .i64 (s.c 5), .bool s.f], .nilIface]) ∧ Below wr.heap.size wr w2) := fun i s wr hs hb => by
    have h := C.state (i : Int) (C.frame hK (KTouch.of (M := []) hb) (fun m hm => (by cases hm))) hk hp
    have hi := (List.getElem?_eq_some_iff.1 hs).1
    have hno : noRoom k i = false := by
      unfold noRoom
      rw [Bool.or_eq_false_iff]
      exact ⟨decide_eq_false (by omega), decide_eq_false (by omega)⟩
    have hrk : roomK k i = s := by
      unfold roomK
      rw [if_neg (by rw [hno]; decide), Int.toNat_natCast, List.getD_eq_getElem?_getD, hs]
      rfl
    rw [hno, hrk] at h
    exact h
  have HN : Hid (∀ wr, Below W.heap.size W wr → Calls Tryz.prog 32 #[.pointer (some ⟨kb, 0, none⟩), .int .i64 (k.rooms.length : Nat)] wr fun e w2 => ∃ x0 x1 x2 x3 x4 x5 x6 x7, e = .returned (.tuple #[.agg #[.int .i64 x0, .int .i64 x1, .int .i64 x2, .int .i64 x3, .int .i64 x4, .int .i64 x5, .int .i64 x6, .bool x7], .iface 93 (.int .i64 1)]) ∧ Below wr.heap.size wr w2) := fun wr hb => by
    have h := C.state (k.rooms.length : Int) (C.frame hK (KTouch.of (M := []) hb) (fun m hm => (by cases hm))) hk hp
    have hno : noRoom k k.rooms.length = true := by
      unfold noRoom
      rw [Bool.or_eq_true]
      exact Or.inr (decide_eq_true (Int.le_refl _))
    rw [hno] at h
    refine h.mono ?_
    rintro e w2 ⟨rfl, b2⟩
    exact ⟨_, _, _, _, _, _, _, _, rfl, b2⟩
  have HA : Hid (stCells (k.rooms.take k.rooms.length) = stCells k.rooms) := by show _ = _; rw [List.take_length]
  clear hK hk hp
  go_enter Tryz.func39, Tryz.ntmps39
  go_wp2
  go_loopw [6, 13] (fun v i wr => ∃ n : Nat, n ≤ k.rooms.length ∧ i = .int .i64 n ∧ wr.ownsRow W.heap.size 73 8 v n (stCells (k.rooms.take n)) ∧ Below W.heap.size W wr) (fun _ i _ => k.rooms.length - (intOf i).toNat)
  case atStart => exact ⟨0, Nat.zero_le _, rfl, World.ownsRow_nil _ _ _ _, Below.refl _ _⟩
  case round =>
  obtain ⟨n, hn, rfl, own, hb⟩ := hrel
  obtain ⟨va, vc, rfl⟩ := sl_form own
  by_cases hnl : n < k.rooms.length
  · have hni : (n : Int) < (k.rooms.length : Int) := by omega
    obtain ⟨s, hs⟩ : ∃ s, k.rooms[n]? = some s := ⟨_, List.getElem?_eq_getElem hnl⟩
    have HS : Hid (stCells (k.rooms.take (n + 1)) = stCells (k.rooms.take n) ++ [.int .i64 s.p, .int .i64 (s.c 0), .int .i64 (s.c 1), .int .i64 (s.c 2), .int .i64 (s.c 3), .int .i64 (s.c 4), .int .i64 (s.c 5), .bool s.f]) := stCells_next hs
    have hq := HT.out n s wr hs hb
    clear hs
    go_wp2_with (first
      | (go_at_call 32; refine hq.mono ?_; rintro e w2 ⟨rfl, b2⟩; have own2 := own_block own (fun k hk => b2.block k (own.lt k hk).2); have hs2 := b2.size; have hsb := hb.size)
      | (at_builtin; refine wpList_append_at _ rfl _ _ 63 rfl W.heap.size 73 jj _ 8 64 Tryz.underlying63 hj hy0 hy1 hy2 rfl (by decide) _ _ _ rfl ((own2.alloc _).alloc _) ⟨w2.heap.size + 1, 0, none⟩ 1 1 [.int .i64 s.p, .int .i64 (s.c 0), .int .i64 (s.c 1), .int .i64 (s.c 2), .int .i64 (s.c 3), .int .i64 (s.c 4), .int .i64 (s.c 5), .bool s.f] rfl rfl (st_new (by simp) s _) (st_one s) (by unfold maxLen; omega) (by omega) (by simp; omega) ?_; intro v1 w8 own8 hg8 hnw8))
    have hb3 : Below W.heap.size W w2 := hb.trans (b2.mono hb.size)
    have hb8 : Below W.heap.size W w8 := ((hb3.alloc (by omega) _).alloc (by simp; omega) _).grown hg8 (by simp; omega) (fun k hk => (own2.lt k hk).1)
    obtain ⟨g8, cap8, rfl⟩ := own_succ own8
    go_wp2
    go_roundw
    case rel => exact ⟨n + 1, by omega, by go_num, by rw [HS.out]; exact own8, hb8⟩
    case measure => simp [intOf]; omega
  obtain rfl : n = k.rooms.length := by omega
  have hni : decide ((k.rooms.length : Int) < (k.rooms.length : Int)) = false := decide_eq_false (by omega)
  have hnn : decide (k.rooms.length < k.rooms.length) = false := decide_eq_false (by omega)
  rw [HA.out] at own
  clear hnl hn
  go_wp2_with (first
    | (go_at_call 32; refine (HN.out _ hb).mono ?_; rintro e w2 ⟨x0, x1, x2, x3, x4, x5, x6, x7, rfl, b2⟩)
    | go_region)
  all_goals
    go_wp2_with fail
    go_ret2
    refine ⟨_, rfl, ?_, ?_⟩
    · have own2 := own_block own (fun k hk => b2.block k (own.lt k hk).2)
      first | exact own2.alloc _ | exact (own2.alloc _).drew
    · have hb3 : Below W.heap.size W w2 := hb.trans (b2.mono hb.size)
      have := hb3.size
      repeat' first | exact hb3 | refine Below.drew ?_ | refine Below.alloc ?_ (by first | omega | (simp; omega)) _
end Go.Proofs.YtajfgmlockjmhaiGreatDoor

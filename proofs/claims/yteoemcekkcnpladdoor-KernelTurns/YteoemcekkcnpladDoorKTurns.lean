/-
  The law KernelTurns: the walk, under what package kernel does.
-/
import Derived.Test.YteoemcekkcnpladDoorKTurns0
import Derived.Test.YteoemcekkcnpladDoorFWho
import Derived.Test.YteoemcekkcnpladDoorJa8
import Derived.Deep.CutRange
import Derived.Deep.RegionWith
import Derived.Deep.RegionHeld3
import Derived.BigQuiet
import Derived.RangeFuncNested
namespace Go.Proofs.YteoemcekkcnpladDoor
open Go.RowKit

set_option maxRecDepth 1000000 in
set_option maxHeartbeats 16000000 in
theorem kturns_of {G : World → Prop} (C : KerC G) (CT : KerTime C) (CW : KerWire C) (p : PD) (vc vs vw : Value) (n : Int) (w : World) (hG : G w) (hP : Pln w vc vs vw p) :
    Calls Tryd.prog 4 #[plV vc p.ticks vs vw, .int .i64 n] w fun e w' => e = .returned (.bool true) ∧ Below w.heap.size w w' := by
  obtain ⟨ca, cc, rfl⟩ := hP.code.form
  obtain ⟨sa, sc, rfl⟩ := hP.spans.form
  obtain ⟨wa, wc', rfl⟩ := hP.wires.form
  have hx0 := Bx.first w (.slice ca p.code.length cc) p.ticks (.slice sa p.spans.length sc) (.slice wa p.wires.length wc')
  have HP : Hid (Pln w (.slice ca p.code.length cc) (.slice sa p.spans.length sc) (.slice wa p.wires.length wc') p) := hP
  have HG : Hid (G w) := hG
  clear hP hG
  unfold plV
  go_enter Tryd.func4, Tryd.ntmps4
  go_upto_region 1 with fail
  generalize hW0 : w.alloc (.cells #[.slice ca p.code.length cc, .int .i64 p.ticks, .slice sa p.spans.length sc, .slice wa p.wires.length wc'] 31) = W0 at hx0 ⊢
  clear hW0
  have bT : Below W0.heap.size W0 (((W0.alloc (.cells #[.int .i64 1, .int .i64 2, .int .i64 7] 25)).alloc (.cells #[.slice (some ⟨W0.heap.size, 0, none⟩) 1 1] 26)).alloc (.cells #[.int .i64 0, .int .i64 1, .int .i64 0] 42)) := (((Below.refl _ W0).alloc (Nat.le_refl _) _).alloc (by simp) _).alloc (by rw [World.size_alloc, World.size_alloc]; omega) _
  have hxT := hx0.step bT
  have hGT : G (((W0.alloc (.cells #[.int .i64 1, .int .i64 2, .int .i64 7] 25)).alloc (.cells #[.slice (some ⟨W0.heap.size, 0, none⟩) 1 1] 26)).alloc (.cells #[.int .i64 0, .int .i64 1, .int .i64 0] 42)) := C.all w _ HG.out hxT.below
  have HNew : Hid (Calls Tryd.prog 10 #[.agg #[.slice (some ⟨W0.heap.size + 1, 0, none⟩) 1 1, .int .i64 2, .slice (some ⟨W0.heap.size + 2, 0, none⟩) 1 1, .slice none 0 0]] (((W0.alloc (.cells #[.int .i64 1, .int .i64 2, .int .i64 7] 25)).alloc (.cells #[.slice (some ⟨W0.heap.size, 0, none⟩) 1 1] 26)).alloc (.cells #[.int .i64 0, .int .i64 1, .int .i64 0] 42)) fun e w1 => ∃ kb, e = .returned (.tuple #[.pointer (some ⟨kb, 0, none⟩), .nilIface]) ∧
      Calls Tryd.prog 11 #[.pointer (some ⟨kb, 0, none⟩)] w1 fun e w2 => e = .returned (.agg #[.int .i64 0, .int .i64 0, .int .i64 0, .int .i64 0]) ∧
      Calls Tryd.prog 12 #[.pointer (some ⟨kb, 0, none⟩), .int .i64 0] (w2.alloc (.cells #[.int .i64 0, .int .i64 0, .int .i64 0, .int .i64 0] 44)) fun e w3 => (∃ x0 x1 x2 x3 x4 x5 : Int, ∃ b : Bool, e = .returned (.tuple #[.agg #[.int .i64 x0, .int .i64 x1, .int .i64 x2, .int .i64 7, .int .i64 x3, .int .i64 x4, .int .i64 x5, .bool b], .nilIface])) ∧ (∀ o, (w3.alloc o).cell? ⟨w2.heap.size, 1, none⟩ = some (.int .i64 0)) ∧
      ∀ W3, Below w3.heap.size w3 W3 → Calls Tryd.prog 11 #[.pointer (some ⟨kb, 0, none⟩)] W3 fun e w4 => (∃ x0 x2 x3 : Int, e = .returned (.agg #[.int .i64 x0, .int .i64 (-1), .int .i64 x2, .int .i64 x3])) ∧
      Calls Tryd.prog 13 #[.pointer (some ⟨kb, 0, none⟩)] w4 fun e w5 => e = .returned (.int .i64 2) ∧ Bx w w5 (.slice ca p.code.length cc) p.ticks (.slice sa p.spans.length sc) (.slice wa p.wires.length wc')) := by
    have q1 := C.new toyP _ _ _ _ hGT (toy_pln W0 _ rfl) toy_ok
    refine q1.mono ?_
    rintro e w1 ⟨kb, F1, rfl, hK1⟩
    refine ⟨kb, rfl, ?_⟩
    refine (C.tick hGT hK1 toy_ok (kT_ok toy_ok 0) (by decide)).mono ?_
    rintro e w2 ⟨rfl, F2, hK2, _, _⟩
    refine ⟨by rw [show (tickK toyP toyP.spans (newK toyP)).2 = (0, 0, 0, 0) from toy_first]; rfl, ?_⟩
    have hb2 : Below w2.heap.size w2 (w2.alloc (.cells #[.int .i64 0, .int .i64 0, .int .i64 0, .int .i64 0] 44)) := (Below.refl _ w2).alloc (Nat.le_refl _) _
    have hK2' := C.frame hK2 (KTouch.of (M := []) hb2) (by simp)
    refine (C.state 0 hK2' (kT_ok toy_ok 1) toy_ok).mono ?_
    rintro e w3 ⟨rfl, hb3⟩
    refine ⟨⟨_, _, _, _, _, _, _, by rw [show noRoom (tickK toyP toyP.spans (newK toyP)).1 0 = false from toy_state.2]; unfold stA; rw [show (roomK (tickK toyP toyP.spans (newK toyP)).1 0).c 2 = 7 from toy_state.1]; rfl⟩, fun o => (((Below.refl _ w3).alloc (Nat.le_refl _) o).cell (p := ⟨w2.heap.size, 1, none⟩) (by have := hb3.size; rw [World.size_alloc] at this; show w2.heap.size < _; omega)).trans ((hb3.cell (p := ⟨w2.heap.size, 1, none⟩) (by simp)).trans (by simp)), fun W3 hb4 => ?_⟩
    have hK3 := C.frame hK2' (KTouch.of (M := []) (hb3.trans (hb4.mono hb3.size))) (by simp)
    refine (C.tick hGT hK3 toy_ok (kT_ok toy_ok 1) (by decide)).mono ?_
    rintro e w4 ⟨rfl, F4, hK4, _, _⟩
    refine ⟨⟨_, _, _, by unfold evA; rw [show (tickK toyP toyP.spans (tickK toyP toyP.spans (newK toyP)).1).2.2.1 = -1 from toy_next]⟩, ?_⟩
    refine (CT hK4).mono ?_
    rintro e w5 ⟨rfl, q, rfl⟩
    exact ⟨by rw [show (tickK toyP toyP.spans (tickK toyP toyP.spans (newK toyP)).1).1 = kT toyP 2 from rfl, kT_time]; rfl, (hxT.step (C.since hK4)).dN q⟩
  clear bT hx0 hxT hGT
  have hfr := field_room
  go_upto_region 8 with (first
    | (go_at_call 10; refine HNew.out.mono ?_; rintro e w1 ⟨kb1, rfl, q2⟩; clear HNew)
    | (go_at_call 11; refine q2.mono ?_; rintro e w2 ⟨rfl, q3⟩; clear q2)
    | (go_at_call 12; refine q3.mono ?_; rintro e w3 ⟨⟨x0, x1, x2, x3, x4, x5, xb, rfl⟩, h31, q4⟩; clear q3)
    | (go_at_call 11; refine (q4 _ ((Below.refl _ w3).alloc (Nat.le_refl _) _)).mono ?_; rintro e w4 ⟨⟨y0, y2, y3, rfl⟩, q5⟩; clear q4)
    | (go_at_call 13; refine q5.mono ?_; rintro e w5 ⟨rfl, hx5⟩; clear q5))
  clear h31 hfr
  have hs5 := hx5.size
  have k0 := hx5.c0
  have k1 := hx5.c1
  have k2 := hx5.c2
  have k3 := hx5.c3
  have HG5 : Hid (G w5) := C.all w w5 HG.out hx5.below
  by_cases hp : plchk p = 0
  case neg =>
    have qn := C.no p _ _ _ w5 HG5.out (HP.out.all hx5.below) hp
    unfold plV at qn
    rw [wErr_not hp] at qn
    generalize plchk p = z at qn
    clear hp
    go_wp2_with (go_at_call 10; refine qn.mono ?_; rintro e w6 ⟨xp, rfl, b6⟩; clear qn)
    go_ret
    exact ⟨rfl, hx5.below.trans (b6.mono hx5.below.size)⟩
  have qn := C.new p _ _ _ w5 HG5.out (HP.out.all hx5.below) hp
  unfold plV at qn
  have HW : Hid (∀ (t : Nat) W, Below w.heap.size w W → Calls Tryd.prog 14 #[.int .i64 p.ticks, .slice sa p.spans.length sc, .int .i64 (t : Int)] W fun e w' => e = .returned (.tuple #[.int .i64 (whoK p (kT p t)), .nilIface]) ∧ Below W.heap.size W w') := fun t W hb => by
    refine (who_any p.ticks p.spans _ t W (HP.out.spans.all hb)).mono ?_
    rintro e w' ⟨rfl, h⟩
    refine ⟨?_, h⟩
    unfold whoR whoK
    rw [if_pos (plchk_zero hp).2.2.1, if_neg (by omega), kT_time]
    rfl
  go_upto_region 11 with (go_at_call 10; refine qn.mono ?_; rintro e w6 ⟨kb, F, rfl, hK⟩; clear qn)
  have hx6 := hx5.step (C.since hK)
  clear k0 k1 k2 k3 hx5
  go_wp2
  go_loopw [12] (fun i wr => ∃ (t : Nat) (F : List Nat), t ≤ 100 ∧ i = .int .i64 t ∧ C.K w5 wr p (.slice ca p.code.length cc) (.slice sa p.spans.length sc) (.slice wa p.wires.length wc') (kT p t) kb F ∧ Bx w wr (.slice ca p.code.length cc) p.ticks (.slice sa p.spans.length sc) (.slice wa p.wires.length wc')) (fun i _ => 100 - (intOf i).toNat)
  case atStart => exact ⟨0, F, Nat.zero_le _, rfl, hK, hx6⟩
  case round =>
  clear hK hx6
  obtain ⟨t, F1, ht, rfl, hK, hx⟩ := hrel
  by_cases htn : (t : Int) < n
  case neg =>
    have htn' : decide ((t : Int) < n) = false := decide_eq_false htn
    clear hK
    go_wp2
    go_ret
    exact ⟨rfl, hx.below⟩
  by_cases ht1 : t < 100
  case neg =>
    obtain rfl : t = 100 := by omega
    rw [show ((100 : Nat) : Int) = 100 from rfl] at htn
    clear hK
    go_wp2
    go_ret
    exact ⟨rfl, hx.below⟩
  have hti : (t : Int) < 100 := by omega
  have k1 := hx.c1
  have k2 := hx.c2
  rename World => wA
  have hWho := HW.out t wA hx.below
  obtain ⟨who, hwho⟩ : ∃ x, x = whoK p (kT p t) := ⟨_, rfl⟩
  rw [← hwho] at hWho
  have HWh : Hid (who = whoK p (kT p t)) := hwho
  clear hwho
  go_upto_region 15 with (go_at_call 14; refine hWho.mono ?_; rintro e wB ⟨rfl, bB⟩; clear hWho)
  replace hK := C.frame hK (KTouch.of (M := []) bB) (by simp)
  replace hx := hx.step bB
  clear k1 k2 bB
  have HKo : Hid (KOk p (kT p t)) := kT_ok hp t
  have HLen : Hid ((kT p t).rooms.length = p.code.length ∧ (kT p t).lines.length = p.wires.length ∧ p.code.length ≤ 5 ∧ p.wires.length ≤ 12) := ⟨(kT_ok hp t).rl, (kT_ok hp t).ll, (plchk_zero hp).1, (wschk_ok (plchk_zero hp).2.2.2.1).1⟩
  obtain ⟨ii, hi, hz0, hz1, hz2⟩ := info_parts infoSt
  obtain ⟨jj, hj, hy0, hy1, hy2⟩ := info_parts infoHd
  go_wp2
  go_loopw [15, 17] (fun v i wr => ∃ r : Nat, r ≤ p.code.length ∧ i = .int .i64 r ∧ wr.ownsRow wB.heap.size 48 8 v r (stCells ((kT p t).rooms.take r)) ∧ Below wB.heap.size wB wr) (fun _ i _ => p.code.length - (intOf i).toNat)
  case atStart => exact ⟨0, Nat.zero_le _, rfl, World.ownsRow_nil _ _ _ _, Below.refl _ _⟩
  case round =>
    obtain ⟨r, hr, rfl, hown, hb⟩ := hrel
    have hbx := hx.step hb
    have k0 := hbx.c0
    by_cases hrl : r < p.code.length
    case pos =>
      have hri : (r : Int) < (p.code.length : Int) := by omega
      obtain ⟨s, hs⟩ : ∃ s, (kT p t).rooms[r]? = some s := ⟨_, List.getElem?_eq_getElem (by rw [HLen.out.1]; exact hrl)⟩
      have HS : Hid ((kT p t).rooms[r]? = some s) := hs
      have HSt : Hid (Calls Tryd.prog 12 #[.pointer (some ⟨kb, 0, none⟩), .int .i64 r] wr fun e w' => e = .returned (.tuple #[.agg #[.int .i64 s.p, .int .i64 (s.c 0), .int .i64 (s.c 1), .int .i64 (s.c 2), .int .i64 (s.c 3), .int .i64 (s.c 4), .int .i64 (s.c 5), .bool s.f], .nilIface]) ∧ Below wr.heap.size wr w') := (C.state (r : Int) (C.frame hK (KTouch.of (M := []) hb) (by simp)) HKo.out hp).mono (by
        rintro e w' ⟨rfl, h⟩
        have hno : noRoom (kT p t) (r : Int) = false := by unfold noRoom; rw [HLen.out.1]; simp [hrl]
        have hrm : roomK (kT p t) (r : Int) = s := by unfold roomK; rw [hno, if_neg (by decide), Int.toNat_natCast]; simp [List.getD, hs]
        exact ⟨by rw [hno, hrm]; rfl, h⟩)
      clear hs
      have hr5 : r + 1 ≤ 5 := by have := HLen.out.2.2.1; omega
      go_upto_region 23 with (go_at_call 12; refine HSt.out.mono ?_; rintro e w7 ⟨rfl, b7⟩; clear HSt)
      have own7 : w7.ownsRow wB.heap.size 48 8 _ r (stCells ((kT p t).rooms.take r)) := own_below hown b7 (Nat.le_refl _)
      have hb7 : Below wB.heap.size wB w7 := hb.trans (b7.mono hb.size)
      clear hown k0 hbx
      go_wp2_with (at_builtin; refine wpList_append_own _ rfl _ _ 54 rfl wB.heap.size 48 ii _ 8 64 Tryd.underlying54 hi hz0 hz1 hz2 rfl (by decide) _ _ _ rfl ((own7.alloc _).alloc _) ⟨w7.heap.size + 1, 0, none⟩ 1 1 [.int .i64 s.p, .int .i64 (s.c 0), .int .i64 (s.c 1), .int .i64 (s.c 2), .int .i64 (s.c 3), .int .i64 (s.c 4), .int .i64 (s.c 5), .bool s.f] rfl rfl ?c1A ?c2A ?c3A ?c4A ?c5A ?_)
      case c1A => exact st_new (by simp) s _
      case c2A => exact st_one s
      case c3A => unfold maxLen; omega
      case c4A => omega
      case c5A => have := hb7.size; simp; omega
      intro v1 w8 own8 hg8 _
      obtain ⟨g8, cap8, rfl⟩ := own_succ own8
      have hb8 : Below wB.heap.size wB w8 := ((hb7.alloc hb7.size _).alloc (by have := hb7.size; simp; omega) _).grown hg8 (by have := hb7.size; simp; omega) (fun j hj => (own7.lt j hj).1)
      clear own7 hb7 hg8
      go_wp2
      go_roundw
      case rel => exact ⟨r + 1, by omega, by go_num, by rw [List.take_add_one, HS.out, Option.toList_some, stCells_snoc]; exact own8, hb8⟩
      case measure => simp [intOf]; omega
    obtain rfl : r = p.code.length := by omega
    have hri : decide ((p.code.length : Int) < (p.code.length : Int)) = false := decide_eq_false (by omega)
    have hrn : decide (p.code.length < p.code.length) = false := decide_eq_false (by omega)
    rw [List.take_of_length_le (by rw [HLen.out.1]; exact Nat.le_refl _)] at hown
    obtain ⟨wg, wcap, rfl, hwg1, hwg2, hwas⟩ := was_at hown (by have := (plchk_zero hp).2.1; omega)
    have hKC := C.frame hK (KTouch.of (M := []) hb) (by simp)
    have HF : Hid (∀ g ∈ F1, g < wB.heap.size) := fun g hg => (C.ge hK g hg).2
    clear hown hK hx
    rename World => wC
    have hbC := hb.size
    go_wp2
    go_loopw [16, 20] (fun v i wr => ∃ l : List (Value × Int), l.length ≤ p.wires.length ∧ i = .int .i64 (l.length : Nat) ∧ HRow (kT p t) wC.heap.size wr v l ∧ Below wC.heap.size wC wr) (fun _ i _ => p.wires.length - (intOf i).toNat)
    case atStart => exact ⟨[], Nat.zero_le _, rfl, HRow.nil _ _, Below.refl _ _⟩
    case round =>
    obtain ⟨l, hl, rfl, hrow, hb2⟩ := hrel
    have hbx2 := hbx.step hb2
    have k3 := hbx2.c3
    by_cases hll : l.length < p.wires.length
    case pos =>
      have hli : (l.length : Int) < (p.wires.length : Int) := by omega
      obtain ⟨ln, hln⟩ : ∃ ln, (kT p t).lines[l.length]? = some ln := ⟨_, List.getElem?_eq_getElem (by rw [HLen.out.2.1]; exact hll)⟩
      have HLn : Hid ((kT p t).lines[l.length]? = some ln) := hln
      have HWi : Hid (Calls Tryd.prog 15 #[.pointer (some ⟨kb, 0, none⟩), .int .i64 (l.length : Int)] wr fun e w' => ∃ ua uc, e = .returned (.tuple #[.agg #[.slice ua ln.xs.length uc, .int .i64 ln.ls], .nilIface]) ∧ Rd w' (.slice ua ln.xs.length uc) ln.xs ∧ (∀ g, (Value.slice ua ln.xs.length uc).ownBlock = some g → wr.heap.size ≤ g ∧ g < w'.heap.size) ∧ Below wr.heap.size wr w') := (CW (l.length : Int) (C.frame hKC (KTouch.of (M := []) hb2) (by simp)) HKo.out hp).mono (by
        rintro e w' ⟨u, rfl, h1, h2, h3⟩
        have hno : noLine (kT p t) (l.length : Int) = false := by unfold noLine; rw [HLen.out.2.1]; simp [hll]
        have hlk : lineK (kT p t) (l.length : Int) = ln := by unfold lineK; rw [hno, if_neg (by decide), Int.toNat_natCast]; simp [List.getD, hln]
        rw [hlk] at h1 ⊢
        obtain ⟨ua, uc, rfl⟩ := h1.form
        exact ⟨ua, uc, by rw [hno]; rfl, h1, h2, h3⟩)
      clear hln
      have hl12 : l.length + 1 ≤ 12 := by have := HLen.out.2.2.2; omega
      go_upto_region 30 with (go_at_call 15; refine HWi.out.mono ?_; rintro e w7 ⟨ua, uc, rfl, hrd, hfr, b7⟩; clear HWi)
      have own7 : w7.ownsRow wC.heap.size 58 2 _ l.length (hdCells l) := own_below hrow.own b7 (Nat.le_refl _)
      have hs7 : wC.heap.size ≤ w7.heap.size := Nat.le_trans hb2.size b7.size
      have HRw : Hid (HRow (kT p t) wC.heap.size wr _ l) := hrow
      have HRd : Hid (Rd w7 (.slice ua ln.xs.length uc) ln.xs ∧ (∀ g, (Value.slice ua ln.xs.length uc).ownBlock = some g → wr.heap.size ≤ g ∧ g < w7.heap.size)) := ⟨hrd, hfr⟩
      clear hrow hrd hfr k3 hbx2
      go_wp2_with (at_builtin; refine wpList_append_at _ rfl _ _ 55 rfl wC.heap.size 58 jj _ 2 32 Tryd.underlying55 hj hy0 hy1 hy2 rfl (by decide) _ _ _ rfl ((own7.alloc _).alloc _) ⟨w7.heap.size + 1, 0, none⟩ 1 1 [.slice ua ln.xs.length uc, .int .i64 ln.ls] rfl rfl ?c1A ?c2A ?c3A ?c4A ?c5A ?_)
      case c1A => exact hd_new (by simp) _ _ _
      case c2A => intro u hu; simp at hu; rcases hu with rfl | rfl <;> rfl
      case c3A => unfold maxLen; omega
      case c4A => omega
      case c5A => simp; omega
      intro v1 w8 own8 hg8 hnw8
      obtain ⟨g8, cap8, rfl⟩ := own_succ own8
      have HR8 : Hid (HRow (kT p t) wC.heap.size w8 (.slice (some ⟨g8, 0, none⟩) (l.length + 1) cap8) (l ++ [(.slice ua ln.xs.length uc, ln.ls)])) := HRw.out.more hb2.size HLn.out b7 HRd.out.1 HRd.out.2 hg8 own8 (fun g hg => by
        have := hnw8 g hg
        simpa using this)
      have hb8 : Below wC.heap.size wC w8 := (((hb2.trans (b7.mono hb2.size)).alloc hs7 _).alloc (by simp; omega) _).grown hg8 (by simp; omega) (fun j hj => (own7.lt j hj).1)
      clear own7 own8 hg8 hnw8
      go_wp2
      go_roundw
      case rel => exact ⟨l ++ [(.slice ua ln.xs.length uc, ln.ls)], by rw [List.length_append]; simp; omega, by rw [List.length_append]; go_num, HR8.out, hb8⟩
      case measure => simp [intOf]; omega
    have hli : decide ((l.length : Int) < (p.wires.length : Int)) = false := decide_eq_false (by omega)
    have hln : decide (l.length < p.wires.length) = false := decide_eq_false (by omega)
    have HLl : Hid (l.length = p.wires.length) := by show _ = _; omega
    rename World => wD
    have hKD := C.frame hKC (KTouch.of (M := []) hb2) (by simp)
    have HGe : Hid (∀ g ∈ F1, w5.heap.size ≤ g) := fun g hg => (C.ge hKD g hg).1
    have HRw : Hid (HRow (kT p t) wC.heap.size wD _ l) := hrow
    have HWas : Hid (∀ (r : Nat) s, (kT p t).rooms[r]? = some s → StC wD wg (r * 8) s) := fun r s hs => (hwas r s hs).block (hb2.block wg hwg2)
    have hsD := hb2.size
    have HTk : Hid (Calls Tryd.prog 11 #[.pointer (some ⟨kb, 0, none⟩)] wD fun e w' => (∃ a3 a4 : Int, e = .returned (.agg #[.int .i64 t, .int .i64 who, .int .i64 a3, .int .i64 a4])) ∧ (∃ F2, C.K w5 w' p (.slice ca p.code.length cc) (.slice sa p.spans.length sc) (.slice wa p.wires.length wc') (kT p (t + 1)) kb F2) ∧ Bx w w' (.slice ca p.code.length cc) p.ticks (.slice sa p.spans.length sc) (.slice wa p.wires.length wc') ∧ (∀ (r : Nat) s, (kT p t).rooms[r]? = some s → StC w' wg (r * 8) s) ∧ HRow (kT p t) wC.heap.size w' _ l ∧ wD.heap.size ≤ w'.heap.size) := (C.tick HG5.out hKD hp HKo.out (by rw [kT_time]; omega)).mono (by
      rintro e w' ⟨rfl, F2, hK2, tk, _⟩
      obtain ⟨e1, e2⟩ := tick_told p (kT p t)
      refine ⟨⟨(tickK p p.spans (kT p t)).2.2.2.1, (tickK p p.spans (kT p t)).2.2.2.2, by unfold evA; rw [e1, e2, kT_time, ← HWh.out]⟩, ⟨F2, hK2⟩, Below.trans hbx2 ((tk.below HGe.out (C.since hKD).size).mono hs5), fun r s hs => (HWas.out r s hs).block (tk.block wg (by omega) (fun hm => by have := HF.out wg hm; omega)), HRw.out.touch tk (fun m hm => by have := HF.out m hm; omega), tk.size⟩)
    clear hrow hKC hKD hwas hbx2
    go_upto_region 31 with fail
    clear k3
    go_upto_region 32 with (go_at_call 11; refine HTk.out.mono ?_; rintro e wE ⟨⟨a3, a4, rfl⟩, ⟨F2, hK2⟩, hxE, hwasE, hrowE, hsE⟩; clear HTk)
    have HTm : Hid (Calls Tryd.prog 13 #[.pointer (some ⟨kb, 0, none⟩)] (wE.alloc (.cells #[.int .i64 t, .int .i64 who, .int .i64 a3, .int .i64 a4] 44)) fun e w' => e = .returned (.int .i64 ((t : Int) + 1)) ∧ Below wE.heap.size wE w') := (CT (C.frame hK2 (KTouch.of (M := []) ((Below.refl _ wE).alloc (Nat.le_refl _) _)) (by simp))).mono (by
      rintro e w' ⟨rfl, q, rfl⟩
      exact ⟨by rw [kT_time]; rfl, below_dN ((Below.refl _ wE).alloc (Nat.le_refl _) _) q⟩)
    go_upto_region 34 with (go_at_call 13; refine HTm.out.mono ?_; rintro e wF ⟨rfl, bF⟩; clear HTm)
    replace hK2 := C.frame hK2 (KTouch.of (M := []) bF) (by simp)
    replace hxE := hxE.step bF
    replace hwasE : ∀ (r : Nat) s, (kT p t).rooms[r]? = some s → StC wF wg (r * 8) s := fun r s hs => (hwasE r s hs).block (bF.block wg (by omega))
    replace hrowE := hrowE.touch (KTouch.of (M := []) bF) (by simp)
    have hsF : wD.heap.size ≤ wF.heap.size := Nat.le_trans hsE bF.size
    have hlt2 : wg < wF.heap.size := by omega
    clear bF hsE
    have HKo2 : Hid (KOk p (kT p (t + 1))) := kT_ok hp (t + 1)
    have HLen2 : Hid ((kT p (t + 1)).rooms.length = p.code.length ∧ (kT p (t + 1)).lines.length = p.wires.length) := ⟨(kT_ok hp (t + 1)).rl, (kT_ok hp (t + 1)).ll⟩
    have hnq := neq_st
    go_wp2
    go_loopw [24] (fun i wr => ∃ r : Nat, r ≤ p.code.length ∧ i = .int .i64 r ∧ Below wF.heap.size wF wr) (fun i _ => p.code.length - (intOf i).toNat)
    case atStart => exact ⟨0, Nat.zero_le _, rfl, Below.refl _ _⟩
    case round =>
    obtain ⟨r, hr, rfl, hb3⟩ := hrel
    have hbx3 := hxE.step hb3
    have k0 := hbx3.c0
    by_cases hrl : r < p.code.length
    case pos =>
      have hri : (r : Int) < (p.code.length : Int) := by omega
      have hr5 : r + 1 ≤ 5 := by have := HLen.out.2.2.1; omega
      obtain ⟨s2, hs2⟩ : ∃ s, (kT p (t + 1)).rooms[r]? = some s := ⟨_, List.getElem?_eq_getElem (by rw [HLen2.out.1]; exact hrl)⟩
      obtain ⟨s1, hs1⟩ : ∃ s, (kT p t).rooms[r]? = some s := ⟨_, List.getElem?_eq_getElem (by rw [HLen.out.1]; exact hrl)⟩
      have HSt : Hid (Calls Tryd.prog 12 #[.pointer (some ⟨kb, 0, none⟩), .int .i64 r] wr fun e w' => e = .returned (.tuple #[.agg #[.int .i64 s2.p, .int .i64 (s2.c 0), .int .i64 (s2.c 1), .int .i64 (s2.c 2), .int .i64 (s2.c 3), .int .i64 (s2.c 4), .int .i64 (s2.c 5), .bool s2.f], .nilIface]) ∧ Below wr.heap.size wr w') := (C.state (r : Int) (C.frame hK2 (KTouch.of (M := []) hb3) (by simp)) HKo2.out hp).mono (by
        rintro e w' ⟨rfl, h⟩
        have hno : noRoom (kT p (t + 1)) (r : Int) = false := by unfold noRoom; rw [HLen2.out.1]; simp [hrl]
        have hrm : roomK (kT p (t + 1)) (r : Int) = s2 := by unfold roomK; rw [hno, if_neg (by decide), Int.toNat_natCast]; simp [List.getD, hs2]
        exact ⟨by rw [hno, hrm]; rfl, h⟩)
      have HEq : Hid ((r : Int) ≠ who → s2 = s1) := fun hne => by
        have := tick_room (p := p) (k := kT p t) (r := r) (by rw [← HWh.out]; exact hne)
        rw [show (tickK p p.spans (kT p t)).1 = kT p (t + 1) from rfl, hs2, hs1] at this
        exact Option.some.inj this
      have hst1 := hwasE r s1 hs1
      clear hs1 hs2
      have hgr : wg < wr.heap.size := Nat.lt_of_lt_of_le hlt2 hb3.size
      replace hst1 := hst1.block (hb3.block wg hlt2)
      go_upto_region 38 with (go_at_call 12; refine HSt.out.mono ?_; rintro e w7 ⟨rfl, b7⟩; clear HSt)
      have hst7 := hst1.block (b7.block wg hgr)
      have hb7 : Below wF.heap.size wF w7 := hb3.trans (b7.mono hb3.size)
      have bA : Below w7.heap.size w7 (w7.alloc (.cells #[.int .i64 s2.p, .int .i64 (s2.c 0), .int .i64 (s2.c 1), .int .i64 (s2.c 2), .int .i64 (s2.c 3), .int .i64 (s2.c 4), .int .i64 (s2.c 5), .bool s2.f] 48)) := (Below.refl _ _).alloc (Nat.le_refl _) _
      have hst8 := hst7.block (bA.block wg (Nat.lt_of_lt_of_le hgr b7.size))
      have hb8 : Hid (Below wF.heap.size wF (w7.alloc (.cells #[.int .i64 s2.p, .int .i64 (s2.c 0), .int .i64 (s2.c 1), .int .i64 (s2.c 2), .int .i64 (s2.c 3), .int .i64 (s2.c 4), .int .i64 (s2.c 5), .bool s2.f] 48))) := hb7.trans (bA.mono hb7.size)
      clear hst1 hst7 hb7 bA k0 hbx3 b7
      by_cases hwr : (r : Int) = who
      · subst hwr
        clear hst8
        go_quiet (fail)
        go_wp2
        go_roundw
        case rel => exact ⟨r + 1, by omega, by go_num, below_dN hb8.out nq⟩
        case measure => simp [intOf]; omega
      · obtain rfl := HEq.out hwr
        have hwr' : ((r : Int) == who) = false := by simpa using hwr
        obtain ⟨c0, c1, c2, c3, c4, c5, c6, c7⟩ := hst8
        go_quiet (fail)
        go_wp2
        go_roundw
        case rel => exact ⟨r + 1, by omega, by go_num, below_dN hb8.out nq⟩
        case measure => simp [intOf]; omega
    obtain rfl : r = p.code.length := by omega
    have hri : decide ((p.code.length : Int) < (p.code.length : Int)) = false := decide_eq_false (by omega)
    have hrn : decide (p.code.length < p.code.length) = false := decide_eq_false (by omega)
    replace hK2 := C.frame hK2 (KTouch.of (M := []) hb3) (by simp)
    replace hrowE := hrowE.touch (KTouch.of (M := []) hb3) (by simp)
    clear hwasE hxE hnq
    obtain ⟨vg, vcap, rfl⟩ := own4_form hrowE.own
    rename World => wH
    go_upto_region 40 with fail
    clear k0
    go_wp2
    go_loopw [27] (fun i wr => ∃ r : Nat, r ≤ p.wires.length ∧ i = .int .i64 r ∧ Below wH.heap.size wH wr) (fun i _ => p.wires.length - (intOf i).toNat)
    case atStart => exact ⟨0, Nat.zero_le _, rfl, Below.refl _ _⟩
    case round =>
    obtain ⟨r, hr, rfl, hb4⟩ := hrel
    have hbx4 := hbx3.step hb4
    have k3 := hbx4.c3
    by_cases hrl : r < p.wires.length
    case pos =>
      have hri : (r : Int) < (p.wires.length : Int) := by omega
      have hr12 : r + 1 ≤ 12 := by have := HLen.out.2.2.2; omega
      obtain ⟨wb, wo, f, tt, kk, dd, rfl, hwlt, hxw, d0, d1, _, _⟩ := HP.out.wires.at hrl
      have hblw := hbx4.below
      replace d0 := (hblw.cell (p := ⟨wb, _, none⟩) hwlt).trans d0
      replace d1 := (hblw.cell (p := ⟨wb, _, none⟩) hwlt).trans d1
      have hwlt' : wb < wr.heap.size := Nat.lt_of_lt_of_le hwlt hblw.size
      have hwl2 : w.heap.size < wr.heap.size := by have := hbx4.size; omega
      obtain ⟨ln2, hln2⟩ : ∃ ln, (kT p (t + 1)).lines[r]? = some ln := ⟨_, List.getElem?_eq_getElem (by rw [HLen2.out.2]; exact hrl)⟩
      obtain ⟨ln1, hln1⟩ : ∃ ln, (kT p t).lines[r]? = some ln := ⟨_, List.getElem?_eq_getElem (by rw [HLen.out.2.1]; exact hrl)⟩
      have HWi : Hid (Calls Tryd.prog 15 #[.pointer (some ⟨kb, 0, none⟩), .int .i64 (r : Int)] wr fun e w' => ∃ ua uc, e = .returned (.tuple #[.agg #[.slice ua ln2.xs.length uc, .int .i64 ln2.ls], .nilIface]) ∧ Rd w' (.slice ua ln2.xs.length uc) ln2.xs ∧ Below wr.heap.size wr w') := (CW (r : Int) (C.frame hK2 (KTouch.of (M := []) hb4) (by simp)) HKo2.out hp).mono (by
        rintro e w' ⟨u, rfl, h1, h2, h3⟩
        have hno : noLine (kT p (t + 1)) (r : Int) = false := by unfold noLine; rw [HLen2.out.2]; simp [hrl]
        have hlk : lineK (kT p (t + 1)) (r : Int) = ln2 := by unfold lineK; rw [hno, if_neg (by decide), Int.toNat_natCast]; simp [List.getD, hln2]
        rw [hlk] at h1 ⊢
        obtain ⟨ua, uc, rfl⟩ := h1.form
        exact ⟨ua, uc, by rw [hno]; rfl, h1, h3⟩)
      have HEq : Hid (f ≠ who → tt ≠ who → ln2 = ln1) := fun h1 h2 => by
        have := tick_line hp HKo.out hxw (by rw [← HWh.out]; exact h1) (by rw [← HWh.out]; exact h2)
        rw [show (tickK p p.spans (kT p t)).1 = kT p (t + 1) from rfl, hln2, hln1] at this
        exact Option.some.inj this
      have HXl : Hid (ln2.xs.length ≤ 1000000) := by
        show _ ≤ _
        have hlo := HKo2.out.lines r ln2 _ hln2 hxw
        rcases wchk_kind ((wschk_ok (plchk_zero hp).2.2.2.1).2 _ (List.mem_of_getElem? hxw)) with ⟨h1, _⟩ | ⟨h1, h2, h3⟩
        · have := hlo.one h1
          omega
        · have := hlo.deep h1
          omega
      have hrow4 := hrowE.touch (KTouch.of (M := []) hb4) (by simp)
      have hll : r < l.length := by rw [HLl.out]; exact hrl
      have HRd1 : Hid (∃ hg xa xc, vg = some ⟨hg, 0, none⟩ ∧ hg < wr.heap.size ∧ wr.cell? ⟨hg, r * 2, none⟩ = some (.slice xa ln1.xs.length xc) ∧ wr.cell? ⟨hg, r * 2 + 1, none⟩ = some (.int .i64 ln1.ls) ∧ Rd wr (.slice xa ln1.xs.length xc) ln1.xs) := by
        obtain ⟨hg, cap, x, hv, hx, h0, h1⟩ := hrow4.at hll
        obtain ⟨h2, h3⟩ := hrow4.rd r x ln1 hx hln1
        obtain ⟨xa, xc, hxe⟩ := h2.form
        rw [hxe] at h0 h2
        rw [h3] at h1
        injection hv with hv1
        exact ⟨hg, xa, xc, hv1, (wlt h0), h0, h1, h2⟩
      clear hln1 hln2 hxw hblw hrow4
      go_upto_region 44 with (go_at_call 15; refine HWi.out.mono ?_; rintro e w7 ⟨ua, uc, rfl, hrd, b7⟩; clear HWi)
      have hs7 := b7.size
      have bA : Below w7.heap.size w7 (w7.alloc (.cells #[.slice ua ln2.xs.length uc, .int .i64 ln2.ls] 58)) := (Below.refl _ _).alloc (Nat.le_refl _) _
      have bW : Below wr.heap.size wr (w7.alloc (.cells #[.slice ua ln2.xs.length uc, .int .i64 ln2.ls] 58)) := b7.trans (bA.mono hs7)
      have hb8 : Hid (Below wH.heap.size wH (w7.alloc (.cells #[.slice ua ln2.xs.length uc, .int .i64 ln2.ls] 58))) := hb4.trans (bW.mono hb4.size)
      replace d0 := (bW.cell (p := ⟨wb, _, none⟩) hwlt').trans d0
      replace d1 := (bW.cell (p := ⟨wb, _, none⟩) hwlt').trans d1
      replace k3 := (bW.cell (p := ⟨w.heap.size, 3, none⟩) hwl2).trans k3
      by_cases h1 : f = who
      · subst h1
        clear HRd1 hrowE hrd
        go_quiet (fail)
        go_wp2
        go_roundw
        case rel => exact ⟨r + 1, by omega, by go_num, below_dN hb8.out nq⟩
        case measure => simp [intOf]; omega
      have h1' : (f == who) = false := by simpa using h1
      have h1d : decide (f = who) = false := by simpa using h1
      have h1n : (f != who) = true := by simpa using h1
      by_cases h2 : tt = who
      · rw [h2] at d1
        clear HRd1 hrowE hrd h2
        go_quiet (fail)
        go_wp2
        go_roundw
        case rel => exact ⟨r + 1, by omega, by go_num, below_dN hb8.out nq⟩
        case measure => simp [intOf]; omega
      have h2' : (tt == who) = false := by simpa using h2
      have h2d : decide (tt = who) = false := by simpa using h2
      have h2n : (tt != who) = true := by simpa using h2
      obtain rfl := HEq.out h1 h2
      obtain ⟨hg, xa, xc, rfl, hglt, e0, e1, hrd1⟩ := HRd1.out
      have hrl2 : (r : Int) < (l.length : Int) := by omega
      replace e0 := (bW.cell (p := ⟨hg, _, none⟩) hglt).trans e0
      replace e1 := (bW.cell (p := ⟨hg, _, none⟩) hglt).trans e1
      have y0 : (w7.alloc (.cells #[.slice ua ln2.xs.length uc, .int .i64 ln2.ls] 58)).cell? ⟨w7.heap.size, 0, none⟩ = some (.slice ua ln2.xs.length uc) := by simp
      have y1 : (w7.alloc (.cells #[.slice ua ln2.xs.length uc, .int .i64 ln2.ls] 58)).cell? ⟨w7.heap.size, 1, none⟩ = some (.int .i64 ln2.ls) := by simp
      have HRa : Hid (Rd (w7.alloc (.cells #[.slice ua ln2.xs.length uc, .int .i64 ln2.ls] 58)) (.slice ua ln2.xs.length uc) ln2.xs ∧ Rd (w7.alloc (.cells #[.slice ua ln2.xs.length uc, .int .i64 ln2.ls] 58)) (.slice xa ln2.xs.length xc) ln2.xs) := ⟨hrd.block (fun k hk _ => bA.block k hk) bA.size, hrd1.block (fun k hk _ => bW.block k hk) bW.size⟩
      have hwb8 : wb < (w7.alloc (.cells #[.slice ua ln2.xs.length uc, .int .i64 ln2.ls] 58)).heap.size := Nat.lt_of_lt_of_le hwlt' bW.size
      have hhg8 : hg < (w7.alloc (.cells #[.slice ua ln2.xs.length uc, .int .i64 ln2.ls] 58)).heap.size := Nat.lt_of_lt_of_le hglt bW.size
      have hws8 : w.heap.size < (w7.alloc (.cells #[.slice ua ln2.xs.length uc, .int .i64 ln2.ls] 58)).heap.size := Nat.lt_of_lt_of_le hwl2 bW.size
      have hw78 : w7.heap.size < (w7.alloc (.cells #[.slice ua ln2.xs.length uc, .int .i64 ln2.ls] 58)).heap.size := by simp
      clear hrowE hrd hrd1 bA bW HRd1
      generalize (w7.alloc (.cells #[.slice ua ln2.xs.length uc, .int .i64 ln2.ls] 58)) = W8 at *
      have sdr : W8.drew.cell? ⟨w.heap.size, 3, none⟩ = some (.slice (some ⟨wb, wo, none⟩) p.wires.length wc') ∧ W8.drew.cell? ⟨wb, wo + r * 4, none⟩ = some (.int .i64 f) ∧ W8.drew.cell? ⟨wb, wo + r * 4 + 1, none⟩ = some (.int .i64 tt) ∧ W8.drew.cell? ⟨hg, r * 2, none⟩ = some (.slice xa ln2.xs.length xc) ∧ W8.drew.cell? ⟨hg, r * 2 + 1, none⟩ = some (.int .i64 ln2.ls) ∧ W8.drew.cell? ⟨w7.heap.size, 0, none⟩ = some (.slice ua ln2.xs.length uc) ∧ W8.drew.cell? ⟨w7.heap.size, 1, none⟩ = some (.int .i64 ln2.ls) := ⟨k3, d0, d1, e0, e1, y0, y1⟩
      have HHe : Hid (Calls Tryd.prog 16 #[.agg #[.slice ua ln2.xs.length uc, .int .i64 ln2.ls], .agg #[.slice xa ln2.xs.length xc, .int .i64 ln2.ls]] W8.drew fun e w' => e = .returned (.bool true) ∧ Below wH.heap.size wH w' ∧ w'.cell? ⟨w.heap.size, 3, none⟩ = some (.slice (some ⟨wb, wo, none⟩) p.wires.length wc') ∧ w'.cell? ⟨wb, wo + r * 4, none⟩ = some (.int .i64 f) ∧ w'.cell? ⟨wb, wo + r * 4 + 1, none⟩ = some (.int .i64 tt) ∧ w'.cell? ⟨hg, r * 2, none⟩ = some (.slice xa ln2.xs.length xc) ∧ w'.cell? ⟨hg, r * 2 + 1, none⟩ = some (.int .i64 ln2.ls) ∧ w'.cell? ⟨w7.heap.size, 0, none⟩ = some (.slice ua ln2.xs.length uc) ∧ w'.cell? ⟨w7.heap.size, 1, none⟩ = some (.int .i64 ln2.ls)) := by
        have bD : Below W8.heap.size W8 W8.drew := (Below.refl _ _).drew
        refine (wheld_any _ _ ln2.xs ln2.ls W8.drew (HRa.out.1.block (fun k hk _ => bD.block k hk) bD.size) (HRa.out.2.block (fun k hk _ => bD.block k hk) bD.size) HXl.out).mono ?_
        rintro e w' ⟨rfl, hb⟩
        have hb' : Below W8.heap.size W8 w' := bD.trans hb
        exact ⟨rfl, hb8.out.trans (hb'.mono hb8.out.size), (hb'.cell (p := ⟨w.heap.size, 3, none⟩) hws8).trans k3, (hb'.cell (p := ⟨wb, _, none⟩) hwb8).trans d0, (hb'.cell (p := ⟨wb, _, none⟩) hwb8).trans d1, (hb'.cell (p := ⟨hg, _, none⟩) hhg8).trans e0, (hb'.cell (p := ⟨hg, _, none⟩) hhg8).trans e1, (hb'.cell (p := ⟨w7.heap.size, 0, none⟩) hw78).trans y0, (hb'.cell (p := ⟨w7.heap.size, 1, none⟩) hw78).trans y1⟩
      clear HRa
      go_region_held3 (fun w' => w'.cell? ⟨w.heap.size, 3, none⟩ = some (.slice (some ⟨wb, wo, none⟩) p.wires.length wc') ∧ w'.cell? ⟨wb, wo + r * 4, none⟩ = some (.int .i64 f) ∧ w'.cell? ⟨wb, wo + r * 4 + 1, none⟩ = some (.int .i64 tt) ∧ w'.cell? ⟨hg, r * 2, none⟩ = some (.slice xa ln2.xs.length xc) ∧ w'.cell? ⟨hg, r * 2 + 1, none⟩ = some (.int .i64 ln2.ls) ∧ w'.cell? ⟨w7.heap.size, 0, none⟩ = some (.slice ua ln2.xs.length uc) ∧ w'.cell? ⟨w7.heap.size, 1, none⟩ = some (.int .i64 ln2.ls))
        (first | exact sdr | exact hq9 | go_keep)
        (first
          | (go_at_call 16; refine HHe.out.mono ?_; rintro e w9 ⟨rfl, b9, hq9⟩))
      go_wp2_with fail
      go_roundw
      case rel => exact ⟨r + 1, by omega, by go_num, b9⟩
      case measure => simp [intOf]; omega
    have hri : decide ((r : Int) < (p.wires.length : Int)) = false := decide_eq_false (by omega)
    have hrn : decide (r < p.wires.length) = false := decide_eq_false (by omega)
    replace hK2 := C.frame hK2 (KTouch.of (M := []) hb4) (by simp)
    have HKf : Hid (C.K w5 wr p (.slice ca p.code.length cc) (.slice sa p.spans.length sc) (.slice wa p.wires.length wc') (kT p (t + 1)) kb F2) := hK2
    have HBx : Hid (Bx w wr (.slice ca p.code.length cc) p.ticks (.slice sa p.spans.length sc) (.slice wa p.wires.length wc')) := hbx4
    clear hK2 hrowE hbx4 hbx3 hbx
    go_wp2
    go_roundw
    case rel => exact ⟨t + 1, F2, by omega, by go_num, HKf.out, HBx.out⟩
    case measure => simp [intOf]; omega
end Go.Proofs.YteoemcekkcnpladDoor

/-
  frameref2's Care: one tick.
-/
import Derived.Test.YteoemcekkcnplafGreatDoorJf8
import Derived.Test.YteoemcekkcnplafGreatDoorJf1
import Derived.Deep.CutRange
import Derived.Deep.RegionWith
import Derived.BigQuiet
import Derived.RangeFuncNested
namespace Go.Proofs.YteoemcekkcnplafGreatDoor
open Go.RowKit

set_option maxRecDepth 100000 in
set_option maxHeartbeats 8000000 in
theorem rcare_tick (p : PD) (vc vw wv : Value) (sa : Option Addr) (sc : Nat) (what : List Int) (most : Int) (d : CD) (a : KW) (mb tb tc base : Nat) (w : World) (hc : carE p what most = 0) (hd : COk p what most d) (ht : d.k.time < 1000000) (h : RC w base p vc (.slice sa p.spans.length sc) vw wv most d a mb tb tc) (w0 : World) (hw00 : base = w0.heap.size) (hb0 : Below w0.heap.size w0 w) (hP : Pln w0 vc (.slice sa p.spans.length sc) vw p) (hwv : Stp w0 wv what) :
    Calls Tryz.prog 11 #[.pointer (some ⟨mb, 0, none⟩)] w fun e w' => e = .returned (evA (evC p what most d)) ∧ (∃ us, RC w' base p vc (.slice sa p.spans.length sc) vw wv most (tickC p what most d) { a with us := us } mb tb tc ∧ ∀ u ∈ us, ∀ g, u.ownBlock = some g → OldU a g ∨ w.heap.size ≤ g) ∧ KTouch (tb :: a.m) w w' := by
  obtain ⟨hp, hwl, hwr, hm0, hm1⟩ := carE_zero hc
  obtain ⟨wao, wcap, rfl⟩ := hwv.form
  obtain ⟨vca, vcc, rfl⟩ := hP.code.form
  have hfz := fchk_zero (plchk_zero hp).2.2.1
  have hB1 : Below w.heap.size w (w.alloc (.cells #[.int .i64 0, .int .i64 0, .int .i64 0, .int .i64 0] 43)) := (Below.refl _ w).alloc (Nat.le_refl _) _
  have hbox : (w.alloc (.cells #[.int .i64 0, .int .i64 0, .int .i64 0, .int .i64 0] 43)).heap[w.heap.size]? = some (.cells #[.int .i64 0, .int .i64 0, .int .i64 0, .int .i64 0] 43 (0, 0)) := World.alloc_heap_new w _
  generalize hW1 : w.alloc (.cells #[.int .i64 0, .int .i64 0, .int .i64 0, .int .i64 0] 43) = W1 at hB1 hbox
  have hs1 : W1.heap.size = w.heap.size + 1 := by rw [← hW1]; simp
  have D1 := h.all hB1
  have hb01 := hb0.trans (hB1.mono hb0.size)
  have HWho : Hid (∀ W, Below W1.heap.size W1 W → Calls Tryz.prog 26 #[.int .i64 p.ticks, .slice sa p.spans.length sc, .int .i64 d.k.time] W fun e w' => e = .returned (.int .i64 (whoK p d.k)) ∧ Below W.heap.size W w') := fun W hb => refwho_any p.ticks p.spans _ d.k.time W (hP.spans.all (hb01.trans (hb.mono hb01.size))) hfz.1 hfz.2.1 hd.k.time hfz.2.2.1
  have hwho := who_room hp (d.k.time % p.ticks)
  obtain ⟨r, hr⟩ : ∃ r, r = whoK p d.k := ⟨_, rfl⟩
  have hwr2 : -1 ≤ r ∧ (0 ≤ r → r.toNat < p.code.length) := by rw [hr]; exact hwho
  rw [← hr] at HWho
  have HR : Hid (whoK p d.k = r) := hr.symm
  clear hr hwho
  have HQ : Hid (∀ W, Below W1.heap.size W1 W → W.cell? ⟨mb, 0, none⟩ = some (.pointer (some ⟨a.kb, 0, none⟩)) ∧ W.cell? ⟨a.kb, 1, none⟩ = some (.int .i64 p.ticks) ∧ W.cell? ⟨a.kb, 2, none⟩ = some (.slice sa p.spans.length sc) ∧ W.cell? ⟨a.kb, 6, none⟩ = some (.int .i64 d.k.time)) := fun W hb => by
    have D := D1.all hb
    exact ⟨D.c0, D.k.c1, D.k.c2, D.k.c6⟩
  have hq := HQ.out
  have H : Hid (RC w base p (.slice vca p.code.length vcc) (.slice sa p.spans.length sc) vw (.slice wao what.length wcap) most d a mb tb tc) := h
  have HD1 : Hid (RC W1 base p (.slice vca p.code.length vcc) (.slice sa p.spans.length sc) vw (.slice wao what.length wcap) most d a mb tb tc) := D1
  have HBX : Hid (W1.heap[w.heap.size]? = some (.cells #[.int .i64 0, .int .i64 0, .int .i64 0, .int .i64 0] 43 (0, 0))) := hbox
  clear h D1 hbox
  obtain ⟨k', hk'⟩ : ∃ x, (tickK p p.spans (helpC p what most d).k).1 = x := ⟨_, rfl⟩
  obtain ⟨t1, ht1⟩ : ∃ x, (tickK p p.spans (helpC p what most d).k).2.1 = x := ⟨_, rfl⟩
  obtain ⟨t2, ht2⟩ : ∃ x, (tickK p p.spans (helpC p what most d).k).2.2.1 = x := ⟨_, rfl⟩
  obtain ⟨t3, ht3⟩ : ∃ x, (tickK p p.spans (helpC p what most d).k).2.2.2.1 = x := ⟨_, rfl⟩
  obtain ⟨t4, ht4⟩ : ∃ x, (tickK p p.spans (helpC p what most d).k).2.2.2.2 = x := ⟨_, rfl⟩
  have HK : Hid ((tickK p p.spans (helpC p what most d).k).1 = k' ∧ (tickK p p.spans (helpC p what most d).k).2.1 = t1 ∧ (tickK p p.spans (helpC p what most d).k).2.2.1 = t2 ∧ (tickK p p.spans (helpC p what most d).k).2.2.2.1 = t3 ∧ (tickK p p.spans (helpC p what most d).k).2.2.2.2 = t4) := ⟨hk', ht1, ht2, ht3, ht4⟩
  have hgo1 : evA (evC p what most d) = .agg #[.int .i64 t1, .int .i64 t2, .int .i64 t3, .int .i64 t4] := by
    unfold evA evC
    rw [ht1, ht2, ht3, ht4]
  have hgo2 : tickC p what most d = ⟨k', (helpC p what most d).ts⟩ := by
    unfold tickC
    rw [hk']
  rw [hgo1, hgo2]
  clear hgo1 hgo2 hk' ht1 ht2 ht3 ht4
  go_enter Tryz.func11, Tryz.ntmps11
  go_upto_region 1 with fail
  clear hW1
  have bcur : Below W1.heap.size W1 W1.drew := (Below.refl _ _).drew
  go_cut [3] from 5 to 28 (fun s3 wx => s3 = .int .i64 r ∧ Below W1.heap.size W1 wx)
  case first =>
    go_region_held3 (fun W => W.cell? ⟨mb, 0, none⟩ = some (.pointer (some ⟨a.kb, 0, none⟩)) ∧ W.cell? ⟨a.kb, 1, none⟩ = some (.int .i64 p.ticks) ∧ W.cell? ⟨a.kb, 2, none⟩ = some (.slice sa p.spans.length sc) ∧ W.cell? ⟨a.kb, 6, none⟩ = some (.int .i64 d.k.time))
      (first | with_reducible exact hq _ bcur | go_keep)
      (first
        | (go_at_call 26; refine (HWho.out _ bcur).mono ?_; rintro e wN ⟨rfl, bN⟩; replace bcur := bcur.trans (bN.mono bcur.size); clear bN))
    all_goals (go_wp2_with fail; go_meet; exact ⟨rfl, bcur⟩)
  case rest =>
  obtain ⟨rfl, hbc⟩ := hcut
  clear bcur hq HQ HWho
  have hsc := hbc.size
  have D2 := HD1.out.all hbc
  have hx2 : wc.heap[w.heap.size]? = some (.cells #[.int .i64 0, .int .i64 0, .int .i64 0, .int .i64 0] 43 (0, 0)) := (hbc.block w.heap.size (by omega)).trans HBX.out
  have tk2 : KTouch (tb :: a.m) w wc := KTouch.of (hB1.trans (hbc.mono hB1.size))
  generalize wc = W2 at *
  have hbw2 : Below w0.heap.size w0 W2 := hb01.trans (hbc.mono hb01.size)
  clear hbc
  have HRT : Hid (0 ≤ r → ∃ (rn : Nat) (s : St) (t wn : Int) (wb wo : Nat) (c : List O3), r = rn ∧ d.k.rooms[rn]? = some s ∧ d.ts[rn]? = some t ∧ what[rn]? = some wn ∧ p.code[rn]? = some c ∧ stOk s c.length = true ∧ (chk c).2 = 0 ∧ wao = some ⟨wb, wo, none⟩ ∧ wb < w0.heap.size ∧ w0.cell? ⟨wb, wo + rn, none⟩ = some (.int .i64 wn) ∧ caresB what most d rn = (s.f && (decide (0 < wn) && decide (t < most))) ∧ 0 ≤ t ∧ t ≤ most) := fun h0 => by
    obtain ⟨rn, rfl⟩ : ∃ n : Nat, r = n := ⟨r.toNat, by omega⟩
    have hrl : rn < p.code.length := by simpa using hwr2.2 h0
    have hs : d.k.rooms[rn]? = some (d.k.rooms[rn]'(by rw [hd.k.rl]; exact hrl)) := List.getElem?_eq_getElem _
    have ht' : d.ts[rn]? = some (d.ts[rn]'(by rw [hd.tl]; exact hrl)) := List.getElem?_eq_getElem _
    have hcd : p.code[rn]? = some p.code[rn] := List.getElem?_eq_getElem hrl
    obtain ⟨wb, wo, wn, e1, e2, e3⟩ := hwv.at (Below.refl _ _) (show rn < what.length by omega)
    have hlt : wb < w0.heap.size := World.block_lt_of_cell? w0 _ e2
    have hok := hd.ts rn _ ht'
    exact ⟨rn, _, _, wn, wb, wo, _, rfl, hs, ht', e3, hcd, hd.k.rooms rn _ _ hcd hs, codesE_zero (plchk_zero hp).2.2.2.2.2.2.1 _ (List.mem_of_getElem? hcd), e1, hlt, e2, by unfold caresB; simp only [List.getD, hs, ht', e3, Option.getD_some], hok.1, hok.2.1⟩
  have HP : Hid (Pln w0 (.slice vca p.code.length vcc) (.slice sa p.spans.length sc) vw p) := hP
  have hrk : d.k.rooms.length = p.code.length := hd.k.rl
  have htl : d.ts.length = p.code.length := hd.tl
  have hc5 : p.code.length ≤ 5 := (plchk_zero hp).1
  have HD2 : Hid (RC W2 base p (.slice vca p.code.length vcc) (.slice sa p.spans.length sc) vw (.slice wao what.length wcap) most d a mb tb tc) := D2
  have c0 := D2.c0
  have c1 := D2.c1
  have c2 := D2.c2
  have c3 := D2.c3
  have k4 := D2.k.c4
  have hrooms := D2.k.rooms
  have hts := D2.ts
  clear D2
  go_upto_region 2 with fail
  go_cut [67] from 29 to 66 (fun s67 wx => s67 = .bool (decide (0 ≤ r) && caresB what most d r.toNat) ∧ Below W2.heap.size W2 wx)
  case first =>
    by_cases h0 : 0 ≤ r
    · obtain ⟨rn, s, t, wn, wb, wo, c, rfl, hs, ht', hw, hcd, hok, hck, rfl, hwb, hwc, hcb, ht0, ht1⟩ := HRT.out h0
      have hrl : rn < p.code.length := (List.getElem?_eq_some_iff.1 hcd).1
      have hri : (rn : Int) < (d.k.rooms.length : Int) := by omega
      have hwi : (rn : Int) < (what.length : Int) := by omega
      have hti : (rn : Int) < (d.ts.length : Int) := by omega
      have h0' : decide ((0 : Int) ≤ (rn : Int)) = true := decide_eq_true h0
      have s7 := (hrooms rn s hs).f
      have wcl := (hbw2.cell (p := ⟨wb, wo + rn, none⟩) hwb).trans hwc
      have tcl := hts rn t ht'
      have HB : Hid ((decide ((0 : Int) ≤ (rn : Int)) && caresB what most d ((rn : Int)).toNat) = (s.f && (decide (0 < wn) && decide (t < most)))) := by
        show _ = _
        rw [Int.toNat_natCast, hcb, h0', Bool.true_and]
      clear hs ht' hw hcd hok hck hcb HRT hrooms hts hwr2
      cases hf : s.f with
      | false =>
        rw [hf] at s7 HB
        have HX : Hid ((decide ((0 : Int) ≤ (rn : Int)) && caresB what most d ((rn : Int)).toNat) = false) := by
          show _ = _
          rw [HB.out, Bool.false_and]
        clear hf HB
        go_quiet (fail)
        go_wp2_with fail
        go_meet
        case rel => exact ⟨by rw [HX.out], below_dN (Below.refl _ _) _⟩
      | true =>
        rw [hf] at s7 HB
        clear hf
        by_cases h1 : 0 < wn
        · have h1' : decide (0 < wn) = true := decide_eq_true h1
          by_cases h2 : t < most
          · have h2' : decide (t < most) = true := decide_eq_true h2
            have HX : Hid ((decide ((0 : Int) ≤ (rn : Int)) && caresB what most d ((rn : Int)).toNat) = true) := by
              show _ = _
              rw [HB.out, h1', h2']
              rfl
            clear HB
            go_quiet (fail)
            go_wp2_with fail
            go_meet
            case rel => exact ⟨by rw [HX.out], below_dN (Below.refl _ _) _⟩
          · have h2' : decide (t < most) = false := decide_eq_false h2
            have HX : Hid ((decide ((0 : Int) ≤ (rn : Int)) && caresB what most d ((rn : Int)).toNat) = false) := by
              show _ = _
              rw [HB.out, h1', h2']
              rfl
            clear HB
            go_quiet (fail)
            go_wp2_with fail
            go_meet
            case rel => exact ⟨by rw [HX.out], below_dN (Below.refl _ _) _⟩
        · have h1' : decide (0 < wn) = false := decide_eq_false h1
          have HX : Hid ((decide ((0 : Int) ≤ (rn : Int)) && caresB what most d ((rn : Int)).toNat) = false) := by
            show _ = _
            rw [HB.out, h1']
            rfl
          clear HB
          go_quiet (fail)
          go_wp2_with fail
          go_meet
          case rel => exact ⟨by rw [HX.out], below_dN (Below.refl _ _) _⟩
    · have h0' : decide ((0 : Int) ≤ r) = false := decide_eq_false h0
      have HX : Hid ((decide (0 ≤ r) && caresB what most d r.toNat) = false) := by
        show _ = _
        rw [h0', Bool.false_and]
      clear HRT hrooms hts hwr2 h0
      go_quiet (fail)
      go_wp2_with fail
      go_meet
      case rel => exact ⟨by rw [HX.out], below_dN (Below.refl _ _) _⟩
  case rest =>
  clear c0 c1 c2 c3 k4 hrooms hts
  obtain ⟨rfl, hb3⟩ := hcut
  have D3 := HD2.out.all hb3
  have hx3 := (hb3.block w.heap.size (by omega)).trans hx2
  have tk3 : KTouch (tb :: a.m) w wc := tk2.trans (KTouch.of hb3)
  have hbw3 : Below w0.heap.size w0 wc := hbw2.trans (hb3.mono hbw2.size)
  have hs3 : w.heap.size + 1 ≤ wc.heap.size := by have := hb3.size; omega
  clear hx2 tk2 hbw2 hb3 HD2 HD1 HBX hB1 hb01
  generalize wc = W3 at *
  clear hsc hs1
  go_step
  go_cut [4] from 67 to 141 (fun _ wx => RC wx base p (.slice vca p.code.length vcc) (.slice sa p.spans.length sc) vw (.slice wao what.length wcap) most (helpC p what most d) a mb tb tc ∧ KTouch (tb :: a.m) W3 wx)
  case first =>
    cases hB : (decide (0 ≤ r) && caresB what most d r.toNat) with
    | false =>
      have HX : Hid (helpC p what most d = d) := help_no (by
        rw [HR.out]
        rintro ⟨h1, h2⟩
        rw [h2, decide_eq_true h1] at hB
        cases hB)
      have HD3 : Hid (RC W3 base p (.slice vca p.code.length vcc) (.slice sa p.spans.length sc) vw (.slice wao what.length wcap) most d a mb tb tc) := D3
      clear hB D3 HRT
      go_wp2_with fail
      go_meet
      case rel => exact ⟨by rw [HX.out]; exact HD3.out, KTouch.refl _ _⟩
    | true =>
      rw [Bool.and_eq_true, decide_eq_true_eq] at hB
      obtain ⟨h0, hcr⟩ := hB
      obtain ⟨rn, s, t, wn, wb, wo, c, rfl, hs, ht', hw, hcd, hok, hck, rfl, hwb, hwc, hcb, ht0, ht1⟩ := HRT.out h0
      rw [Int.toNat_natCast] at hcr
      have HX : Hid (helpC p what most d = ⟨⟨d.k.rooms.set rn (helpS p what rn s), d.k.lines, d.k.time⟩, d.ts.set rn (t + 1)⟩) := help_yes HR.out hs ht' hcr
      have HHS : Hid (helpS p what rn s = if wn = 1 then stNew else ⟨if s.p + 1 = (c.length : Int) then 0 else s.p + 1, s.c, false⟩) := by
        show _ = _
        unfold helpS
        simp only [List.getD, hw, hcd, Option.getD_some]
      obtain ⟨hsp0, hsp1, _⟩ := stOk_iff.1 hok
      have hcl : c.length ≤ 20 := (chk_zero hck).2.1
      have hrl : rn < p.code.length := (List.getElem?_eq_some_iff.1 hcd).1
      have hri : (rn : Int) < (d.k.rooms.length : Int) := by omega
      have hwi : (rn : Int) < (what.length : Int) := by omega
      have hti : (rn : Int) < (d.ts.length : Int) := by omega
      have c3 := D3.c3
      have tcl := D3.ts rn t ht'
      have tfz := D3.tf rn
      have D4 := D3.tset ht' (t + 1)
      have HSR : Hid (d.k.rooms[rn]? = some s) := hs
      have HCC : Hid (∀ W, Below w0.heap.size w0 W → ∃ cb co u g, vca = some ⟨cb, co, none⟩ ∧ W.cell? ⟨cb, co + rn, none⟩ = some (.slice u c.length g)) := fun W hb => by
        obtain ⟨cb, co, u, n, g, c', e1, hclt, hcy, hcc, rfl, _⟩ := HP.out.code.at hrl
        rw [hcd] at hcy
        obtain rfl := Option.some.inj hcy
        exact ⟨cb, co, u, g, e1, (hb.cell (p := ⟨cb, _, none⟩) hclt).trans hcc⟩
      clear hs ht' hw hcd hok hck hcb HRT hwr2 hcr h0
      go_upto_region 4 with fail
      have hbw4 : Below w0.heap.size w0 (W3.setCell ⟨tb, rn, none⟩ (.int .i64 (t + 1))) := hbw3.setCell (p := ⟨tb, rn, none⟩) (by rw [← hw00]; exact D3.ge.2) _
      have tk4 : KTouch (tb :: a.m) W3 (W3.setCell ⟨tb, rn, none⟩ (.int .i64 (t + 1))) := KTouch.set W3 (by simp) _ _
      clear D3 c3 tcl tfz hbw3 hx3 tk3
      generalize W3.setCell ⟨tb, rn, none⟩ (.int .i64 (t + 1)) = W4 at D4 hbw4 tk4 ⊢
      have HD4 : Hid (RC W4 base p (.slice vca p.code.length vcc) (.slice sa p.spans.length sc) vw (.slice (some ⟨wb, wo, none⟩) what.length wcap) most ⟨d.k, d.ts.set rn (t + 1)⟩ a mb tb tc) := D4
      have c0 := D4.c0
      have c1 := D4.c1
      have k0 := D4.k.c0
      have k4 := D4.k.c4
      simp only at k4
      have hst := D4.k.rooms rn s HSR.out
      have hrf := D4.k.rf
      have wcl := (hbw4.cell (p := ⟨wb, wo + rn, none⟩) hwb).trans hwc
      obtain ⟨cb, co, u, g, e1, hcc⟩ := HCC.out W4 hbw4
      have HNE : Hid (∀ m ∈ [a.rb], m ≠ mb ∧ m ≠ tb) := fun m hm => by
        rw [List.mem_singleton] at hm
        subst hm
        exact ⟨fun e => D4.ap.1 (by rw [← e]; exact mKF.2), fun e => D4.ap.2.1 (by rw [← e]; exact mKF.2)⟩
      clear D4 HCC
      by_cases hw1 : wn = 1
      · rw [hw1] at wcl
        have HY : Hid (helpS p what rn s = stNew) := by
          show _ = _
          rw [HHS.out, if_pos hw1]
        clear hw1 HHS e1 hcc
        have hth : W4.there a.rb (rn * 8) 8 := there_st hst hrf 0
        go_upto_region 5 with fail
        go_wp2_with (refine wpList_store_mid rfl 47 _ _ rfl a.rb (rn * 8) #[.int .i64 0, .int .i64 0, .int .i64 0, .int .i64 0, .int .i64 0, .int .i64 0, .int .i64 0, .bool false] rfl rfl hth (by kernel_rfl) (by simp [Value.oneCell']) ?_)
        go_meet
        case rel =>
          have D5 : RK (setSt W4 a.rb (rn * 8) stNew) base p (.slice vca p.code.length vcc) (.slice sa p.spans.length sc) vw ⟨d.k.rooms.set rn stNew, d.k.lines, d.k.time⟩ a := HD4.out.k.room_set HSR.out stNew
          have ht5 : KTouch [a.rb] W4 (setSt W4 a.rb (rn * 8) stNew) := setSt_touch W4 (by simp) _ _
          rw [HX.out, HY.out]
          exact ⟨HD4.out.kern ht5 HNE.out D5 rfl ⟨HD4.out.ap.1, HD4.out.ap.2.1⟩, tk4.trans (ht5.mono (by simp [KW.m]))⟩
      · have hw1' : (wn == 1) = false := by simpa using hw1
        obtain ⟨n, hn⟩ : ∃ n, n = (if s.p + 1 = (c.length : Int) then 0 else s.p + 1) := ⟨_, rfl⟩
        have HY : Hid (helpS p what rn s = ⟨n, s.c, false⟩) := by
          show _ = _
          rw [HHS.out, if_neg hw1, hn]
        have hci : (rn : Int) < (p.code.length : Int) := by omega
        subst e1
        have p0 := hst.p
        have p7 := hst.f
        have f0 := hrf (rn * 8)
        have f7 := hrf (rn * 8 + 7)
        have hn1 : a.rb ≠ mb := (HNE.out a.rb (by simp)).1
        have hn2 : a.rb ≠ a.kb := Ne.symm HD4.out.k.apart.1
        have HFin : Hid (RC ((W4.setCell ⟨a.rb, rn * 8, none⟩ (.int .i64 n)).setCell ⟨a.rb, rn * 8 + 7, none⟩ (.bool false)) base p (.slice (some ⟨cb, co, none⟩) p.code.length vcc) (.slice sa p.spans.length sc) vw (.slice (some ⟨wb, wo, none⟩) what.length wcap) most (helpC p what most d) a mb tb tc ∧ KTouch (tb :: a.m) W3 ((W4.setCell ⟨a.rb, rn * 8, none⟩ (.int .i64 n)).setCell ⟨a.rb, rn * 8 + 7, none⟩ (.bool false))) := by
          have D5 := HD4.out.k.on HSR.out n
          have ht5 : KTouch [a.rb] W4 ((W4.setCell ⟨a.rb, rn * 8, none⟩ (.int .i64 n)).setCell ⟨a.rb, rn * 8 + 7, none⟩ (.bool false)) := (KTouch.set W4 (by simp) _ _).trans (KTouch.set _ (by simp) _ _)
          show _ ∧ _
          rw [HX.out, HY.out]
          exact ⟨HD4.out.kern ht5 HNE.out D5 rfl ⟨HD4.out.ap.1, HD4.out.ap.2.1⟩, tk4.trans (ht5.mono (by simp [KW.m]))⟩
        clear hst hrf HHS HY hw1 HX tk4
        by_cases hend : s.p + 1 = (c.length : Int)
        · rw [if_pos hend] at hn
          subst hn
          have hend' : (s.p + 1 == (c.length : Int)) = true := by simpa using hend
          clear hend
          go_wp2_with fail
          go_meet
          case rel => exact HFin.out
        · rw [if_neg hend] at hn
          subst hn
          have hend' : (s.p + 1 == (c.length : Int)) = false := by simpa using hend
          clear hend
          go_wp2_with fail
          go_meet
          case rel => exact HFin.out
  case rest =>
  obtain ⟨D5, tk5⟩ := hcut
  generalize wc = W5 at *
  clear D3 HRT hwr2
  have hmlt : w.heap.size ∉ tb :: a.m := fun hm => by
    rcases List.mem_cons.1 hm with h1 | h1
    · have := H.out.lt.2
      omega
    · have := H.out.k.mlt _ h1
      have := H.out.k.le
      omega
  have hx5 : EvB W5 w.heap.size 0 0 0 0 := (tk5.block w.heap.size (by omega) hmlt).trans hx3
  have hb05 : Below w0.heap.size w0 W5 := hbw3.trans (tk5.below (fun b hb => by rw [← hw00]; exact D5.mge b hb) hbw3.size)
  have hs5 : w.heap.size + 1 ≤ W5.heap.size := by have := tk5.size; omega
  have tkA : KTouch (tb :: a.m) w W5 := tk3.trans tk5
  have q := reftick_any p (.slice vca p.code.length vcc) vw sa sc (helpC p what most d).k a base W5 hp (helpC_ok hp hd).k (by rw [help_time]; exact ht) D5.k w0 hw00 hb05 hP
  have c0 := D5.c0
  have HD5 : Hid (RC W5 base p (.slice vca p.code.length vcc) (.slice sa p.spans.length sc) vw (.slice wao what.length wcap) most (helpC p what most d) a mb tb tc) := D5
  obtain ⟨e0, e1, e2, e3, e4⟩ := HK.out
  rw [e0, e1, e2, e3, e4] at q
  clear e0 e1 e2 e3 e4
  clear D5 tk3 tk5 hx3 hbw3 hb05 hs3
  go_step
  go_wp2_with (go_at_call 27; refine q.mono ?_; rintro e w6 ⟨rfl, ⟨us, hr, hu⟩, tk6⟩; clear q; have hev : EvB w6 w.heap.size 0 0 0 0 := (tk6.block w.heap.size (by omega) (fun hm => hmlt (List.mem_cons.2 (Or.inr hm)))).trans hx5; obtain ⟨v0, v1, v2, v3⟩ := hev.cs; obtain ⟨x0, x1, x2, x3⟩ := hev.fs)
  have tkE : KTouch [w.heap.size] w6 ((((w6.setCell ⟨w.heap.size, 0, none⟩ (.int .i64 t1)).setCell ⟨w.heap.size, 1, none⟩ (.int .i64 t2)).setCell ⟨w.heap.size, 2, none⟩ (.int .i64 t3)).setCell ⟨w.heap.size, 3, none⟩ (.int .i64 t4)) := (((KTouch.set w6 (by simp) 0 _).trans (KTouch.set _ (by simp) 1 _)).trans (KTouch.set _ (by simp) 2 _)).trans (KTouch.set _ (by simp) 3 _)
  have hKF := KF.us hu
  have hl0 := H.out.lt
  have hnin : ∀ b, b < w.heap.size → b ∉ KF a → b ∉ KF { a with us := us } := fun b hb hn hm => by
    rcases hKF b hm with h1 | h1
    · exact hn h1
    · omega
  have R6 : RC w6 base p (.slice vca p.code.length vcc) (.slice sa p.spans.length sc) vw (.slice wao what.length wcap) most ⟨k', (helpC p what most d).ts⟩ { a with us := us } mb tb tc := HD5.out.kern tk6 (fun m hm => ⟨fun e => HD5.out.ap.1 (by rw [← e]; exact KF.m m hm), fun e => HD5.out.ap.2.1 (by rw [← e]; exact KF.m m hm)⟩) hr rfl ⟨hnin mb hl0.1 HD5.out.ap.1, hnin tb hl0.2 HD5.out.ap.2.1⟩
  refine bodyPost_ret (v := .agg #[.int .i64 t1, .int .i64 t2, .int .i64 t3, .int .i64 t4]) ?_ rfl ⟨rfl, ⟨us, R6.frame tkE (fun m hm => ?_), fun u h2 g hg => (hu u h2 g hg).imp id (fun h => by omega)⟩, (tkA.trans (tk6.mono (fun m hm => List.mem_cons.2 (Or.inr hm)))).more tkE (by simp)⟩
  · simp [results, Tryz.results11, go_sem, v0, v1, v2, v3]
  · rw [List.mem_singleton] at hm
    subst hm
    refine ⟨by omega, by omega, fun hm => ?_⟩
    rcases hKF _ hm with h1 | h1
    · have := H.out.k.flt _ h1
      omega
    · omega
end Go.Proofs.YteoemcekkcnplafGreatDoor

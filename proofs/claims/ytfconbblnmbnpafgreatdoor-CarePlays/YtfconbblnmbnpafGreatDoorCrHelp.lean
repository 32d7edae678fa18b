/-
  Package care: help.
-/
import Derived.Test.YtfconbblnmbnpafGreatDoorJa9
import Derived.Test.YtfconbblnmbnpafGreatDoorJa10
import Derived.Test.YtfconbblnmbnpafGreatDoorJa3
import Derived.Test.YtfconbblnmbnpafGreatDoorJa2
import Derived.Deep.RegionHeld3
import Derived.Deep.CutRange
import Derived.Deep.RegionWith
import Derived.BigQuiet
import Derived.RangeFuncNested
namespace Go.Proofs.YtfconbblnmbnpafGreatDoor
open Go.RowKit

theorem stb_set {w : World} {b : Nat} {s : St} (h : StB w b s) (s' : St) : StB ((((((((w.setCell ⟨b, 0, none⟩ (.int .i64 s'.p)).setCell ⟨b, 1, none⟩ (.int .i64 (s'.c 0))).setCell ⟨b, 2, none⟩ (.int .i64 (s'.c 1))).setCell ⟨b, 3, none⟩ (.int .i64 (s'.c 2))).setCell ⟨b, 4, none⟩ (.int .i64 (s'.c 3))).setCell ⟨b, 5, none⟩ (.int .i64 (s'.c 4))).setCell ⟨b, 6, none⟩ (.int .i64 (s'.c 5))).setCell ⟨b, 7, none⟩ (.bool s'.f)) b s' := by
  have e : w.heap[b]? = _ := h
  unfold StB
  simp [World.setCell, Array.getElem?_modify, e]
theorem stb_on {w : World} {b : Nat} {s : St} (h : StB w b s) (n : Int) : StB ((w.setCell ⟨b, 7, none⟩ (.bool false)).setCell ⟨b, 0, none⟩ (.int .i64 n)) b ⟨n, s.c, false⟩ := by
  have e : w.heap[b]? = _ := h
  unfold StB
  simp [World.setCell, Array.getElem?_modify, e]
/-- The next op; behind the last is the first. -/
theorem next_op {a n : Int} (h0 : 0 ≤ a) (h1 : a < n) : (a + 1) % n = if a + 1 = n then 0 else a + 1 := by
  split
  · rename_i h
    rw [h, Int.emod_self]
  · exact Int.emod_eq_of_lt (by omega) (by omega)
set_option maxRecDepth 100000 in
set_option maxHeartbeats 8000000 in
theorem crhelp_any (p : PD) (what : List Int) (most : Int) (d : CD) (cb base : Nat) (x : CW) (r : Int) (w : World) (hfm : Forms w) (h : GC w base p what most d cb x) (hc : carE p what most = 0) (hok : COk p what most d) (hr : whoK p d.k = r) :
    Calls Tryz.prog 23 #[.pointer (some ⟨cb, 0, none⟩), .int .i64 r] w fun e w' => (∃ v, e = .returned v) ∧ GC w' base p what most (helpC p what most d) cb x ∧ KTouch (x.F cb) w w' := by
  obtain ⟨hp, hwl, hwr, hm0, hm1⟩ := carE_zero hc
  have hwr2 : -1 ≤ r ∧ (0 ≤ r → r.toNat < p.code.length) := by rw [← hr]; exact who_room hp (d.k.time % p.ticks)
  have H : Hid (GC w base p what most d cb x) := h
  have HS : Hid (Calls Tryz.prog 28 #[.pointer (some ⟨x.kb, 0, none⟩), .int .i64 r] w fun e w' => e = .returned (.tuple #[.agg #[.int .i64 (roomK d.k r).p, .int .i64 ((roomK d.k r).c 0), .int .i64 ((roomK d.k r).c 1), .int .i64 ((roomK d.k r).c 2), .int .i64 ((roomK d.k r).c 3), .int .i64 ((roomK d.k r).c 4), .int .i64 ((roomK d.k r).c 5), .bool (roomK d.k r).f], wErr (errB (noRoom d.k r))]) ∧ Below w.heap.size w w') := gstate_any p d.k x.kb base x.a r w h.k
  have HR : Hid (whoK p d.k = r) := hr
  have hrk : d.k.rooms.length = p.code.length := hok.k.rl
  have htl : d.ts.length = p.code.length := hok.tl
  have HOK : Hid (COk p what most d) := hok
  have HFM : Hid (Forms w) := hfm
  have HP : Hid (plchk p = 0) := hp
  have HF : Hid (∀ g ∈ x.F cb, g < w.heap.size) := h.flt
  have c0 := h.c0
  obtain ⟨sr, hsr⟩ : ∃ s, s = roomK d.k r := ⟨_, rfl⟩
  obtain ⟨er, her⟩ : ∃ e, e = errB (noRoom d.k r) := ⟨_, rfl⟩
  rw [← hsr, ← her] at HS
  have HSR : Hid (sr = roomK d.k r) := hsr
  have HER : Hid (er = errB (noRoom d.k r)) := her
  clear h hr hok hfm hp hc hsr her
  go_enter Tryz.func23, Tryz.ntmps23
  go_upto_region 0 with fail
  go_cut [4, 5] from 6 to 14 (fun s4 s5 wx => ∃ b, s4 = .pointer (some ⟨b, 0, none⟩) ∧ s5 = wErr er ∧ StB wx b sr ∧ w.heap.size ≤ b ∧ Below w.heap.size w wx)
  case first =>
    go_wp2_with (go_at_call 28; refine HS.out.mono ?_; rintro e w1 ⟨rfl, b1⟩)
    go_meet
    case rel =>
      exact ⟨w1.heap.size, rfl, rfl, World.alloc_heap_new _ _, b1.size, b1.alloc b1.size _⟩
  case rest =>
  obtain ⟨b, rfl, rfl, hst, hbg, hb1⟩ := hcut
  clear c0 HS
  generalize wc = W1 at *
  have D1 := H.out.all hb1
  have c0 := D1.c0
  have c1 := D1.c1
  have c2 := D1.c2
  rw [htl] at c1
  obtain ⟨n0, n1, n2, n3, n4, n5, n6, n7⟩ := hst.cs
  simp only [Nat.zero_add] at n1 n2 n3 n4 n5 n6 n7
  by_cases hneg : r < 0
  · have hno : noRoom d.k r = true := by
      unfold noRoom
      rw [decide_eq_true hneg, Bool.true_or]
    have he1 : er = 1 := by rw [HER.out, hno]; rfl
    have HX : Hid (helpC p what most d = d) := help_no (by rw [HR.out]; omega)
    rw [he1, show wErr 1 = .iface 70 (.int .i64 1) from rfl]
    clear hno he1 hneg hwr2
    go_upto_region 1 with fail
    go_quiet (fail)
    go_wp2_with fail
    first | go_end0 | ((try simp only [Exit.inBlock, Exit.then]); refine bodyPost_ret (results_none rfl _ _ _) rfl ?_)
    exact ⟨⟨_, rfl⟩, by rw [HX.out]; exact D1.all (below_dN (Below.refl _ _) _), KTouch.of (below_dN hb1 _)⟩
  · obtain ⟨rn, rfl⟩ : ∃ n : Nat, r = n := ⟨r.toNat, by omega⟩
    have hrl : rn < p.code.length := by simpa using hwr2.2 (by omega)
    have hri : (rn : Int) < (p.code.length : Int) := by omega
    have hno : noRoom d.k (rn : Int) = false := by
      unfold noRoom
      rw [Bool.or_eq_false_iff]
      exact ⟨decide_eq_false (by omega), decide_eq_false (by omega)⟩
    have he0 : er = 0 := by rw [HER.out, hno]; rfl
    rw [he0, show wErr 0 = .nilIface from rfl]
    obtain ⟨s, hs⟩ : ∃ s, d.k.rooms[rn]? = some s := ⟨_, List.getElem?_eq_getElem (by omega)⟩
    obtain ⟨t, ht⟩ : ∃ t, d.ts[rn]? = some t := ⟨_, List.getElem?_eq_getElem (by omega)⟩
    obtain ⟨wn, hw⟩ : ∃ n, what[rn]? = some n := ⟨_, List.getElem?_eq_getElem (by omega)⟩
    obtain ⟨c, hcd⟩ : ∃ c, p.code[rn]? = some c := ⟨_, List.getElem?_eq_getElem hrl⟩
    have hss : sr = s := by
      rw [HSR.out]
      unfold roomK
      rw [hno, if_neg (by decide), Int.toNat_natCast]
      simp [List.getD, hs]
    subst hss
    obtain ⟨q0, q1, q2⟩ := D1.row rn t ht
    have qf := D1.qf (rn * 3 + 2)
    have ew : what.getD rn 0 = wn := by simp [List.getD, hw]
    have ec : p.code.getD rn [] = c := by simp [List.getD, hcd]
    rw [ew] at q0
    rw [ec] at q1
    have hwn := hwr wn (List.mem_of_getElem? hw)
    have hcb : caresB what most d rn = (sr.f && (decide (0 < wn) && decide (t < most))) := by
      unfold caresB
      simp only [List.getD, hs, ht, hw, Option.getD_some]
    have hck : (chk c).2 = 0 := codesE_zero (plchk_zero HP.out).2.2.2.2.2.2.1 _ (List.mem_of_getElem? hcd)
    have hcl : c.length ≤ 20 := (chk_zero hck).2.1
    have hso := HOK.out.k.rooms rn c sr hcd hs
    obtain ⟨hsp0, hsp1, hsc⟩ := stOk_iff.1 hso
    have htb := HOK.out.ts rn t ht
    have hp5 := (plchk_zero HP.out).1
    have HNO : Hid (caresB what most d rn = false → helpC p what most d = d) := fun hcf => help_no (by rw [HR.out, Int.toNat_natCast, hcf]; simp)
    have HYES : Hid (caresB what most d rn = true → helpC p what most d = ⟨⟨d.k.rooms.set rn (helpS p what rn sr), d.k.lines, d.k.time⟩, d.ts.set rn (t + 1)⟩) := fun hct => help_yes HR.out hs ht hct
    have HHS : Hid (helpS p what rn sr = if wn = 1 then stNew else ⟨if sr.p + 1 = (c.length : Int) then 0 else sr.p + 1, sr.c, false⟩) := by
      show _ = _
      unfold helpS
      rw [ew, ec]
    have HTS : Hid (d.ts[rn]? = some t) := ht
    have HCD : Hid (p.code[rn]? = some c) := hcd
    have HWH : Hid (what[rn]? = some wn) := hw
    have HCB : Hid (caresB what most d rn = (sr.f && (decide (0 < wn) && decide (t < most)))) := hcb
    clear hno he0 hs ht hw hcd hcb hck hso hwr hwr2 hneg ew ec
    have hk0 : (sr.f = false ∨ t ≥ most) ∨ (sr.f = true ∧ t < most) := by
      cases sr.f with
      | false => exact Or.inl (Or.inl rfl)
      | true =>
        by_cases h2 : t < most
        · exact Or.inr ⟨rfl, h2⟩
        · exact Or.inl (Or.inr (by omega))
    rcases hk0 with hk1 | ⟨hf, htm⟩
    · have HX : Hid (helpC p what most d = d) := HNO.out (by
        rw [HCB.out]
        rcases hk1 with h1 | h1
        · rw [h1, Bool.false_and]
        · rw [decide_eq_false (show ¬ t < most by omega), Bool.and_false, Bool.and_false])
      have HD1 : Hid (GC W1 base p what most d cb x) := D1
      clear D1
      cases hf : sr.f with
      | false =>
        rw [hf] at n7
        clear hk1 hf
        go_upto_region 1 with fail
        go_quiet (fail)
        go_wp2_with fail
        first | go_end0 | ((try simp only [Exit.inBlock, Exit.then]); refine bodyPost_ret (results_none rfl _ _ _) rfl ?_)
        exact ⟨⟨_, rfl⟩, by rw [HX.out]; exact HD1.out.all (below_dN (Below.refl _ _) _), KTouch.of (below_dN hb1 _)⟩
      | true =>
        rw [hf] at n7
        have h2 : most ≤ t := by
          rcases hk1 with h1 | h1
          · rw [hf] at h1
            cases h1
          · exact h1
        have h2' : decide (most ≤ t) = true := decide_eq_true h2
        clear hk1 hf h2
        go_upto_region 1 with fail
        go_quiet (fail)
        go_wp2_with fail
        first | go_end0 | ((try simp only [Exit.inBlock, Exit.then]); refine bodyPost_ret (results_none rfl _ _ _) rfl ?_)
        exact ⟨⟨_, rfl⟩, by rw [HX.out]; exact HD1.out.all (below_dN (Below.refl _ _) _), KTouch.of (below_dN hb1 _)⟩
    · rw [hf] at n7
      have h2' : decide (most ≤ t) = false := decide_eq_false (by omega)
      have hne : (c.length : Int) ≠ 0 := by omega
      have hne' : ((c.length : Int) == 0) = false := by simpa using hne
      have HFT : Hid (sr.f = true) := hf
      have HST : Hid (StB W1 b sr) := hst
      clear hf D1 hst
      go_upto_region 1 with fail
      go_cut [36] from 15 to 35 (fun s36 wx => s36 = .bool false ∧ Below W1.heap.size W1 wx)
      case first =>
        go_quiet (fail)
        go_wp2_with fail
        go_meet
        case rel => exact ⟨rfl, below_dN (Below.refl _ _) _⟩
      case rest =>
      obtain ⟨rfl, hb2⟩ := hcut
      have hb3 := hb1.trans (hb2.mono hb1.size)
      have hst2 : StB wc b sr := (hb2.block _ (Array.getElem?_eq_some_iff.1 HST.out).1).trans HST.out
      clear c0 c1 c2 n0 n1 n2 n3 n4 n5 n6 n7 q0 q1 q2 qf HST
      generalize wc = W2 at *
      have D2 := H.out.all hb3
      have c0 := D2.c0
      have c1 := D2.c1
      rw [htl] at c1
      obtain ⟨n0, n1, n2, n3, n4, n5, n6, n7⟩ := hst2.cs
      simp only [Nat.zero_add] at n1 n2 n3 n4 n5 n6 n7
      obtain ⟨q0, q1, q2⟩ := D2.row rn t HTS.out
      have ew : what.getD rn 0 = wn := by simp [List.getD, HWH.out]
      rw [ew] at q0
      clear ew
      have ec : p.code.getD rn [] = c := by simp [List.getD, HCD.out]
      rw [ec] at q1
      clear ec
      have y0 := stb_fz hst2 0
      have y1 := stb_fz hst2 1
      have y2 := stb_fz hst2 2
      have y3 := stb_fz hst2 3
      have y4 := stb_fz hst2 4
      have y5 := stb_fz hst2 5
      have y6 := stb_fz hst2 6
      have y7 := stb_fz hst2 7
      have hne1 : b ≠ cb := by have := HF.out cb (by simp [CW.F]); omega
      have hne2 : b ≠ x.qb := by have := HF.out x.qb (by simp [CW.F]); omega
      by_cases hw0 : wn = 0
      · have HX : Hid (helpC p what most d = d) := HNO.out (by
          rw [HCB.out, decide_eq_false (show ¬ 0 < wn by omega), Bool.false_and, Bool.and_false])
        subst hw0
        have HD2 : Hid (GC W2 base p what most d cb x) := D2
        clear D2 hst2
        go_step
        go_wp2_with fail
        first | go_end0 | ((try simp only [Exit.inBlock, Exit.then]); refine bodyPost_ret (results_none rfl _ _ _) rfl ?_)
        exact ⟨⟨_, rfl⟩, by rw [HX.out]; exact HD2.out, KTouch.of hb3⟩
      · have HX : Hid (helpC p what most d = ⟨⟨d.k.rooms.set rn (helpS p what rn sr), d.k.lines, d.k.time⟩, d.ts.set rn (t + 1)⟩) := HYES.out (by
          rw [HCB.out, HFT.out, decide_eq_true (show 0 < wn by omega), decide_eq_true htm]
          rfl)
        have hw0' : (wn == 0) = false := by simpa using hw0
        by_cases hw1 : wn = 1
        · have HY : Hid (helpS p what rn sr = stNew) := by
            show _ = _
            rw [HHS.out, if_pos hw1]
          have HSO : Hid (∀ c', p.code[rn]? = some c' → stOk stNew c'.length = true) := fun c' hc' => by
            rw [HCD.out] at hc'
            obtain rfl := Option.some.inj hc'
            refine stOk_iff.2 ⟨Int.le_refl _, ?_, fun i _ => ⟨Int.le_refl _, by simp [stNew]⟩⟩
            show (0 : Int) < _
            omega
          have HRn : Hid (∀ W, Calls Tryz.prog 34 #[] W fun e w' => e = .returned (.agg #[.int .i64 0, .int .i64 0, .int .i64 0, .int .i64 0, .int .i64 0, .int .i64 0, .int .i64 0, .bool false]) ∧ Below W.heap.size W w') := fun W => new_any W
          subst hw1
          have HST : Hid (StB W2 b sr) := hst2
          clear D2 hst2 q1 hw0 hw0'
          go_step
          go_upto_region 8 with (go_at_call 34; refine (HRn.out _).mono ?_; rintro e w3 ⟨rfl, b3⟩; have hst3 : StB w3 b sr := (b3.block _ (Array.getElem?_eq_some_iff.1 HST.out).1).trans HST.out; obtain ⟨m0, m1, m2, m3, m4, m5, m6, m7⟩ := hst3.cs; simp only [Nat.zero_add] at m1 m2 m3 m4 m5 m6 m7; have z0 := stb_fz hst3 0; have z1 := stb_fz hst3 1; have z2 := stb_fz hst3 2; have z3 := stb_fz hst3 3; have z4 := stb_fz hst3 4; have z5 := stb_fz hst3 5; have z6 := stb_fz hst3 6; have z7 := stb_fz hst3 7)
          have hst4 : StB ((((((((w3.setCell ⟨b, 0, none⟩ (.int .i64 0)).setCell ⟨b, 1, none⟩ (.int .i64 0)).setCell ⟨b, 2, none⟩ (.int .i64 0)).setCell ⟨b, 3, none⟩ (.int .i64 0)).setCell ⟨b, 4, none⟩ (.int .i64 0)).setCell ⟨b, 5, none⟩ (.int .i64 0)).setCell ⟨b, 6, none⟩ (.int .i64 0)).setCell ⟨b, 7, none⟩ (.bool false)) b stNew := stb_set hst3 stNew
          have hb4 : Below w.heap.size w ((((((((w3.setCell ⟨b, 0, none⟩ (.int .i64 0)).setCell ⟨b, 1, none⟩ (.int .i64 0)).setCell ⟨b, 2, none⟩ (.int .i64 0)).setCell ⟨b, 3, none⟩ (.int .i64 0)).setCell ⟨b, 4, none⟩ (.int .i64 0)).setCell ⟨b, 5, none⟩ (.int .i64 0)).setCell ⟨b, 6, none⟩ (.int .i64 0)).setCell ⟨b, 7, none⟩ (.bool false)) := below_st8 (hb3.trans (b3.mono hb3.size)) b hbg _ _ _ _ _ _ _ _
          clear m0 m1 m2 m3 m4 m5 m6 m7 z0 z1 z2 z3 z4 z5 z6 z7 y0 y1 y2 y3 y4 y5 y6 y7 n0 n1 n2 n3 n4 n5 n6 n7 c0 c1 q0 q2 hst3 HRn
          generalize ((((((((w3.setCell ⟨b, 0, none⟩ (.int .i64 0)).setCell ⟨b, 1, none⟩ (.int .i64 0)).setCell ⟨b, 2, none⟩ (.int .i64 0)).setCell ⟨b, 3, none⟩ (.int .i64 0)).setCell ⟨b, 4, none⟩ (.int .i64 0)).setCell ⟨b, 5, none⟩ (.int .i64 0)).setCell ⟨b, 6, none⟩ (.int .i64 0)).setCell ⟨b, 7, none⟩ (.bool false)) = W5 at hst4 hb4 ⊢
          have D5 := H.out.all hb4
          have HD5 : Hid (GC W5 base p what most d cb x) := D5
          have c0 := D5.c0
          have hput : Calls Tryz.prog 39 #[.pointer (some ⟨x.kb, 0, none⟩), .int .i64 rn, stA stNew] W5.drew fun e w' => e = .returned .nilIface ∧ GK w' base p ⟨d.k.rooms.set rn stNew, d.k.lines, d.k.time⟩ x.kb x.a ∧ KTouch [x.a.rb] W5.drew w' := gput_ok p d.k x.kb base x.a rn stNew W5.drew (HFM.out.all hb4.drew) (D5.k.all (Below.refl _ _).drew) HP.out HOK.out.k hrl HSO.out
          unfold stA at hput
          obtain ⟨m0, m1, m2, m3, m4, m5, m6, m7⟩ := hst4.cs
          simp only [Nat.zero_add] at m1 m2 m3 m4 m5 m6 m7
          clear D5
          go_cut [73] from 66 to 72 (fun s73 wx => s73 = .bool true ∧ GK wx base p ⟨d.k.rooms.set rn stNew, d.k.lines, d.k.time⟩ x.kb x.a ∧ KTouch [x.a.rb] W5 wx)
          case first =>
            go_region_with (go_at_call 39; refine hput.mono ?_; rintro e w6 ⟨rfl, hgk, tk6⟩)
            all_goals
              go_wp2_with fail
              go_meet
              case rel => exact ⟨rfl, hgk, (KTouch.of (Below.refl _ _).drew).trans tk6⟩
          case rest =>
          obtain ⟨rfl, hgk, tk6⟩ := hcut
          have D6 : GC wc base p what most ⟨⟨d.k.rooms.set rn stNew, d.k.lines, d.k.time⟩, d.ts⟩ cb x := HD5.out.kern (tk6.mono (by simp [GW.F])) hgk (fun g hg => Or.inl hg)
          have tkw : KTouch (x.F cb) w wc := (KTouch.of hb4).trans (tk6.mono (by simp [CW.F, GW.F]))
          clear m0 m1 m2 m3 m4 m5 m6 m7 c0 hput hgk tk6 hst4
          generalize wc = W7 at *
          have c1 := D6.c1
          simp only at c1
          rw [htl] at c1
          obtain ⟨_, _, q2⟩ := D6.row rn t HTS.out
          have qf := D6.qf (rn * 3 + 2)
          have HD7 : Hid (GC (W7.setCell ⟨x.qb, rn * 3 + 2, none⟩ (.int .i64 (t + 1))) base p what most (helpC p what most d) cb x) := by
            show GC _ _ _ _ _ _ _ _
            rw [HX.out, HY.out]
            exact D6.times HTS.out (t + 1)
          have htl2 : t + 1 ≤ 9223372036854775807 := by omega
          clear D6
          go_step
          go_wp2_with fail
          first | go_end0 | ((try simp only [Exit.inBlock, Exit.then]); refine bodyPost_ret (results_none rfl _ _ _) rfl ?_)
          exact ⟨⟨_, rfl⟩, HD7.out, tkw.trans (KTouch.set W7 (by simp [CW.F]) _ _)⟩
        · have hw2 : wn = 2 := by omega
          subst hw2
          obtain ⟨s2, hs2⟩ : ∃ s2 : St, s2 = ⟨(sr.p + 1) % (c.length : Int), sr.c, false⟩ := ⟨_, rfl⟩
          have HS2 : Hid (s2 = ⟨(sr.p + 1) % (c.length : Int), sr.c, false⟩) := hs2
          have HY : Hid (helpS p what rn sr = s2) := by
            show _ = _
            rw [HHS.out, if_neg (by decide), hs2, next_op hsp0 hsp1]
          have HSO : Hid (∀ c', p.code[rn]? = some c' → stOk s2 c'.length = true) := fun c' hc' => by
            rw [HCD.out] at hc'
            rw [hs2]
            obtain rfl := Option.some.inj hc'
            exact stOk_iff.2 ⟨Int.emod_nonneg _ hne, Int.emod_lt_of_pos _ (by omega), hsc⟩
          have HST : Hid (StB W2 b sr) := hst2
          clear D2 hst2 hw0 hw1 hw0' hs2
          go_step
          go_upto_region 7 with fail
          have hwrap : IntKind.i64.wrap (sr.p + 1) = sr.p + 1 := IntWalk.i64_in _ (by omega)
          have htmod : (sr.p + 1).tmod (c.length : Int) = (sr.p + 1) % (c.length : Int) := Int.tmod_eq_emod_of_nonneg (by omega)
          have hcn : ¬ c = [] := fun e => by rw [e] at hne; exact hne rfl
          refine wp_region_popped (fun W => W.cell? ⟨b, 0, none⟩ = some (.int .i64 sr.p) ∧ W.cell? ⟨cb, 1, none⟩ = some (.slice (some ⟨x.qb, 0, none⟩) p.code.length x.qcap) ∧ W.cell? ⟨x.qb, rn * 3 + 1, none⟩ = some (.int .i64 (c.length : Nat))) (by kernel_rfl) rfl (by decide +kernel) ⟨n0, c1, q1⟩ (fun hHeld => ?_)
          simp only [List.pop_toArray, List.dropLast_cons_cons, List.dropLast_singleton, List.size_toArray, List.length_cons, List.length_nil, Nat.reduceAdd, Array.replicate_succ, Array.replicate_zero, List.push_toArray, List.nil_append, List.cons_append]
          refine wpAnyH_take (i := 0) (v := ?_) rfl (by decide +kernel) (by decide +kernel) (by decide +kernel) (fun _ _ _ h => h) (Or.inl ⟨by rfl, ?_⟩) (by assumption) ?_
          rotate_left
          · intro W hSw
            try dsimp only at hSw
            obtain ⟨hS1, hS2, hS3⟩ := hSw
            go_simp
            try with_reducible rfl
          simp only [Act.put, List.setIfInBounds_toArray, List.set_cons_zero]
          refine wpAnyH_take (i := 1) (v := ?_) rfl (by decide +kernel) (by decide +kernel) (by decide +kernel) (fun _ _ _ h => h) (Or.inl ⟨by rfl, ?_⟩) (by assumption) ?_
          rotate_left
          · intro W hSw
            try dsimp only at hSw
            obtain ⟨hS1, hS2, hS3⟩ := hSw
            go_simp
            try with_reducible rfl
          simp only [Act.put, List.setIfInBounds_toArray, List.set_cons_zero, List.set_cons_succ]
          refine wpAnyH_take (i := 2) (v := .int .i64 (sr.p + 1)) rfl (by decide +kernel) (by decide +kernel) (by decide +kernel) (fun _ _ _ h => h) (Or.inl ⟨by rfl, ?_⟩) (by assumption) ?_
          · intro W hSw
            try dsimp only at hSw
            obtain ⟨hS1, hS2, hS3⟩ := hSw
            go_simp
          simp only [Act.put, List.setIfInBounds_toArray, List.set_cons_zero, List.set_cons_succ]
          refine wpAnyH_take (i := 3) (v := ?_) rfl (by decide +kernel) (by decide +kernel) (by decide +kernel) (fun _ _ _ h => h) (Or.inl ⟨by rfl, ?_⟩) (by assumption) ?_
          rotate_left
          · intro W hSw
            try dsimp only at hSw
            obtain ⟨hS1, hS2, hS3⟩ := hSw
            go_simp
            try with_reducible rfl
          simp only [Act.put, List.setIfInBounds_toArray, List.set_cons_zero, List.set_cons_succ]
          refine wpAnyH_take (i := 4) (v := ?_) rfl (by decide +kernel) (by decide +kernel) (by decide +kernel) (fun _ _ _ h => h) (Or.inl ⟨by rfl, ?_⟩) (by assumption) ?_
          rotate_left
          · intro W hSw
            try dsimp only at hSw
            obtain ⟨hS1, hS2, hS3⟩ := hSw
            go_simp
            try with_reducible rfl
          simp only [Act.put, List.setIfInBounds_toArray, List.set_cons_zero, List.set_cons_succ]
          refine wpAnyH_take (i := 5) (v := ?_) rfl (by decide +kernel) (by decide +kernel) (by decide +kernel) (fun _ _ _ h => h) (Or.inl ⟨by rfl, ?_⟩) (by assumption) ?_
          rotate_left
          · intro W hSw
            try dsimp only at hSw
            obtain ⟨hS1, hS2, hS3⟩ := hSw
            go_simp
            try with_reducible rfl
          simp only [Act.put, List.setIfInBounds_toArray, List.set_cons_zero, List.set_cons_succ]
          refine wpAnyH_take (i := 6) (v := ?_) rfl (by decide +kernel) (by decide +kernel) (by decide +kernel) (fun _ _ _ h => h) (Or.inl ⟨by rfl, ?_⟩) (by assumption) ?_
          rotate_left
          · intro W hSw
            try dsimp only at hSw
            obtain ⟨hS1, hS2, hS3⟩ := hSw
            go_simp
            try with_reducible rfl
          simp only [Act.put, List.setIfInBounds_toArray, List.set_cons_zero, List.set_cons_succ]
          refine wpAnyH_take (i := 7) (v := ?_) rfl (by decide +kernel) (by decide +kernel) (by decide +kernel) (fun _ _ _ h => h) (Or.inl ⟨by rfl, ?_⟩) (by assumption) ?_
          rotate_left
          · intro W hSw
            try dsimp only at hSw
            obtain ⟨hS1, hS2, hS3⟩ := hSw
            go_simp
            try with_reducible rfl
          simp only [Act.put, List.setIfInBounds_toArray, List.set_cons_zero, List.set_cons_succ]
          refine wpAnyH_take (i := 8) (v := ?_) rfl (by decide +kernel) (by decide +kernel) (by decide +kernel) (fun _ _ _ h => h) (Or.inl ⟨by rfl, ?_⟩) (by assumption) ?_
          rotate_left
          · intro W hSw
            try dsimp only at hSw
            obtain ⟨hS1, hS2, hS3⟩ := hSw
            go_simp
            try with_reducible rfl
          simp only [Act.put, List.setIfInBounds_toArray, List.set_cons_zero, List.set_cons_succ]
          refine wpAnyH_take (i := 9) (v := ?_) rfl (by decide +kernel) (by decide +kernel) (by decide +kernel) (fun _ _ _ h => h) (Or.inl ⟨by rfl, ?_⟩) (by assumption) ?_
          rotate_left
          · intro W hSw
            try dsimp only at hSw
            obtain ⟨hS1, hS2, hS3⟩ := hSw
            go_simp
            try with_reducible rfl
          simp only [Act.put, List.setIfInBounds_toArray, List.set_cons_zero, List.set_cons_succ]
          refine wpAnyH_take (i := 10) (v := ?_) rfl (by decide +kernel) (by decide +kernel) (by decide +kernel) (fun _ _ _ h => h) (Or.inl ⟨by rfl, ?_⟩) (by assumption) ?_
          rotate_left
          · intro W hSw
            try dsimp only at hSw
            obtain ⟨hS1, hS2, hS3⟩ := hSw
            go_simp
            try with_reducible rfl
          simp only [Act.put, List.setIfInBounds_toArray, List.set_cons_zero, List.set_cons_succ]
          refine wpAnyH_take (i := 11) (v := .int .i64 ((sr.p + 1) % (c.length : Int))) rfl (by decide +kernel) (by decide +kernel) (by decide +kernel) (fun _ _ _ h => h) (Or.inl ⟨by rfl, ?_⟩) (by assumption) ?_
          · intro W hSw
            try dsimp only at hSw
            obtain ⟨hS1, hS2, hS3⟩ := hSw
            go_simp
          simp only [Act.put, List.setIfInBounds_toArray, List.set_cons_zero, List.set_cons_succ]
          refine wpAnyH_take (i := 12) (v := ?_) rfl (by decide +kernel) (by decide +kernel) (by decide +kernel) (fun _ _ _ h => h) (Or.inl ⟨by rfl, ?_⟩) (by assumption) ?_
          rotate_left
          · intro W hSw
            try dsimp only at hSw
            obtain ⟨hS1, hS2, hS3⟩ := hSw
            go_simp
            try with_reducible rfl
          simp only [Act.put, List.setIfInBounds_toArray, List.set_cons_zero, List.set_cons_succ]
          refine wpAnyH_ready (rs := [13]) (by decide +kernel) (by simp) ?_
          refine AllReadyH.cons (o := _) rfl (fun K hK => ?_) AllReadyH.nil
          go_simp
          have s1 : (W2.drew.setCell ⟨b, 7, none⟩ (.bool false)).cell? ⟨b, 0, none⟩ = some (.int .i64 sr.p) := by rw [setCell_far (by decide)]; exact n0
          have hbS : Below w.heap.size w (W2.drew.setCell ⟨b, 7, none⟩ (.bool false)) := hb3.drew.setCell (p := ⟨b, 7, none⟩) hbg _
          have DS := H.out.all hbS
          have e2 := DS.c1
          rw [htl] at e2
          have s3 := (DS.row rn t HTS.out).2.1
          rw [show p.code.getD rn [] = c by simp [List.getD, HCD.out]] at s3
          refine hK.out _ _ ⟨s1, e2, s3⟩ (fun hHeld => ?_)
          clear hK K DS
          simp only [List.setIfInBounds_toArray, List.set_cons_zero, List.set_cons_succ]
          refine wpAnyH_take (i := 14) (v := ?_) rfl (by decide +kernel) (by decide +kernel) (by decide +kernel) (fun _ _ _ h => h) (Or.inl ⟨by rfl, ?_⟩) (by assumption) ?_
          rotate_left
          · intro W hSw
            try dsimp only at hSw
            obtain ⟨hS1, hS2, hS3⟩ := hSw
            go_simp
            try with_reducible rfl
          simp only [Act.put, List.setIfInBounds_toArray, List.set_cons_zero, List.set_cons_succ]
          refine wpAnyH_done (by decide +kernel) ?_ _
          show Oper.wp _ _ _ _ _ _
          go_simp
          have hst4 : StB (((W2.setCell ⟨b, 7, none⟩ (.bool false)).setCell ⟨b, 0, none⟩ (.int .i64 ((sr.p + 1) % (c.length : Int)))).drew) b s2 := by
            rw [HS2.out]
            exact stb_on (w := W2) HST.out ((sr.p + 1) % (c.length : Int))
          have hb4 : Below w.heap.size w (((W2.setCell ⟨b, 7, none⟩ (.bool false)).setCell ⟨b, 0, none⟩ (.int .i64 ((sr.p + 1) % (c.length : Int)))).drew) := ((hb3.setCell (p := ⟨b, 7, none⟩) hbg _).setCell (p := ⟨b, 0, none⟩) hbg _).drew
          clear s1 e2 s3 hbS hHeld y0 y1 y2 y3 y4 y5 y6 y7 n0 n1 n2 n3 n4 n5 n6 n7 c0 c1 q0 q1 q2
          generalize ((W2.setCell ⟨b, 7, none⟩ (.bool false)).setCell ⟨b, 0, none⟩ (.int .i64 ((sr.p + 1) % (c.length : Int)))).drew = W5 at hst4 hb4 ⊢
          go_upto_region 8 with fail
          have D5 := H.out.all hb4
          have HD5 : Hid (GC W5 base p what most d cb x) := D5
          have c0 := D5.c0
          have hput : Calls Tryz.prog 39 #[.pointer (some ⟨x.kb, 0, none⟩), .int .i64 rn, stA s2] W5.drew fun e w' => e = .returned .nilIface ∧ GK w' base p ⟨d.k.rooms.set rn s2, d.k.lines, d.k.time⟩ x.kb x.a ∧ KTouch [x.a.rb] W5.drew w' := gput_ok p d.k x.kb base x.a rn s2 W5.drew (HFM.out.all hb4.drew) (D5.k.all (Below.refl _ _).drew) HP.out HOK.out.k hrl HSO.out
          unfold stA at hput
          obtain ⟨m0, m1, m2, m3, m4, m5, m6, m7⟩ := hst4.cs
          simp only [Nat.zero_add] at m1 m2 m3 m4 m5 m6 m7
          clear D5
          go_cut [73] from 66 to 72 (fun s73 wx => s73 = .bool true ∧ GK wx base p ⟨d.k.rooms.set rn s2, d.k.lines, d.k.time⟩ x.kb x.a ∧ KTouch [x.a.rb] W5 wx)
          case first =>
            go_region_with (go_at_call 39; refine hput.mono ?_; rintro e w6 ⟨rfl, hgk, tk6⟩)
            all_goals
              go_wp2_with fail
              go_meet
              case rel => exact ⟨rfl, hgk, (KTouch.of (Below.refl _ _).drew).trans tk6⟩
          case rest =>
          obtain ⟨rfl, hgk, tk6⟩ := hcut
          have D6 : GC wc base p what most ⟨⟨d.k.rooms.set rn s2, d.k.lines, d.k.time⟩, d.ts⟩ cb x := HD5.out.kern (tk6.mono (by simp [GW.F])) hgk (fun g hg => Or.inl hg)
          have tkw : KTouch (x.F cb) w wc := (KTouch.of hb4).trans (tk6.mono (by simp [CW.F, GW.F]))
          clear m0 m1 m2 m3 m4 m5 m6 m7 c0 hput hgk tk6 hst4
          generalize wc = W7 at *
          have c1 := D6.c1
          simp only at c1
          rw [htl] at c1
          obtain ⟨_, _, q2⟩ := D6.row rn t HTS.out
          have qf := D6.qf (rn * 3 + 2)
          have HD7 : Hid (GC (W7.setCell ⟨x.qb, rn * 3 + 2, none⟩ (.int .i64 (t + 1))) base p what most (helpC p what most d) cb x) := by
            show GC _ _ _ _ _ _ _ _
            rw [HX.out, HY.out]
            exact D6.times HTS.out (t + 1)
          have htl2 : t + 1 ≤ 9223372036854775807 := by omega
          clear D6
          go_step
          go_wp2_with fail
          first | go_end0 | ((try simp only [Exit.inBlock, Exit.then]); refine bodyPost_ret (results_none rfl _ _ _) rfl ?_)
          exact ⟨⟨_, rfl⟩, HD7.out, tkw.trans (KTouch.set W7 (by simp [CW.F]) _ _)⟩
end Go.Proofs.YtfconbblnmbnpafGreatDoor

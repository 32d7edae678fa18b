/-
  The law AlonePlays: the walk, under what package alone does.
-/
import Derived.Test.YtanndhamnfnjfafDoorAPlays0
import Derived.Test.YtanndhamnfnjfafDoorJb1
import Derived.Deep.CutRange
import Derived.Deep.CutBlock
import Derived.Deep.RegionWith
import Derived.Deep.RegionHeld3
import Derived.BigQuiet
import Derived.RangeFuncNested
namespace Go.Proofs.YtanndhamnfnjfafDoor
open Go.RowKit

set_option maxRecDepth 1000000 in
set_option maxHeartbeats 16000000 in
theorem aplays_of {G : World → Prop} (C : AlnC G) (hE : ∀ (e : Int) (W : World), G W → Calls Tryd.prog 6 #[wErr e, .int .i64 e] W fun r w' => r = .returned (.bool true) ∧ Below W.heap.size W w')
    (hR : ∀ (p : PD) (vc vs vw : Value) (W : World), Pln W vc vs vw p → Calls Tryd.prog 4 #[plV vc p.ticks vs vw] W fun e w' => e = .returned (.int .i64 (plchk p)) ∧ Below W.heap.size W w')
    (p : PD) (vc vs vw vt : Value) (r : Int) (ll : List (List Int)) (w : World) (hG : G w) (hP : Pln w vc vs vw p) (hT : Sts w vt ll) :
    Calls Tryd.prog 3 #[plV vc p.ticks vs vw, .int .i64 r, vt] w fun e w' => e = .returned (.bool true) ∧ Below w.heap.size w w' := by
  obtain ⟨ca, cc, rfl⟩ := hP.code.form
  obtain ⟨sa, sc, rfl⟩ := hP.spans.form
  obtain ⟨wa, wc', rfl⟩ := hP.wires.form
  obtain ⟨ta, tc, rfl⟩ := hT.form
  have hx0 := Bx.first w (.slice ca p.code.length cc) p.ticks (.slice sa p.spans.length sc) (.slice wa p.wires.length wc')
  have HP : Hid (Pln w (.slice ca p.code.length cc) (.slice sa p.spans.length sc) (.slice wa p.wires.length wc') p) := hP
  have HT : Hid (Sts w (.slice ta ll.length tc) ll) := hT
  have HG : Hid (∀ W, Below w.heap.size w W → G W) := fun W hb => C.all w W hG hb
  have HE : Hid (∀ (e : Int) (W : World), Below w.heap.size w W → Calls Tryd.prog 6 #[wErr e, .int .i64 e] W fun r w' => r = .returned (.bool true) ∧ Below W.heap.size W w') := fun e W hb => hE e W (HG.out W hb)
  have q1 := hR p _ _ _ _ (hP.all hx0.below)
  have k0 := hx0.c0
  have k1 := hx0.c1
  have k2 := hx0.c2
  have k3 := hx0.c3
  have HFE : Hid (prgE p r = if plchk p = 0 ∧ (r < 0 ∨ (p.code.length : Int) ≤ r) then 1 else plchk p) := prgE_two p r
  unfold plV at q1 ⊢
  clear hP hT hG hE hR
  obtain ⟨z, hz⟩ : ∃ z, plchk p = z := ⟨_, rfl⟩
  rw [hz] at q1 HFE
  clear hz
  go_enter Tryd.func3, Tryd.ntmps3
  go_upto_region 2 with (go_at_call 4; refine q1.mono ?_; rintro e w1 ⟨rfl, b1⟩; clear q1)
  have hx1 := hx0.step b1
  clear b1 hx0 k0 k1 k2 k3
  have k0 := hx1.c0
  have k1 := hx1.c1
  have k2 := hx1.c2
  have k3 := hx1.c3
  go_cut [35] from 23 to 34 (fun s35 wx => s35 = .bool (decide (z = 0 ∧ (r < 0 ∨ (p.code.length : Int) ≤ r))) ∧ wx = w1)
  case first =>
    by_cases h0 : z = 0
    · have h0' : (z == 0) = true := by simpa using h0
      by_cases h1 : r < 0
      · have h1' : decide (r < 0) = true := decide_eq_true h1
        have HX : Hid (decide (z = 0 ∧ (r < 0 ∨ (p.code.length : Int) ≤ r)) = true) := decide_eq_true ⟨h0, Or.inl h1⟩
        clear h0
        go_wp2_with fail
        go_meet
        case rel => exact ⟨by rw [HX.out], rfl⟩
      have h1' : decide (r < 0) = false := decide_eq_false h1
      by_cases h2 : (p.code.length : Int) ≤ r
      · have h2' : decide ((p.code.length : Int) ≤ r) = true := decide_eq_true h2
        have HX : Hid (decide (z = 0 ∧ (r < 0 ∨ (p.code.length : Int) ≤ r)) = true) := decide_eq_true ⟨h0, Or.inr h2⟩
        clear h0
        go_wp2_with fail
        go_meet
        case rel => exact ⟨by rw [HX.out], rfl⟩
      have h2' : decide ((p.code.length : Int) ≤ r) = false := decide_eq_false h2
      have HX : Hid (decide (z = 0 ∧ (r < 0 ∨ (p.code.length : Int) ≤ r)) = false) := decide_eq_false (fun e => by omega)
      clear h0
      go_wp2_with fail
      go_meet
      case rel => exact ⟨by rw [HX.out], rfl⟩
    · have h0' : (z == 0) = false := by simpa using h0
      have HX : Hid (decide (z = 0 ∧ (r < 0 ∨ (p.code.length : Int) ≤ r)) = false) := decide_eq_false (fun e => h0 e.1)
      clear h0
      go_wp2_with fail
      go_meet
      case rel => exact ⟨by rw [HX.out], rfl⟩
  case rest =>
  obtain ⟨rfl, hwx⟩ := hcut
  rw [hwx]
  clear hwx
  go_step
  go_cut [7] from 35 to 35 (fun s7 wx => s7 = .int .i64 (prgE p r) ∧ wx = w1)
  case first =>
    by_cases h0 : z = 0 ∧ (r < 0 ∨ (p.code.length : Int) ≤ r)
    · have HX : Hid (prgE p r = 1) := by show _ = _; rw [HFE.out, if_pos h0]
      have hd : decide (z = 0 ∧ (r < 0 ∨ (p.code.length : Int) ≤ r)) = true := decide_eq_true h0
      rw [hd]
      clear h0 hd
      go_wp2_with fail
      go_meet
      case rel => exact ⟨by rw [HX.out], rfl⟩
    · have HX : Hid (prgE p r = z) := by show _ = _; rw [HFE.out, if_neg h0]
      have hd : decide (z = 0 ∧ (r < 0 ∨ (p.code.length : Int) ≤ r)) = false := decide_eq_false h0
      rw [hd]
      clear h0 hd
      go_wp2_with fail
      go_meet
      case rel => exact ⟨by rw [HX.out], rfl⟩
  case rest =>
  obtain ⟨rfl, hwx⟩ := hcut
  rw [hwx]
  clear hwx HFE
  by_cases hz : prgE p r = 0
  case neg =>
    have HN : Hid (Calls Tryd.prog 5 #[.agg #[.slice ca p.code.length cc, .int .i64 p.ticks, .slice sa p.spans.length sc, .slice wa p.wires.length wc'], .int .i64 r] w1 fun e w' => ∃ x, e = .returned (.tuple #[.pointer x, .iface 63 (.int .i64 (prgE p r))]) ∧ Below w1.heap.size w1 w') := by
      have := C.no p _ _ _ r w1 (HG.out w1 hx1.below) (HP.out.all hx1.below) hz
      rw [wErr_not hz] at this
      exact this
    have HE2 : Hid (∀ W, Below w.heap.size w W → Calls Tryd.prog 6 #[.iface 63 (.int .i64 (prgE p r)), .int .i64 (prgE p r)] W fun r w' => r = .returned (.bool true) ∧ Below W.heap.size W w') := fun W hb => by
      have := HE.out (prgE p r) W hb
      rw [wErr_not hz] at this
      exact this
    have hzb : (prgE p r != 0) = true := by simpa using hz
    generalize prgE p r = f at HN HE2 hz hzb ⊢
    go_wp2_with (first
      | (go_at_call 5; refine HN.out.mono ?_; rintro e w2 ⟨x, rfl, b2⟩; have hx2 := hx1.step b2; have q2 := HE2.out w2 hx2.below)
      | (go_at_call 6; refine q2.mono ?_; rintro e w3 ⟨rfl, b3⟩; clear q2))
    go_ret
    exact ⟨rfl, (hx2.step b3).below⟩
  obtain ⟨hp0, hr0, hr1⟩ := prgE_zero hz
  have HN : Hid (Calls Tryd.prog 5 #[.agg #[.slice ca p.code.length cc, .int .i64 p.ticks, .slice sa p.spans.length sc, .slice wa p.wires.length wc'], .int .i64 r] w1 fun e w' => ∃ ab F, e = .returned (.tuple #[.pointer (some ⟨ab, 0, none⟩), .nilIface]) ∧ C.A w1 w' (newA p r) ab F) := C.new p _ _ _ r w1 (HG.out w1 hx1.below) (HP.out.all hx1.below) hz
  have HE0 : Hid (∀ W, Below w.heap.size w W → Calls Tryd.prog 6 #[.nilIface, .int .i64 0] W fun r w' => r = .returned (.bool true) ∧ Below W.heap.size W w') := fun W hb => HE.out 0 W hb
  have HE1 : Hid (∀ W, Below w.heap.size w W → Calls Tryd.prog 6 #[.iface 63 (.int .i64 1), .int .i64 1] W fun r w' => r = .returned (.bool true) ∧ Below W.heap.size W w') := fun W hb => HE.out 1 W hb
  have HO : Hid (AOk (newA p r)) := newA_ok hz
  rw [hz]
  clear hz
  obtain ⟨rn, rfl⟩ : ∃ k : Nat, r = k := ⟨r.toNat, by omega⟩
  have hrn : rn < p.code.length := by omega
  obtain ⟨cb, co, ua, un, ug, c, rfl, hclt, hcy, hcd, rfl, hops⟩ := HP.out.code.at hrn
  have HNA : Hid (newA p (rn : Int) = ⟨c, rn, stNew, 0⟩) := by
    show _ = _
    unfold newA
    rw [Int.toNat_natCast, List.getD, hcy]
    rfl
  have HOps : Hid (Ops w (.slice ua c.length ug) c) := hops
  have hcne : c ≠ [] := fun e => by
    have := (chk_zero HO.out.ck).1
    rw [HNA.out, e] at this
    exact this rfl
  have HUL : Hid (∀ g, (Value.slice ua c.length ug).ownBlock = some g → g < w.heap.size) := hops.lt hcne
  clear hops hcy hcne
  go_upto_region 8 with (first
    | (go_at_call 5; refine HN.out.mono ?_; rintro e w2 ⟨ab, F, rfl, hA⟩; have hx2 := hx1.step (C.since hA); have q2 := HE0.out w2 hx2.below)
    | (go_at_call 6; refine q2.mono ?_; rintro e w3 ⟨rfl, b3⟩; clear q2))
  have hx3 := hx2.step b3
  clear k0 k1 k2 k3
  have k0 := hx3.c0
  have hcd3 := (hx3.below.cell (p := ⟨cb, co + rn, none⟩) hclt).trans hcd
  go_upto_region 9 with fail
  have hs1 := hx1.size
  have hs12 := (C.since hA).size
  have hs23 := b3.size
  have hB4 : Below w3.heap.size w3 (w3.alloc (.cells #[.slice ua c.length ug, .int .i64 rn, .int .i64 0, .int .i64 0, .int .i64 0, .int .i64 0, .int .i64 0, .int .i64 0, .int .i64 0, .bool false, .int .i64 0] 41)) := (Below.refl _ _).alloc (Nat.le_refl _) _
  have hAP : AP C w1 (w3.alloc (.cells #[.slice ua c.length ug, .int .i64 rn, .int .i64 0, .int .i64 0, .int .i64 0, .int .i64 0, .int .i64 0, .int .i64 0, .int .i64 0, .bool false, .int .i64 0] 41)) ⟨c, rn, stNew, 0⟩ ab F w3.heap.size (.slice ua c.length ug) := by
    refine ⟨?_, ⟨World.alloc_heap_new _ _, HOps.out.all (hx3.below.trans (hB4.mono hx3.below.size))⟩, fun hm => ?_, by omega, fun g hg => ?_⟩
    · have := C.frame (C.frame hA (KTouch.of (M := []) b3) (by simp)) (KTouch.of (M := []) hB4) (by simp)
      rw [HNA.out] at this
      exact this
    · have := (C.ge hA _ hm).2
      omega
    · have := HUL.out g hg
      omega
  have hx4 := hx3.step hB4
  have HO2 : Hid (AOk ⟨c, rn, stNew, 0⟩) := by
    have := HO.out
    rw [HNA.out] at this
    exact this
  have HG1 : Hid (G w1) := HG.out w1 hx1.below
  generalize hmb : w3.heap.size = mb at hAP ⊢
  generalize w3.alloc (.cells #[.slice ua c.length ug, .int .i64 rn, .int .i64 0, .int .i64 0, .int .i64 0, .int .i64 0, .int .i64 0, .int .i64 0, .int .i64 0, .bool false, .int .i64 0] 41) = w4 at hAP hx4 ⊢
  clear hmb hA hB4 hx1 hx2 hx3 b3 k0 hcd3 hcd HN hs12 hs23 HO HNA
  go_wp2_with fail
  go_loopw [12] (fun s12 wr => ∃ (i : Nat) (x : AD) (F : List Nat), i ≤ 80 ∧ s12 = .int .i64 i ∧ 0 ≤ x.t ∧ x.t ≤ i ∧ AOk x ∧ AP C w1 wr x ab F mb (.slice ua c.length ug) ∧ Bx w wr (.slice (some ⟨cb, co, none⟩) p.code.length cc) p.ticks (.slice sa p.spans.length sc) (.slice wa p.wires.length wc')) (fun s _ => 80 - (intOf s).toNat)
  case atStart => exact ⟨0, _, F, Nat.zero_le _, rfl, Int.le_refl _, Int.le_refl _, HO2.out, hAP, hx4⟩
  case round =>
  clear hAP hx4
  obtain ⟨i, x, F1, hi, rfl, hxt0, hxt, hxo, hAP, hx⟩ := hrel
  by_cases hil : i < ll.length
  case neg =>
    have hil' : decide ((i : Int) < (ll.length : Int)) = false := decide_eq_false (by omega)
    have hiln : decide (i < ll.length) = false := decide_eq_false hil
    go_wp2
    go_ret
    exact ⟨rfl, hx.below⟩
  have hii : (i : Int) < (ll.length : Int) := by omega
  by_cases hi80 : i < 80
  case neg =>
    obtain rfl : i = 80 := by omega
    rw [show ((80 : Nat) : Int) = 80 from rfl] at hii
    go_wp2
    go_ret
    exact ⟨rfl, hx.below⟩
  have hi8 : (i : Int) < 80 := by omega
  rename World => wA
  obtain ⟨tb, tf, la, lc, l, rfl, htlt, _, ht0, hstp⟩ := HT.out.at hil
  have HTB : Hid (tb < w.heap.size) := htlt
  have HTC : Hid (∀ W, Below w.heap.size w W → W.cell? ⟨tb, tf + i, none⟩ = some (.slice la l.length lc)) := fun W hb => (hb.cell (p := ⟨tb, _, none⟩) htlt).trans ht0
  have HSP : Hid (Stp w (.slice la l.length lc) l) := hstp
  clear htlt ht0 hstp
  have hfl := hAP.flt
  have hvb : wA.heap.size ∉ mb :: F1 := fun hm => by have := (hfl _ hm).2; omega
  go_upto_region 13 with fail
  have bAB : Below wA.heap.size wA (wA.alloc (.cells #[.int .i64 0, .int .i64 0] 42)) := (Below.refl _ _).alloc (Nat.le_refl _) _
  have hv0 : V2 (wA.alloc (.cells #[.int .i64 0, .int .i64 0] 42)) wA.heap.size (got2 l 0) := World.alloc_heap_new wA _
  have hwA : w.heap.size + 1 ≤ wA.heap.size := hx.size
  have hw1A : w1.heap.size ≤ wA.heap.size := (C.since hAP.A).size
  replace hAP := hAP.all bAB
  replace hx := hx.step bAB
  clear bAB
  generalize (wA.alloc (.cells #[.int .i64 0, .int .i64 0] 42)) = wB at hv0 hAP hx ⊢
  generalize wA.heap.size = vb at hv0 hvb hwA hw1A ⊢
  clear hfl
  go_wp2
  go_loopw [14] (fun s wr => ∃ j : Nat, j ≤ 2 ∧ s = .int .i64 j ∧ V2 wr vb (got2 l j) ∧ KTouch [vb] wB wr) (fun s _ => 2 - (intOf s).toNat)
  case atStart => exact ⟨0, Nat.zero_le _, rfl, hv0, KTouch.refl _ _⟩
  case round =>
  clear hv0
  obtain ⟨j, hj, rfl, hv, tk⟩ := hrel
  have hbw : Below w.heap.size w wr := hx.below.trans (tk.below (by simp; omega) hx.below.size)
  have hcl := HTC.out wr hbw
  go_upto_region 14 with fail
  go_cut [80] from 70 to 79 (fun s80 wx => s80 = .bool (decide (j < min l.length 2)) ∧ wx = wr)
  case first =>
    by_cases h1 : j < l.length
    · have h1' : (j : Int) < (l.length : Int) := by omega
      by_cases h2 : j < 2
      · have h2' : (j : Int) < 2 := by omega
        have HX : Hid (decide (j < min l.length 2) = true) := decide_eq_true (by omega)
        go_wp2_with fail
        go_meet
        case rel => exact ⟨by rw [HX.out], rfl⟩
      · obtain rfl : j = 2 := by omega
        rw [show ((2 : Nat) : Int) = 2 from rfl] at h1'
        have HX : Hid (decide (2 < min l.length 2) = false) := decide_eq_false (by omega)
        go_wp2_with fail
        go_meet
        case rel => exact ⟨by rw [HX.out], rfl⟩
    · have h1' : decide ((j : Int) < (l.length : Int)) = false := decide_eq_false (by omega)
      have h1n : decide (j < l.length) = false := decide_eq_false h1
      have HX : Hid (decide (j < min l.length 2) = false) := decide_eq_false (by omega)
      go_wp2_with fail
      go_meet
      case rel => exact ⟨by rw [HX.out], rfl⟩
  case rest =>
  obtain ⟨rfl, hwc⟩ := hcut
  rw [hwc]
  clear hwc wc
  by_cases hjm : j < min l.length 2
  case pos =>
    have hjl : j < l.length := by omega
    have hj4 : j < 2 := by omega
    have hji : (j : Int) < (l.length : Int) := by omega
    have hj4i : (j : Int) < 2 := by omega
    have hd : decide (j < min l.length 2) = true := decide_eq_true hjm
    rw [hd]
    obtain ⟨ub, uo, xq, rfl, hxc, hlx⟩ := HSP.out.at hbw hjl
    have HLX : Hid (l[j]? = some xq) := hlx
    have hcv := hv.at hj4
    have hfv := hv.fz j
    have HV : Hid (V2 wr vb (got2 l j)) := hv
    clear hlx hv hd hbw
    go_wp2
    go_roundw
    case rel => exact ⟨j + 1, by omega, by go_num, (HV.out.set hj4 xq).eq (fun q _ => got2_next HLX.out q), tk.trans (KTouch.set _ (by simp) _ _)⟩
    case measure => simp [intOf]; omega
  have hd : decide (j < min l.length 2) = false := decide_eq_false hjm
  rw [hd]
  replace hv := hv.eq (got2_end hjm)
  have hvF : vb ∉ F1 ∧ vb ≠ mb := ⟨fun hm => hvb (by simp [hm]), fun e => hvb (by simp [e])⟩
  replace hAP := hAP.set tk (fun m hm => by rw [List.mem_singleton] at hm; subst hm; exact ⟨hvF.1, hvF.2, hw1A⟩)
  replace hx : Bx w wr (.slice (some ⟨cb, co, none⟩) p.code.length cc) p.ticks (.slice sa p.spans.length sc) (.slice wa p.wires.length wc') := Below.trans hx (tk.below (B := w.heap.size + 1) (by simp; omega) hx.size)
  have hvlt := hv.lt
  have hmlt := hAP.R.lt
  have hflt : ∀ g ∈ F1, g < wr.heap.size := fun g hg => (C.ge hAP.A g hg).2
  clear hd tk hbw hcl hjm hj hvb
  generalize wr = wV at *
  obtain ⟨v0, hv0⟩ : ∃ v, l.getD 0 0 = v := ⟨_, rfl⟩
  obtain ⟨v1, hv1⟩ : ∃ v, l.getD 1 0 = v := ⟨_, rfl⟩
  have hvB : wV.heap[vb]? = some (.cells #[.int .i64 v0, .int .i64 v1] 42 (0, 0)) := by
    rw [← hv0, ← hv1]
    exact hv
  clear hv hv0 hv1
  have kv0 : wV.cell? ⟨vb, 0, none⟩ = some (.int .i64 v0) := by simp [World.cell?, hvB]
  obtain ⟨is, his⟩ : ∃ is, decide (0 < v0) = is := ⟨_, rfl⟩
  go_upto_region 21 with fail
  clear kv0 his
  have hBW : Below wV.heap.size wV (wV.alloc (.cells #[.int .i64 0, .int .i64 0, .int .i64 0, .int .i64 0] 45)) := (Below.refl _ _).alloc (Nat.le_refl _) _
  have hWb : (wV.alloc (.cells #[.int .i64 0, .int .i64 0, .int .i64 0, .int .i64 0] 45)).heap[wV.heap.size]? = some (.cells #[.int .i64 0, .int .i64 0, .int .i64 0, .int .i64 0] 45) := World.alloc_heap_new _ _
  have hsW : (wV.alloc (.cells #[.int .i64 0, .int .i64 0, .int .i64 0, .int .i64 0] 45)).heap.size = wV.heap.size + 1 := by simp
  replace hvB := (hBW.block vb hvlt).trans hvB
  replace hAP := hAP.all hBW
  replace hx := hx.step hBW
  have hwbF : ∀ g ∈ mb :: F1, g < wV.heap.size := fun g hg => by
    rcases List.mem_cons.1 hg with h | h
    · subst h
      have h1 := hAP.R.lt
      have h2 := hmlt
      omega
    · exact hflt g h
  clear hBW
  generalize wV.alloc (.cells #[.int .i64 0, .int .i64 0, .int .i64 0, .int .i64 0] 45) = wW at hWb hsW hvB hAP hx ⊢
  generalize wV.heap.size = wb at hWb hsW hvlt hwbF hmlt hflt ⊢
  have kv1 : wW.cell? ⟨vb, 1, none⟩ = some (.int .i64 v1) := by simp [World.cell?, hvB]
  go_cut [105] from 95 to 104 (fun s105 wx => s105 = .bool (decide (gotNo v1 is)) ∧ wx = wW)
  case first =>
    cases is with
    | true =>
      by_cases h1 : v1 < 0
      · have h1' : decide (v1 < 0) = true := decide_eq_true h1
        have HX : Hid (decide (gotNo v1 true) = true) := decide_eq_true ⟨rfl, Or.inl h1⟩
        go_wp2_with fail
        go_meet
        case rel => exact ⟨by rw [HX.out], rfl⟩
      have h1' : decide (v1 < 0) = false := decide_eq_false h1
      by_cases h2 : 999 < v1
      · have h2' : decide (999 < v1) = true := decide_eq_true h2
        have HX : Hid (decide (gotNo v1 true) = true) := decide_eq_true ⟨rfl, Or.inr h2⟩
        go_wp2_with fail
        go_meet
        case rel => exact ⟨by rw [HX.out], rfl⟩
      have h2' : decide (999 < v1) = false := decide_eq_false h2
      have HX : Hid (decide (gotNo v1 true) = false) := decide_eq_false (fun e => by have := e.2; omega)
      go_wp2_with fail
      go_meet
      case rel => exact ⟨by rw [HX.out], rfl⟩
    | false =>
      have HX : Hid (decide (gotNo v1 false) = false) := decide_eq_false (fun e => by cases e.1)
      go_wp2_with fail
      go_meet
      case rel => exact ⟨by rw [HX.out], rfl⟩
  case rest =>
  obtain ⟨rfl, hwx⟩ := hcut
  rw [hwx]
  clear hwx
  go_step
  have HB1 : Hid (Below w.heap.size w wW) := hx.below
  by_cases hgot : gotNo v1 is
  case pos =>
    have hd : decide (gotNo v1 is) = true := decide_eq_true hgot
    rw [hd]
    have HS : Hid (Calls Tryd.prog 8 #[.pointer (some ⟨ab, 0, none⟩), .int .i64 v1, .bool is] wW fun e w' => e = .returned (.tuple #[.agg #[.int .i64 0, .int .i64 0, .int .i64 0, .int .i64 0], .int .i64 0, .iface 63 (.int .i64 1)]) ∧ Below wW.heap.size wW w') := C.refuse v1 is HG1.out hAP.A hxo hgot
    clear hd
    go_upto_region 25 with (go_at_call 8; refine HS.out.mono ?_; rintro e w6 ⟨rfl, b6⟩)
    have hs6 := b6.size
    have hW6 := (b6.block wb (by omega)).trans hWb
    have hAP6 := hAP.all b6
    have hx6 := hx.step b6
    have hB7 : Below w6.heap.size w6 (w6.alloc (.cells #[.int .i64 0, .int .i64 0, .int .i64 0, .int .i64 0] 45)) := (Below.refl _ _).alloc (Nat.le_refl _) _
    have hG7 : (w6.alloc (.cells #[.int .i64 0, .int .i64 0, .int .i64 0, .int .i64 0] 45)).heap[w6.heap.size]? = some (.cells #[.int .i64 0, .int .i64 0, .int .i64 0, .int .i64 0] 45) := World.alloc_heap_new _ _
    have hs7 : (w6.alloc (.cells #[.int .i64 0, .int .i64 0, .int .i64 0, .int .i64 0] 45)).heap.size = w6.heap.size + 1 := by simp
    have hW7 := (hB7.block wb (by omega)).trans hW6
    have hAP7 := hAP6.all hB7
    have hx7 := hx6.step hB7
    generalize hgb : w6.heap.size = gb at hG7 hs7 ⊢
    generalize w6.alloc (.cells #[.int .i64 0, .int .i64 0, .int .i64 0, .int .i64 0] 45) = w7 at hG7 hs7 hW7 hAP7 hx7 ⊢
    have q7 := HE1.out w7 hx7.below
    have hql := eql_ev 0 0 0 0
    have hge := guardEv
    go_upto_region 26 with (go_at_call 6; refine q7.mono ?_; rintro e w8 ⟨rfl, b8⟩; clear q7; have m0 : w8.cell? ⟨wb, 0, none⟩ = some (.int .i64 0) := (b8.cell (p := ⟨wb, 0, none⟩) (show wb < w7.heap.size by omega)).trans (by simp [World.cell?, hW7]); have m1 : w8.cell? ⟨wb, 1, none⟩ = some (.int .i64 0) := (b8.cell (p := ⟨wb, 1, none⟩) (show wb < w7.heap.size by omega)).trans (by simp [World.cell?, hW7]); have m2 : w8.cell? ⟨wb, 2, none⟩ = some (.int .i64 0) := (b8.cell (p := ⟨wb, 2, none⟩) (show wb < w7.heap.size by omega)).trans (by simp [World.cell?, hW7]); have m3 : w8.cell? ⟨wb, 3, none⟩ = some (.int .i64 0) := (b8.cell (p := ⟨wb, 3, none⟩) (show wb < w7.heap.size by omega)).trans (by simp [World.cell?, hW7]); have n0 : w8.cell? ⟨gb, 0, none⟩ = some (.int .i64 0) := (b8.cell (p := ⟨gb, 0, none⟩) (show gb < w7.heap.size by omega)).trans (by simp [World.cell?, hG7]); have n1 : w8.cell? ⟨gb, 1, none⟩ = some (.int .i64 0) := (b8.cell (p := ⟨gb, 1, none⟩) (show gb < w7.heap.size by omega)).trans (by simp [World.cell?, hG7]); have n2 : w8.cell? ⟨gb, 2, none⟩ = some (.int .i64 0) := (b8.cell (p := ⟨gb, 2, none⟩) (show gb < w7.heap.size by omega)).trans (by simp [World.cell?, hG7]); have n3 : w8.cell? ⟨gb, 3, none⟩ = some (.int .i64 0) := (b8.cell (p := ⟨gb, 3, none⟩) (show gb < w7.heap.size by omega)).trans (by simp [World.cell?, hG7]))
    clear hW7 hG7 hql hge m0 n0 m1 n1 m2 n2 m3 n3
    have hAP8 := hAP7.all b8
    have hx8 := hx7.step b8
    obtain ⟨y, hy⟩ : ∃ y, x = y := ⟨_, rfl⟩
    have HYo : Hid (AOk y ∧ 0 ≤ y.t ∧ y.t ≤ (i : Int) + 1) := ⟨by rw [← hy]; exact hxo, by rw [← hy]; omega, by rw [← hy]; omega⟩
    rw [hy] at hAP8
    clear hy
    obtain ⟨_, _, c2, c3, c4, c5, c6, c7, c8, c9, c10⟩ := alO_cs hAP8.R.blk
    have hm8 : mb < w8.heap.size := hAP8.R.lt
    have hcs : ∀ W, Below w8.heap.size w8 W → W.cell? ⟨mb, 2, none⟩ = some (.int .i64 y.s.p) ∧ W.cell? ⟨mb, 3, none⟩ = some (.int .i64 (y.s.c 0)) ∧ W.cell? ⟨mb, 4, none⟩ = some (.int .i64 (y.s.c 1)) ∧ W.cell? ⟨mb, 5, none⟩ = some (.int .i64 (y.s.c 2)) ∧ W.cell? ⟨mb, 6, none⟩ = some (.int .i64 (y.s.c 3)) ∧ W.cell? ⟨mb, 7, none⟩ = some (.int .i64 (y.s.c 4)) ∧ W.cell? ⟨mb, 8, none⟩ = some (.int .i64 (y.s.c 5)) ∧ W.cell? ⟨mb, 9, none⟩ = some (.bool y.s.f) ∧ W.cell? ⟨mb, 10, none⟩ = some (.int .i64 y.t) := fun W hb => ⟨(hb.cell (p := ⟨mb, 2, none⟩) hm8).trans c2, (hb.cell (p := ⟨mb, 3, none⟩) hm8).trans c3, (hb.cell (p := ⟨mb, 4, none⟩) hm8).trans c4, (hb.cell (p := ⟨mb, 5, none⟩) hm8).trans c5, (hb.cell (p := ⟨mb, 6, none⟩) hm8).trans c6, (hb.cell (p := ⟨mb, 7, none⟩) hm8).trans c7, (hb.cell (p := ⟨mb, 8, none⟩) hm8).trans c8, (hb.cell (p := ⟨mb, 9, none⟩) hm8).trans c9, (hb.cell (p := ⟨mb, 10, none⟩) hm8).trans c10⟩
    have HSA : Hid (∀ W, Below w8.heap.size w8 W → Calls Tryd.prog 9 #[.pointer (some ⟨ab, 0, none⟩)] W fun e w' => e = .returned (.agg #[.int .i64 y.s.p, .int .i64 (y.s.c 0), .int .i64 (y.s.c 1), .int .i64 (y.s.c 2), .int .i64 (y.s.c 3), .int .i64 (y.s.c 4), .int .i64 (y.s.c 5), .bool y.s.f]) ∧ Below W.heap.size W w') := fun W hb => C.state (hAP8.all hb).A
    have HTA : Hid (∀ W, Below w8.heap.size w8 W → Calls Tryd.prog 10 #[.pointer (some ⟨ab, 0, none⟩)] W fun e w' => e = .returned (.int .i64 y.t) ∧ Below W.heap.size W w') := fun W hb => (C.turns (hAP8.all hb).A).mono (by
      rintro e w' ⟨rfl, k, rfl⟩
      exact ⟨rfl, below_dN (Below.refl _ _) _⟩)
    have HAP : Hid (AP C w1 w8 y ab F1 mb (.slice ua c.length ug)) := hAP8
    have k8 := hcs w8 (Below.refl _ _)
    have hnq := neq_st y.s.p (y.s.c 0) (y.s.c 1) (y.s.c 2) (y.s.c 3) (y.s.c 4) (y.s.c 5) y.s.f
    have hgd := guardSt
    clear hAP8 hAP7 hAP6 hAP c2 c3 c4 c5 c6 c7 c8 c9 c10
    go_cut [155] from 60 to 154 (fun s155 wx => s155 = .bool false ∧ Below w8.heap.size w8 wx)
    case first =>
      have bcur : Below w8.heap.size w8 w8.drew := (Below.refl _ _).drew
      go_region_held3 (fun W => W.cell? ⟨mb, 2, none⟩ = some (.int .i64 y.s.p) ∧ W.cell? ⟨mb, 3, none⟩ = some (.int .i64 (y.s.c 0)) ∧ W.cell? ⟨mb, 4, none⟩ = some (.int .i64 (y.s.c 1)) ∧ W.cell? ⟨mb, 5, none⟩ = some (.int .i64 (y.s.c 2)) ∧ W.cell? ⟨mb, 6, none⟩ = some (.int .i64 (y.s.c 3)) ∧ W.cell? ⟨mb, 7, none⟩ = some (.int .i64 (y.s.c 4)) ∧ W.cell? ⟨mb, 8, none⟩ = some (.int .i64 (y.s.c 5)) ∧ W.cell? ⟨mb, 9, none⟩ = some (.bool y.s.f) ∧ W.cell? ⟨mb, 10, none⟩ = some (.int .i64 y.t))
        (first | with_reducible exact k8 | with_reducible exact hcs _ bcur | go_keep)
        (first
          | (go_at_call 9; refine (HSA.out _ bcur).mono ?_; rintro e wN ⟨rfl, bN⟩; replace bcur := bcur.trans (bN.mono bcur.size); clear bN)
          | (go_at_call 10; refine (HTA.out _ bcur).mono ?_; rintro e wN ⟨rfl, bN⟩; replace bcur := bcur.trans (bN.mono bcur.size); clear bN))
      all_goals (go_wp2_with fail; go_meet; exact ⟨rfl, bcur⟩)
    case rest =>
    obtain ⟨rfl, hbc⟩ := hcut
    go_wp2
    go_roundw
    case rel => exact ⟨i + 1, y, F1, by omega, by go_num, HYo.out.2.1, by have := HYo.out.2.2; omega, HYo.out.1, HAP.out.all hbc, hx8.step hbc⟩
    case measure => simp [intOf]; omega
  have hd : decide (gotNo v1 is) = false := decide_eq_false hgot
  rw [hd]
  obtain ⟨⟨e1, e2, e3, e4⟩, he⟩ : ∃ e, evOf x is = e := ⟨_, rfl⟩
  obtain ⟨sn, hsn⟩ : ∃ n, sentA x = n := ⟨_, rfl⟩
  have HS : Hid (Calls Tryd.prog 7 #[.pointer (some ⟨mb, 0, none⟩), .int .i64 v1, .bool is] wW fun e w2 => e = .returned (.tuple #[.agg #[.int .i64 e1, .int .i64 e2, .int .i64 e3, .int .i64 e4], .int .i64 sn]) ∧ KTouch [mb] wW w2 ∧ ∀ M w3, KTouch M w2 w3 → (∀ m ∈ M, m ∉ F1 ∧ m ≠ mb ∧ w1.heap.size ≤ m) → Calls Tryd.prog 8 #[.pointer (some ⟨ab, 0, none⟩), .int .i64 v1, .bool is] w3 fun e w' => e = .returned (.tuple #[.agg #[.int .i64 e1, .int .i64 e2, .int .i64 e3, .int .i64 e4], .int .i64 sn, .nilIface]) ∧ KTouch F1 w3 w' ∧ ∃ F', AP C w1 w' (stepA x v1 is) ab F' mb (.slice ua c.length ug) ∧ ∀ g ∈ F', g ∈ F1 ∨ w3.heap.size ≤ g) := by
    have := ap_step HG1.out hAP hxo ⟨hxt0, by omega⟩ v1 is hgot
    rw [he, hsn] at this
    exact this
  clear hd he hsn
  have hmb1 := hAP.ge
  have hwm : wb ≠ mb := by omega
  go_upto_region 24 with (go_at_call 7; refine HS.out.mono ?_; rintro e w4x ⟨rfl, tk4, hn4⟩; have hW4 : w4x.heap[wb]? = some (.cells #[.int .i64 0, .int .i64 0, .int .i64 0, .int .i64 0] 45) := (tk4.block wb (by omega) (by simpa using hwm)).trans hWb; have z0 : w4x.cell? ⟨wb, 0, none⟩ = some (.int .i64 0) := (by simp [World.cell?, hW4]); have y0 : w4x.frozen? ⟨wb, 0, none⟩ = false := (by simp [World.frozen?, hW4]); have z1 : w4x.cell? ⟨wb, 1, none⟩ = some (.int .i64 0) := (by simp [World.cell?, hW4]); have y1 : w4x.frozen? ⟨wb, 1, none⟩ = false := (by simp [World.frozen?, hW4]); have z2 : w4x.cell? ⟨wb, 2, none⟩ = some (.int .i64 0) := (by simp [World.cell?, hW4]); have y2 : w4x.frozen? ⟨wb, 2, none⟩ = false := (by simp [World.frozen?, hW4]); have z3 : w4x.cell? ⟨wb, 3, none⟩ = some (.int .i64 0) := (by simp [World.cell?, hW4]); have y3 : w4x.frozen? ⟨wb, 3, none⟩ = false := (by simp [World.frozen?, hW4]))
  have tk5 : KTouch [wb] w4x ((((w4x.setCell ⟨wb, 0, none⟩ (.int .i64 e1)).setCell ⟨wb, 1, none⟩ (.int .i64 e2)).setCell ⟨wb, 2, none⟩ (.int .i64 e3)).setCell ⟨wb, 3, none⟩ (.int .i64 e4)) := (((KTouch.set w4x (by simp) 0 _).trans (KTouch.set _ (by simp) 1 _)).trans (KTouch.set _ (by simp) 2 _)).trans (KTouch.set _ (by simp) 3 _)
  have hW5 : ((((w4x.setCell ⟨wb, 0, none⟩ (.int .i64 e1)).setCell ⟨wb, 1, none⟩ (.int .i64 e2)).setCell ⟨wb, 2, none⟩ (.int .i64 e3)).setCell ⟨wb, 3, none⟩ (.int .i64 e4)).heap[wb]? = some (.cells #[.int .i64 e1, .int .i64 e2, .int .i64 e3, .int .i64 e4] 45) := by simp [World.setCell, Array.getElem?_modify, hW4]
  generalize (((w4x.setCell ⟨wb, 0, none⟩ (.int .i64 e1)).setCell ⟨wb, 1, none⟩ (.int .i64 e2)).setCell ⟨wb, 2, none⟩ (.int .i64 e3)).setCell ⟨wb, 3, none⟩ (.int .i64 e4) = w5 at tk5 hW5 ⊢
  clear hW4 z0 y0 z1 y1 z2 y2 z3 y3
  have hs4 := tk4.size
  have hs5 := tk5.size
  have hvm : vb ≠ mb ∧ vb ≠ wb := ⟨hvF.2, by omega⟩
  have kv5 : w5.cell? ⟨vb, 1, none⟩ = some (.int .i64 v1) := (World.cell?_of_block (w := wW) (a := ⟨vb, 1, none⟩) ((tk5.block vb (by omega) (by simpa using hvm.2)).trans (tk4.block vb (by omega) (by simpa using hvm.1)))).trans kv1
  have HS5 := hn4 [wb] w5 tk5 (fun m hm => by rw [List.mem_singleton] at hm; subst hm; exact ⟨fun h => by have := hflt _ h; omega, hwm, by omega⟩)
  have hx5 : Bx w w5 (.slice (some ⟨cb, co, none⟩) p.code.length cc) p.ticks (.slice sa p.spans.length sc) (.slice wa p.wires.length wc') := Below.trans (Below.trans hx (tk4.below (by simp; omega) hx.size)) (tk5.below (by simp; omega) (by have := hx.size; omega))
  clear hn4 HS
  go_upto_region 25 with (go_at_call 8; refine HS5.mono ?_; rintro e w6 ⟨rfl, tk6, F2, hAP6, hF2⟩; clear HS5)
  have hs6 := tk6.size
  have hW6 := (tk6.block wb (by omega) (fun hm => by have := hflt _ hm; omega)).trans hW5
  have hx6 : Bx w w6 (.slice (some ⟨cb, co, none⟩) p.code.length cc) p.ticks (.slice sa p.spans.length sc) (.slice wa p.wires.length wc') := Below.trans hx5 (tk6.below (fun m hm => by have := (C.ge hAP.A m hm).1; omega) hx5.size)
  have hB7 : Below w6.heap.size w6 (w6.alloc (.cells #[.int .i64 e1, .int .i64 e2, .int .i64 e3, .int .i64 e4] 45)) := (Below.refl _ _).alloc (Nat.le_refl _) _
  have hG7 : (w6.alloc (.cells #[.int .i64 e1, .int .i64 e2, .int .i64 e3, .int .i64 e4] 45)).heap[w6.heap.size]? = some (.cells #[.int .i64 e1, .int .i64 e2, .int .i64 e3, .int .i64 e4] 45) := World.alloc_heap_new _ _
  have hs7 : (w6.alloc (.cells #[.int .i64 e1, .int .i64 e2, .int .i64 e3, .int .i64 e4] 45)).heap.size = w6.heap.size + 1 := by simp
  have hW7 := (hB7.block wb (by omega)).trans hW6
  have hAP7 := hAP6.all hB7
  have hx7 := hx6.step hB7
  generalize hgb : w6.heap.size = gb at hG7 hs7 ⊢
  generalize w6.alloc (.cells #[.int .i64 e1, .int .i64 e2, .int .i64 e3, .int .i64 e4] 45) = w7 at hG7 hs7 hW7 hAP7 hx7 ⊢
  have q7 := HE0.out w7 hx7.below
  have hql := eql_ev e1 e2 e3 e4
  have hge := guardEv
  go_upto_region 26 with (go_at_call 6; refine q7.mono ?_; rintro e w8 ⟨rfl, b8⟩; clear q7; have m0 : w8.cell? ⟨wb, 0, none⟩ = some (.int .i64 e1) := (b8.cell (p := ⟨wb, 0, none⟩) (show wb < w7.heap.size by omega)).trans (by simp [World.cell?, hW7]); have m1 : w8.cell? ⟨wb, 1, none⟩ = some (.int .i64 e2) := (b8.cell (p := ⟨wb, 1, none⟩) (show wb < w7.heap.size by omega)).trans (by simp [World.cell?, hW7]); have m2 : w8.cell? ⟨wb, 2, none⟩ = some (.int .i64 e3) := (b8.cell (p := ⟨wb, 2, none⟩) (show wb < w7.heap.size by omega)).trans (by simp [World.cell?, hW7]); have m3 : w8.cell? ⟨wb, 3, none⟩ = some (.int .i64 e4) := (b8.cell (p := ⟨wb, 3, none⟩) (show wb < w7.heap.size by omega)).trans (by simp [World.cell?, hW7]); have n0 : w8.cell? ⟨gb, 0, none⟩ = some (.int .i64 e1) := (b8.cell (p := ⟨gb, 0, none⟩) (show gb < w7.heap.size by omega)).trans (by simp [World.cell?, hG7]); have n1 : w8.cell? ⟨gb, 1, none⟩ = some (.int .i64 e2) := (b8.cell (p := ⟨gb, 1, none⟩) (show gb < w7.heap.size by omega)).trans (by simp [World.cell?, hG7]); have n2 : w8.cell? ⟨gb, 2, none⟩ = some (.int .i64 e3) := (b8.cell (p := ⟨gb, 2, none⟩) (show gb < w7.heap.size by omega)).trans (by simp [World.cell?, hG7]); have n3 : w8.cell? ⟨gb, 3, none⟩ = some (.int .i64 e4) := (b8.cell (p := ⟨gb, 3, none⟩) (show gb < w7.heap.size by omega)).trans (by simp [World.cell?, hG7]))
  clear hW7 hG7 hql hge m0 n0 m1 n1 m2 n2 m3 n3
  have hAP8 := hAP7.all b8
  have hx8 := hx7.step b8
  obtain ⟨y, hy⟩ : ∃ y, (stepA x v1 is) = y := ⟨_, rfl⟩
  have HYo : Hid (AOk y ∧ 0 ≤ y.t ∧ y.t ≤ (i : Int) + 1) := ⟨by rw [← hy]; exact stepA_ok hxo hgot, by rw [← hy]; show 0 ≤ x.t + 1; omega, by rw [← hy]; show x.t + 1 ≤ _; omega⟩
  rw [hy] at hAP8
  clear hy
  obtain ⟨_, _, c2, c3, c4, c5, c6, c7, c8, c9, c10⟩ := alO_cs hAP8.R.blk
  have hm8 : mb < w8.heap.size := hAP8.R.lt
  have hcs : ∀ W, Below w8.heap.size w8 W → W.cell? ⟨mb, 2, none⟩ = some (.int .i64 y.s.p) ∧ W.cell? ⟨mb, 3, none⟩ = some (.int .i64 (y.s.c 0)) ∧ W.cell? ⟨mb, 4, none⟩ = some (.int .i64 (y.s.c 1)) ∧ W.cell? ⟨mb, 5, none⟩ = some (.int .i64 (y.s.c 2)) ∧ W.cell? ⟨mb, 6, none⟩ = some (.int .i64 (y.s.c 3)) ∧ W.cell? ⟨mb, 7, none⟩ = some (.int .i64 (y.s.c 4)) ∧ W.cell? ⟨mb, 8, none⟩ = some (.int .i64 (y.s.c 5)) ∧ W.cell? ⟨mb, 9, none⟩ = some (.bool y.s.f) ∧ W.cell? ⟨mb, 10, none⟩ = some (.int .i64 y.t) := fun W hb => ⟨(hb.cell (p := ⟨mb, 2, none⟩) hm8).trans c2, (hb.cell (p := ⟨mb, 3, none⟩) hm8).trans c3, (hb.cell (p := ⟨mb, 4, none⟩) hm8).trans c4, (hb.cell (p := ⟨mb, 5, none⟩) hm8).trans c5, (hb.cell (p := ⟨mb, 6, none⟩) hm8).trans c6, (hb.cell (p := ⟨mb, 7, none⟩) hm8).trans c7, (hb.cell (p := ⟨mb, 8, none⟩) hm8).trans c8, (hb.cell (p := ⟨mb, 9, none⟩) hm8).trans c9, (hb.cell (p := ⟨mb, 10, none⟩) hm8).trans c10⟩
  have HSA : Hid (∀ W, Below w8.heap.size w8 W → Calls Tryd.prog 9 #[.pointer (some ⟨ab, 0, none⟩)] W fun e w' => e = .returned (.agg #[.int .i64 y.s.p, .int .i64 (y.s.c 0), .int .i64 (y.s.c 1), .int .i64 (y.s.c 2), .int .i64 (y.s.c 3), .int .i64 (y.s.c 4), .int .i64 (y.s.c 5), .bool y.s.f]) ∧ Below W.heap.size W w') := fun W hb => C.state (hAP8.all hb).A
  have HTA : Hid (∀ W, Below w8.heap.size w8 W → Calls Tryd.prog 10 #[.pointer (some ⟨ab, 0, none⟩)] W fun e w' => e = .returned (.int .i64 y.t) ∧ Below W.heap.size W w') := fun W hb => (C.turns (hAP8.all hb).A).mono (by
    rintro e w' ⟨rfl, k, rfl⟩
    exact ⟨rfl, below_dN (Below.refl _ _) _⟩)
  have HAP : Hid (AP C w1 w8 y ab F2 mb (.slice ua c.length ug)) := hAP8
  have k8 := hcs w8 (Below.refl _ _)
  have hnq := neq_st y.s.p (y.s.c 0) (y.s.c 1) (y.s.c 2) (y.s.c 3) (y.s.c 4) (y.s.c 5) y.s.f
  have hgd := guardSt
  clear hAP8 hAP7 hAP6 hAP c2 c3 c4 c5 c6 c7 c8 c9 c10
  go_cut [155] from 60 to 154 (fun s155 wx => s155 = .bool false ∧ Below w8.heap.size w8 wx)
  case first =>
    have bcur : Below w8.heap.size w8 w8.drew := (Below.refl _ _).drew
    go_region_held3 (fun W => W.cell? ⟨mb, 2, none⟩ = some (.int .i64 y.s.p) ∧ W.cell? ⟨mb, 3, none⟩ = some (.int .i64 (y.s.c 0)) ∧ W.cell? ⟨mb, 4, none⟩ = some (.int .i64 (y.s.c 1)) ∧ W.cell? ⟨mb, 5, none⟩ = some (.int .i64 (y.s.c 2)) ∧ W.cell? ⟨mb, 6, none⟩ = some (.int .i64 (y.s.c 3)) ∧ W.cell? ⟨mb, 7, none⟩ = some (.int .i64 (y.s.c 4)) ∧ W.cell? ⟨mb, 8, none⟩ = some (.int .i64 (y.s.c 5)) ∧ W.cell? ⟨mb, 9, none⟩ = some (.bool y.s.f) ∧ W.cell? ⟨mb, 10, none⟩ = some (.int .i64 y.t))
      (first | with_reducible exact k8 | with_reducible exact hcs _ bcur | go_keep)
      (first
        | (go_at_call 9; refine (HSA.out _ bcur).mono ?_; rintro e wN ⟨rfl, bN⟩; replace bcur := bcur.trans (bN.mono bcur.size); clear bN)
        | (go_at_call 10; refine (HTA.out _ bcur).mono ?_; rintro e wN ⟨rfl, bN⟩; replace bcur := bcur.trans (bN.mono bcur.size); clear bN))
    all_goals (go_wp2_with fail; go_meet; exact ⟨rfl, bcur⟩)
  case rest =>
  obtain ⟨rfl, hbc⟩ := hcut
  go_wp2
  go_roundw
  case rel => exact ⟨i + 1, y, F2, by omega, by go_num, HYo.out.2.1, by have := HYo.out.2.2; omega, HYo.out.1, HAP.out.all hbc, hx8.step hbc⟩
  case measure => simp [intOf]; omega
end Go.Proofs.YtanndhamnfnjfafDoor

/-
  StsSame, STells: joined into one text.
-/
import Derived.Test.YtfconbblnmbnpadGreatDoorJa14
import Derived.Test.YtfconbblnmbnpadGreatDoorJa8
import Derived.Deep.CutRange
import Derived.Deep.CutBlock
import Derived.Deep.RegionWith
import Derived.Deep.RegionHeld3
import Derived.BigQuiet
import Derived.RangeFuncNested
namespace Go.Proofs.YtfconbblnmbnpadGreatDoor
open Go.RowKit

set_option maxRecDepth 1000000 in
set_option maxHeartbeats 4000000 in
theorem sts_some (l : List St) (a ao ac b bo bc : Nat) (w : World) (ha : a < w.heap.size) (hb : b < w.heap.size) (hl : l.length ≤ 1000000)
    (hca : ∀ (i : Nat) s, l[i]? = some s → StC w a (ao + i * 8) s) (hcb : ∀ (i : Nat) s, l[i]? = some s → StC w b (bo + i * 8) s) :
    Calls Tryz.prog 19 #[.slice (some ⟨a, ao, none⟩) l.length ac, .slice (some ⟨b, bo, none⟩) l.length bc] w fun e w' => e = .returned (.bool true) ∧ Below w.heap.size w w' := by
  go_enter Tryz.func19, Tryz.ntmps19
  go_wp2
  go_loopw [5] (fun i wr => ∃ k : Nat, k ≤ l.length ∧ i = .int .i64 k ∧ Below w.heap.size w wr) (fun i _ => l.length - (intOf i).toNat)
  case atStart => exact ⟨0, Nat.zero_le _, rfl, Below.refl _ _⟩
  case round =>
    obtain ⟨k, hk, rfl, hbw⟩ := hrel
    by_cases hkl : k < l.length
    · obtain ⟨s, hs⟩ : ∃ z, l[k]? = some z := ⟨l[k], List.getElem?_eq_getElem hkl⟩
      obtain ⟨c0, c1, c2, c3, c4, c5, c6, c7⟩ := (hca k s hs).block (hbw.block a ha)
      obtain ⟨d0, d1, d2, d3, d4, d5, d6, d7⟩ := (hcb k s hs).block (hbw.block b hb)
      clear hs
      have hki : (k : Int) < (l.length : Int) := by omega
      have hgd := guardSt
      have hnq := neq_st s.p (s.c 0) (s.c 1) (s.c 2) (s.c 3) (s.c 4) (s.c 5) s.f
      go_wp2
      go_quiet (fail)
      go_wp2
      go_roundw
      case rel => exact ⟨k + 1, by omega, by go_num, below_dN hbw _⟩
      case measure => simp [intOf]; omega
    · go_wp2
      go_ret
      exact ⟨rfl, hbw⟩
set_option maxRecDepth 1000000 in
set_option maxHeartbeats 4000000 in
theorem sts_nil (a b : Option Addr) (ac bc : Nat) (w : World) :
    Calls Tryz.prog 19 #[.slice a 0 ac, .slice b 0 bc] w fun e w' => e = .returned (.bool true) ∧ Below w.heap.size w w' := by
  go_enter Tryz.func19, Tryz.ntmps19
  go_wp2
  refine wp_loop_rounds 1 ?_
  rw [rounds_succ]
  go_wp2
  go_ret
  exact ⟨rfl, Below.refl _ _⟩
theorem sts_any (va vb : Value) (l : List St) (w : World) (ha : StL w va l) (hb : StL w vb l) (hl : l.length ≤ 1000000) :
    Calls Tryz.prog 19 #[va, vb] w fun e w' => e = .returned (.bool true) ∧ Below w.heap.size w w' := by
  rcases ha with ⟨rfl, ao, ac, rfl⟩ | ⟨a, ao, ac, rfl, _, ha, hca⟩
  · obtain ⟨bo, bc, rfl⟩ := hb.form
    exact sts_nil _ _ _ _ w
  · rcases hb with ⟨rfl, bo, bc, rfl⟩ | ⟨b, bo, bc, rfl, _, hb, hcb⟩
    · exact sts_nil _ _ _ _ w
    · exact sts_some l a ao ac b bo bc w ha hb hl hca hcb
end Go.Proofs.YtfconbblnmbnpadGreatDoor
namespace Go.Proofs.YtfconbblnmbnpadGreatDoor
open Go.RowKit

theorem sees_short {p : PD} {k : KD} (hk : KOk p k) (hp : plchk p = 0) (r : Int) : ShortH (seesK k r) ∧ (seesK k r).length ≤ 1000000 := by
  refine ⟨fun x hx => ?_, ?_⟩
  · unfold seesK at hx
    obtain ⟨l, hl, rfl⟩ := List.mem_map.1 hx
    have hl2 := (List.mem_filter.1 hl).1
    obtain ⟨i, hi⟩ := List.mem_iff_getElem?.1 hl2
    have hlt := (List.getElem?_eq_some_iff.1 hi).1
    have hx : p.wires[i]? = some (p.wires[i]'(by rw [← hk.ll]; exact hlt)) := List.getElem?_eq_getElem _
    have hlo := hk.lines i l _ hi hx
    rcases wchk_kind ((wschk_ok (plchk_zero hp).2.2.2.1).2 _ (List.mem_of_getElem? hx)) with ⟨h1, _⟩ | ⟨h1, h2, h3⟩
    · have := hlo.one h1
      show l.xs.length ≤ _
      omega
    · have := hlo.deep h1
      show l.xs.length ≤ _
      omega
  · unfold seesK
    rw [List.length_map]
    have h1 := List.length_filter_le (atR r) k.lines
    have h2 := hk.ll
    have h3 := (wschk_ok (plchk_zero hp).2.2.2.1).1
    omega
set_option maxRecDepth 100000 in
set_option maxHeartbeats 16000000 in
theorem stells_of {G : World → Prop} (C : KerC G) (R : SgtRun G) (O : SgtOf C) (hE : ∀ (e : Int) (W : World), G W → Calls Tryz.prog 7 #[wErr e, .int .i64 e] W fun r w' => r = .returned (.bool true) ∧ Below W.heap.size W w')
    (hR : ∀ (p : PD) (vc vs vw : Value) (W : World), Pln W vc vs vw p → Calls Tryz.prog 5 #[plV vc p.ticks vs vw] W fun e w' => e = .returned (.int .i64 (plchk p)) ∧ Below W.heap.size W w')
    (p : PD) (vc vs vw : Value) (n r go : Int) (w : World) (hG : G w) (hP : Pln w vc vs vw p) :
    Calls Tryz.prog 4 #[plV vc p.ticks vs vw, .int .i64 n, .int .i64 r, .int .i64 go] w fun e w' => e = .returned (.bool true) ∧ Below w.heap.size w w' := by
  obtain ⟨ca, cc, rfl⟩ := hP.code.form
  obtain ⟨sa, sc, rfl⟩ := hP.spans.form
  obtain ⟨wa, wc', rfl⟩ := hP.wires.form
  have hx0 := Bx.first w (.slice ca p.code.length cc) p.ticks (.slice sa p.spans.length sc) (.slice wa p.wires.length wc')
  have HP : Hid (Pln w (.slice ca p.code.length cc) (.slice sa p.spans.length sc) (.slice wa p.wires.length wc') p) := hP
  have HG : Hid (∀ W, Below w.heap.size w W → G W) := fun W hb => C.all w W hG hb
  have HE : Hid (∀ (e : Int) (W : World), G W → Calls Tryz.prog 7 #[wErr e, .int .i64 e] W fun r w' => r = .returned (.bool true) ∧ Below W.heap.size W w') := hE
  have q1 := hR p _ _ _ _ (hP.all hx0.below)
  have HRun : Hid (∀ W, Below w.heap.size w W → Calls Tryz.prog 18 #[.agg #[.slice ca p.code.length cc, .int .i64 p.ticks, .slice sa p.spans.length sc, .slice wa p.wires.length wc'], .int .i64 n, .int .i64 r] W fun e w' => ∃ ao m cap, e = .returned (.tuple #[.slice ao m cap, wErr (runE p n r)]) ∧ StL w' (.slice ao m cap) (if runE p n r = 0 then statesK p n.toNat r.toNat else []) ∧ Below W.heap.size W w') := fun W hb => by
    refine (R p _ _ _ n r W (HG.out W hb) (HP.out.all hb)).mono ?_
    rintro e w' ⟨v, rfl, h1, h2⟩
    obtain ⟨ao, cap, rfl⟩ := h1.form
    exact ⟨_, _, _, rfl, h1, h2⟩
  have k0 := hx0.c0
  have k1 := hx0.c1
  have k2 := hx0.c2
  have k3 := hx0.c3
  unfold plV at q1
  unfold plV
  clear hP hG hE hR
  by_cases hp : plchk p = 0
  case neg =>
    have hrz : runE p n r = plchk p := by
      unfold runE
      rw [if_neg hp]
    have HN : Hid (∀ W, Below w.heap.size w W → Calls Tryz.prog 6 #[.agg #[.slice ca p.code.length cc, .int .i64 p.ticks, .slice sa p.spans.length sc, .slice wa p.wires.length wc']] W fun e w' => ∃ x, e = .returned (.tuple #[.pointer x, .iface 95 (.int .i64 (plchk p))]) ∧ Below W.heap.size W w') := fun W hb => by
      have := C.no p _ _ _ W (HG.out W hb) (HP.out.all hb) hp
      rw [wErr_not hp] at this
      exact this
    have HE2 : Hid (∀ W, Below w.heap.size w W → Calls Tryz.prog 7 #[.iface 95 (.int .i64 (plchk p)), .int .i64 (plchk p)] W fun r w' => r = .returned (.bool true) ∧ Below W.heap.size W w') := fun W hb => by
      have := HE.out (plchk p) W (HG.out W hb)
      rw [wErr_not hp] at this
      exact this
    have HR2 : Hid (∀ W, Below w.heap.size w W → Calls Tryz.prog 18 #[.agg #[.slice ca p.code.length cc, .int .i64 p.ticks, .slice sa p.spans.length sc, .slice wa p.wires.length wc'], .int .i64 n, .int .i64 r] W fun e w' => ∃ ao cap, e = .returned (.tuple #[.slice ao 0 cap, .iface 95 (.int .i64 (plchk p))]) ∧ Below W.heap.size W w') := fun W hb => by
      refine (HRun.out W hb).mono ?_
      rintro e w' ⟨ao, m, cap, rfl, h1, h2⟩
      rw [hrz, if_neg hp] at h1
      obtain ⟨ao', cap', h3⟩ := h1.form
      injection h3 with e1 e2 e3
      subst e2
      rw [hrz, wErr_not hp]
      exact ⟨_, _, rfl, h2⟩
    have hpb : (plchk p == 0) = false := by simpa using hp
    have hpn : (plchk p != 0) = true := by simpa using hp
    clear HRun hrz
    generalize plchk p = z at q1 HN HE2 HR2 hp hpb hpn
    have hcase : decide (300 < n) = true ∨ decide (300 < n) = false := by cases decide (300 < n) <;> simp
    rcases hcase with h3 | h3
    · go_enter Tryz.func4, Tryz.ntmps4
      go_wp2_with (first
        | (go_at_call 5; refine q1.mono ?_; rintro e w1 ⟨rfl, b1⟩; clear q1 k0 k1 k2 k3; have hx1 := hx0.step b1; have k0 := hx1.c0; have k1 := hx1.c1; have k2 := hx1.c2; have k3 := hx1.c3; have q2 := HN.out w1 hx1.below)
        | (go_at_call 6; refine q2.mono ?_; rintro e w2 ⟨xp, rfl, b2⟩; clear q2; have hx2 := hx1.step b2; have q3 := HE2.out w2 hx2.below)
        | (go_at_call 7; refine q3.mono ?_; rintro e w3 ⟨rfl, b3⟩; clear q3 k0 k1 k2 k3; have hx3 := hx2.step b3; have k0 := hx3.c0; have k1 := hx3.c1; have k2 := hx3.c2; have k3 := hx3.c3; have q4 := HR2.out w3 hx3.below)
        | (go_at_call 18; refine q4.mono ?_; rintro e w4 ⟨ao, cap, rfl, b4⟩; clear q4; have hx4 := hx3.step b4; have q5 := HE2.out w4 hx4.below)
        | (go_at_call 7; refine q5.mono ?_; rintro e w5 ⟨rfl, b5⟩; clear q5; have hx5 := hx4.step b5; have q6 := sts_nil ao none cap 0 w5)
        | (go_at_call 19; refine q6.mono ?_; rintro e w6 ⟨rfl, b6⟩; clear q6; have hx6 := hx5.step b6))
      go_ret
      exact ⟨rfl, hx6.below⟩
    · go_enter Tryz.func4, Tryz.ntmps4
      go_wp2_with (first
        | (go_at_call 5; refine q1.mono ?_; rintro e w1 ⟨rfl, b1⟩; clear q1 k0 k1 k2 k3; have hx1 := hx0.step b1; have k0 := hx1.c0; have k1 := hx1.c1; have k2 := hx1.c2; have k3 := hx1.c3; have q2 := HN.out w1 hx1.below)
        | (go_at_call 6; refine q2.mono ?_; rintro e w2 ⟨xp, rfl, b2⟩; clear q2; have hx2 := hx1.step b2; have q3 := HE2.out w2 hx2.below)
        | (go_at_call 7; refine q3.mono ?_; rintro e w3 ⟨rfl, b3⟩; clear q3 k0 k1 k2 k3; have hx3 := hx2.step b3; have k0 := hx3.c0; have k1 := hx3.c1; have k2 := hx3.c2; have k3 := hx3.c3; have q4 := HR2.out w3 hx3.below)
        | (go_at_call 18; refine q4.mono ?_; rintro e w4 ⟨ao, cap, rfl, b4⟩; clear q4; have hx4 := hx3.step b4; have q5 := HE2.out w4 hx4.below)
        | (go_at_call 7; refine q5.mono ?_; rintro e w5 ⟨rfl, b5⟩; clear q5; have hx5 := hx4.step b5; have q6 := sts_nil ao none cap 0 w5)
        | (go_at_call 19; refine q6.mono ?_; rintro e w6 ⟨rfl, b6⟩; clear q6; have hx6 := hx5.step b6))
      go_ret
      exact ⟨rfl, hx6.below⟩
  have HN : Hid (∀ W, Below w.heap.size w W → Calls Tryz.prog 6 #[.agg #[.slice ca p.code.length cc, .int .i64 p.ticks, .slice sa p.spans.length sc, .slice wa p.wires.length wc']] W fun e w' => ∃ kb F, e = .returned (.tuple #[.pointer (some ⟨kb, 0, none⟩), .nilIface]) ∧ C.K W w' p (.slice ca p.code.length cc) (.slice sa p.spans.length sc) (.slice wa p.wires.length wc') (newK p) kb F) := fun W hb => C.new p _ _ _ W (HG.out W hb) (HP.out.all hb) hp
  have HE0 : Hid (∀ W, Below w.heap.size w W → Calls Tryz.prog 7 #[.nilIface, .int .i64 0] W fun r w' => r = .returned (.bool true) ∧ Below W.heap.size W w') := fun W hb => HE.out 0 W (HG.out W hb)
  have HE1 : Hid (∀ W, Below w.heap.size w W → Calls Tryz.prog 7 #[.iface 95 (.int .i64 1), .int .i64 1] W fun r w' => r = .returned (.bool true) ∧ Below W.heap.size W w') := fun W hb => HE.out 1 W (HG.out W hb)
  have HK : Hid (∀ W, Below w.heap.size w W → Calls Tryz.prog 8 #[.agg #[.slice ca p.code.length cc, .int .i64 p.ticks, .slice sa p.spans.length sc, .slice wa p.wires.length wc']] W fun e w' => ∃ a : KW, e = .returned (.pointer (some ⟨a.kb, 0, none⟩)) ∧ W.heap.size ≤ a.lr ∧ RK w' W.heap.size p (.slice ca p.code.length cc) (.slice sa p.spans.length sc) (.slice wa p.wires.length wc') (newK p) a ∧ Below W.heap.size W w') := fun W hb => newkernel_any p _ _ _ W hp (HP.out.all hb)
  rw [hp] at q1
  have HF : Hid (runE p n r = if r < 0 ∨ (p.code.length : Int) ≤ r ∨ n < 0 ∨ 2000 < n then 1 else 0) := by
    show _ = _
    unfold runE
    rw [if_pos hp]
  go_enter Tryz.func4, Tryz.ntmps4
  go_upto_region 7 with (first
    | (go_at_call 5; refine q1.mono ?_; rintro e w1 ⟨rfl, b1⟩; clear q1 k0 k1 k2 k3; have hx1 := hx0.step b1; have k0 := hx1.c0; have k1 := hx1.c1; have k2 := hx1.c2; have k3 := hx1.c3; have q2 := HN.out w1 hx1.below)
    | (go_at_call 6; refine q2.mono ?_; rintro e w2 ⟨kb, F, rfl, hK⟩; clear q2 k0 k1 k2 k3; have hx2 := hx1.step (C.since hK); have q3 := HE0.out w2 hx2.below)
    | (go_at_call 7; refine q3.mono ?_; rintro e w3 ⟨rfl, b3⟩; clear q3; have hx3 := hx2.step b3; have k0 := hx3.c0; have k1 := hx3.c1; have k2 := hx3.c2; have k3 := hx3.c3))
  have hK3 := C.frame hK (KTouch.of (M := []) b3) (by simp)
  have HG1 : Hid (G w1) := HG.out w1 hx1.below
  have HB1 : Hid (Below w.heap.size w w1) := hx1.below
  have hs1 := hx1.size
  clear hK b1 b3 hx0 hx1 hx2
  have hf01 : runE p n r = 0 ∨ runE p n r = 1 := by
    rw [HF.out]
    split
    · exact Or.inr rfl
    · exact Or.inl rfl
  have HFz : Hid (runE p n r = 0 → plchk p = 0 ∧ 0 ≤ r ∧ r < (p.code.length : Int) ∧ 0 ≤ n ∧ n ≤ 2000) := fun h => by
    have h' := h
    rw [HF.out] at h'
    split at h'
    · omega
    · exact ⟨hp, by omega, by omega, by omega, by omega⟩
  go_cut [57] from 37 to 56 (fun s57 wx => s57 = .bool (decide (runE p n r = 1)) ∧ wx = w3)
  case first =>
    by_cases h1 : r < 0
    · have HX : Hid (runE p n r = 1) := by show _ = _; rw [HF.out, if_pos (Or.inl h1)]
      clear hf01
      go_wp2_with fail
      go_meet
      case rel => exact ⟨by rw [HX.out]; rfl, rfl⟩
    have h1' : decide (r < 0) = false := decide_eq_false h1
    by_cases h2 : (p.code.length : Int) ≤ r
    · have HX : Hid (runE p n r = 1) := by show _ = _; rw [HF.out, if_pos (Or.inr (Or.inl h2))]
      clear hf01
      go_wp2_with fail
      go_meet
      case rel => exact ⟨by rw [HX.out]; rfl, rfl⟩
    have h2' : decide ((p.code.length : Int) ≤ r) = false := decide_eq_false h2
    by_cases h3 : n < 0
    · have HX : Hid (runE p n r = 1) := by show _ = _; rw [HF.out, if_pos (Or.inr (Or.inr (Or.inl h3)))]
      clear hf01
      go_wp2_with fail
      go_meet
      case rel => exact ⟨by rw [HX.out]; rfl, rfl⟩
    have h3' : decide (n < 0) = false := decide_eq_false h3
    by_cases h4 : 2000 < n
    · have HX : Hid (runE p n r = 1) := by show _ = _; rw [HF.out, if_pos (Or.inr (Or.inr (Or.inr h4)))]
      clear hf01
      go_wp2_with fail
      go_meet
      case rel => exact ⟨by rw [HX.out]; rfl, rfl⟩
    have h4' : decide (2000 < n) = false := decide_eq_false h4
    have HX : Hid (runE p n r = 0) := by show _ = _; rw [HF.out, if_neg (by omega)]
    clear hf01
    go_wp2_with fail
    go_meet
    case rel => exact ⟨by rw [HX.out]; rfl, rfl⟩
  case rest =>
  obtain ⟨rfl, hwx⟩ := hcut
  rw [hwx]
  clear hwx
  go_step
  go_cut [13] from 57 to 57 (fun s13 wx => s13 = .int .i64 (runE p n r) ∧ wx = w3)
  case first =>
    rcases hf01 with h0 | h0
    · have HX : Hid (runE p n r = 0) := h0
      have hd : decide (runE p n r = 1) = false := by rw [h0]; rfl
      rw [hd]
      clear h0 hd
      go_wp2_with fail
      go_meet
      case rel => exact ⟨by rw [HX.out], rfl⟩
    · have HX : Hid (runE p n r = 1) := h0
      have hd : decide (runE p n r = 1) = true := by rw [h0]; rfl
      rw [hd]
      clear h0 hd
      go_wp2_with fail
      go_meet
      case rel => exact ⟨by rw [HX.out], rfl⟩
  case rest =>
  obtain ⟨rfl, hwx⟩ := hcut
  rw [hwx]
  clear hwx
  obtain ⟨fz, hfz⟩ : ∃ x, runE p n r = x := ⟨_, rfl⟩
  rw [hfz] at hf01 HFz HRun ⊢
  have HFE : Hid (runE p n r = fz) := hfz
  clear hfz HF
  by_cases hearly : fz = 0 ∧ 300 < n
  case pos =>
    have h3 : decide (300 < n) = true := decide_eq_true hearly.2
    obtain ⟨rfl, _⟩ := hearly
    go_wp2
    go_ret
    exact ⟨rfl, hx3.below⟩
  go_upto_region 9 with fail
  go_cut [63] from 58 to 62 (fun s63 wx => s63 = .bool false ∧ wx = w3)
  case first =>
    by_cases h3 : 300 < n
    · obtain rfl : fz = 1 := by
        rcases hf01 with h | h
        · exact absurd ⟨h, h3⟩ hearly
        · exact h
      go_wp2_with fail
      go_meet
      case rel => exact ⟨rfl, rfl⟩
    · have h3' : decide (300 < n) = false := decide_eq_false h3
      clear hf01
      go_wp2_with fail
      go_meet
      case rel => exact ⟨rfl, rfl⟩
  case rest =>
  obtain ⟨rfl, hwx⟩ := hcut
  rw [hwx]
  clear hwx
  go_step
  go_upto_region 12 with fail
  go_cut [65] from 64 to 64 (fun s65 wx => s65 = .bool (decide (fz = 0)) ∧ wx = w3)
  case first =>
    clear hf01
    go_wp2_with fail
    go_meet
    case rel => exact ⟨by rw [show (fz == 0) = decide (fz = 0) by by_cases h : fz = 0 <;> simp [h]], rfl⟩
  case rest =>
  obtain ⟨rfl, hwx⟩ := hcut
  rw [hwx]
  clear hwx
  go_step
  go_cut [14] from 66 to 69 (fun s14 wx => (∃ ao m cap, s14 = .slice ao m cap) ∧ StL wx s14 (if fz = 0 then statesK p n.toNat r.toNat else []) ∧ Below w3.heap.size w3 wx)
  case first =>
    rcases hf01 with h0 | h1
    · obtain ⟨_, hr0, hr1, hn0, hn1⟩ := HFz.out h0
      obtain ⟨nn, rfl⟩ : ∃ k : Nat, n = k := ⟨n.toNat, by omega⟩
      obtain ⟨rn, rfl⟩ : ∃ k : Nat, r = k := ⟨r.toNat, by omega⟩
      have HS : Hid (∀ W, Below w.heap.size w W → Calls Tryz.prog 17 #[.agg #[.slice ca p.code.length cc, .int .i64 p.ticks, .slice sa p.spans.length sc, .slice wa p.wires.length wc'], .int .i64 nn, .int .i64 rn] W fun e w' => ∃ ao m cap, e = .returned (.slice ao m cap) ∧ StL w' (.slice ao m cap) (statesK p nn rn) ∧ Below W.heap.size W w') := fun W hb => by
        refine (rstates_any p _ _ _ nn rn W hp (HP.out.all hb) (by omega) (by omega)).mono ?_
        rintro e w' ⟨v, rfl, h1, h2⟩
        obtain ⟨ao, cap, rfl⟩ := h1.form
        exact ⟨_, _, _, rfl, h1, h2⟩
      subst h0
      have hd : decide ((0 : Int) = 0) = true := rfl
      go_wp2_with (go_at_call 17; refine (HS.out _ hx3.below).mono ?_; rintro e w4 ⟨ao, m, cap, rfl, hs4, b4⟩)
      go_meet
      case rel => exact ⟨⟨_, _, _, rfl⟩, by simpa using hs4, b4⟩
    · subst h1
      have hd : decide ((1 : Int) = 0) = false := rfl
      go_wp2_with fail
      go_meet
      case rel => exact ⟨⟨_, _, _, rfl⟩, by exact Or.inl ⟨by simp, _, _, rfl⟩, Below.refl _ _⟩
  case rest =>
  obtain ⟨⟨ao, m, cap, rfl⟩, hs4, hb4⟩ := hcut
  have hx4 := hx3.step hb4
  have hK4 := C.frame hK3 (KTouch.of (M := []) hb4) (by simp)
  clear hx3 hK3 hb4 k0 k1 k2 k3 hearly
  generalize wc = w4 at *
  have hlen : (if fz = 0 then statesK p n.toNat r.toNat else []).length ≤ 1000000 := by
    split
    · rename_i h0
      have := HFz.out h0
      rw [statesK_len]
      omega
    · simp
  have HEf : Hid (∀ W, Below w.heap.size w W → Calls Tryz.prog 7 #[wErr fz, .int .i64 fz] W fun r w' => r = .returned (.bool true) ∧ Below W.heap.size W w') := fun W hb => HE.out fz W (HG.out W hb)
  have HSt : Hid (∀ W va vb, StL W va (if fz = 0 then statesK p n.toNat r.toNat else []) → StL W vb (if fz = 0 then statesK p n.toNat r.toNat else []) → Calls Tryz.prog 19 #[va, vb] W fun e w' => e = .returned (.bool true) ∧ Below W.heap.size W w') := fun W va vb h1 h2 => sts_any va vb _ W h1 h2 hlen
  generalize (if fz = 0 then statesK p n.toNat r.toNat else []) = want at hs4 HRun HSt
  obtain ⟨ev, hev⟩ : ∃ v, v = wErr fz := ⟨_, rfl⟩
  rw [← hev] at HRun HEf
  clear hev hlen hf01 HFz
  have k0 := hx4.c0
  have k1 := hx4.c1
  have k2 := hx4.c2
  have k3 := hx4.c3
  go_upto_region 18 with (first
    | (go_at_call 18; refine (HRun.out _ hx4.below).mono ?_; rintro e w5 ⟨ao', m', cap', rfl, hs5, b5⟩; have hx5 := hx4.step b5; have q6 := HEf.out w5 hx5.below)
    | (go_at_call 7; refine q6.mono ?_; rintro e w6 ⟨rfl, b6⟩; clear q6; have hx6 := hx5.step b6; have q7 := HSt.out w6 _ _ (hs5.all b6) ((hs4.all b5).all b6))
    | (go_at_call 19; refine q7.mono ?_; rintro e w7 ⟨rfl, b7⟩; clear q7; have hx7 := hx6.step b7))
  have hK7 := C.frame hK4 (KTouch.of (M := []) (b5.trans ((b6.trans (b7.mono b6.size)).mono b5.size))) (by simp)
  clear hK4 hs4 hs5 b5 b6 b7 hx4 hx5 hx6 k0 k1 k2 k3 HRun HSt HEf
  have hxc := hx7
  have hKc := hK7
  clear hx7 hK7
  have hsw : w1.heap.size ≤ w7.heap.size := (C.since hKc).size
  generalize w7 = W4 at *
  have k0 := hxc.c0
  have k1 := hxc.c1
  have k2 := hxc.c2
  have k3 := hxc.c3
  go_cut [17] from 88 to 89 (fun s17 wx => ∃ a : KW, s17 = .pointer (some ⟨a.kb, 0, none⟩) ∧ Two C w1 wx p (.slice ca p.code.length cc) (.slice sa p.spans.length sc) (.slice wa p.wires.length wc') (newK p) kb F a ∧ Bx w wx (.slice ca p.code.length cc) p.ticks (.slice sa p.spans.length sc) (.slice wa p.wires.length wc'))
  case first =>
    have HKc : Hid (C.K w1 W4 p (.slice ca p.code.length cc) (.slice sa p.spans.length sc) (.slice wa p.wires.length wc') (newK p) kb F) := hKc
    clear hKc
    go_wp2_with (go_at_call 8; refine (HK.out W4 hxc.below).mono ?_; rintro e w5 ⟨a, rfl, hlr, hRk, b5⟩; have HTw : Hid (Two C w1 w5 p (.slice ca p.code.length cc) (.slice sa p.spans.length sc) (.slice wa p.wires.length wc') (newK p) kb F a) := two_new hp (HP.out.all HB1.out) HKc.out (Below.refl _ W4) hRk hlr b5; clear hRk)
    go_meet
    case rel => exact ⟨a, rfl, HTw.out, hxc.step b5⟩
  case rest =>
  clear hKc hxc k0 k1 k2 k3
  obtain ⟨a, rfl, hTw, hx5⟩ := hcut
  go_upto_block 0 with fail
  go_cut [18] from 90 to 102 (fun _ wx => ∃ (k : KD) (F : List Nat) (a' : KW), a'.kb = a.kb ∧ Two C w1 wx p (.slice ca p.code.length cc) (.slice sa p.spans.length sc) (.slice wa p.wires.length wc') k kb F a' ∧ Bx w wx (.slice ca p.code.length cc) p.ticks (.slice sa p.spans.length sc) (.slice wa p.wires.length wc'))
  case first =>
    go_wp2_with fail
    go_loopw [18] (fun s18 wr => ∃ (i : Nat) (k : KD) (F : List Nat) (a' : KW), i ≤ 60 ∧ s18 = .int .i64 i ∧ k.time ≤ i ∧ a'.kb = a.kb ∧ Two C w1 wr p (.slice ca p.code.length cc) (.slice sa p.spans.length sc) (.slice wa p.wires.length wc') k kb F a' ∧ Bx w wr (.slice ca p.code.length cc) p.ticks (.slice sa p.spans.length sc) (.slice wa p.wires.length wc')) (fun s _ => 60 - (intOf s).toNat)
    case atStart => exact ⟨0, _, F, a, Nat.zero_le _, rfl, Int.le_refl _, rfl, hTw, hx5⟩
    case round =>
    clear hTw hx5
    obtain ⟨i, k, F1, a1, hi, rfl, htm, hak, hTw, hx⟩ := hrel
    by_cases hgo : (i : Int) < go ∧ i < 60
    case pos =>
      have hig : (i : Int) < go := hgo.1
      have hi60 : (i : Int) < 60 := by omega
      have hak' := hak
      have HT : Hid (Calls Tryz.prog 11 #[.pointer (some ⟨kb, 0, none⟩)] wr fun e w2 => (∃ x1 x2 x3 x4, e = .returned (.agg #[.int .i64 x1, .int .i64 x2, .int .i64 x3, .int .i64 x4])) ∧ Calls Tryz.prog 12 #[.pointer (some ⟨a.kb, 0, none⟩)] w2 fun e w' => (∃ x1 x2 x3 x4, e = .returned (.agg #[.int .i64 x1, .int .i64 x2, .int .i64 x3, .int .i64 x4])) ∧ ∃ F' a', a'.kb = a.kb ∧ Two C w1 w' p (.slice ca p.code.length cc) (.slice sa p.spans.length sc) (.slice wa p.wires.length wc') (tickK p p.spans k).1 kb F' a' ∧ Bx w w' (.slice ca p.code.length cc) p.ticks (.slice sa p.spans.length sc) (.slice wa p.wires.length wc')) := by
        have h1 := two_tick HG1.out hp (by omega) hTw
        rw [hak'] at h1
        refine h1.mono ?_
        rintro e w2 ⟨rfl, h2⟩
        refine ⟨⟨_, _, _, _, rfl⟩, h2.mono ?_⟩
        rintro e w' ⟨rfl, F', a', hw⟩
        exact ⟨⟨_, _, _, _, rfl⟩, F', a', hw.kb.trans hak', hw.two, Below.trans hx ((hw.touch.below hTw.mge (C.since hTw.K).size).mono hs1)⟩
      have HTm : Hid ((tickK p p.spans k).1.time ≤ ((i + 1 : Nat) : Int)) := by
        show _ ≤ _
        rw [tick_time]
        omega
      clear hTw hx hgo
      go_wp2_with (first
        | (go_at_call 11; refine HT.out.mono ?_; rintro e w2 ⟨⟨x1, x2, x3, x4, rfl⟩, q2⟩)
        | (go_at_call 12; refine q2.mono ?_; rintro e w3' ⟨⟨y1, y2, y3, y4, rfl⟩, F', a', hka, hTw', hx'⟩))
      go_roundw
      case rel => exact ⟨i + 1, _, F', a', by omega, by go_num, HTm.out, hka, hTw', hx'⟩
      case measure => simp [intOf]; omega
    have hgo2 : (decide ((i : Int) < go) = false) ∨ (decide ((i : Int) < go) = true ∧ decide ((i : Int) < 60) = false) := by
      by_cases h : (i : Int) < go
      · exact Or.inr ⟨decide_eq_true h, decide_eq_false (by omega)⟩
      · exact Or.inl (decide_eq_false h)
    have HTw : Hid (Two C w1 wr p (.slice ca p.code.length cc) (.slice sa p.spans.length sc) (.slice wa p.wires.length wc') k kb F1 a1) := hTw
    clear hTw hgo
    rcases hgo2 with h1 | ⟨h1, h2⟩
    · go_wp2_with fail
      go_meet
      case rel => exact ⟨k, F1, a1, hak, HTw.out, hx⟩
    · go_wp2_with fail
      go_meet
      case rel => exact ⟨k, F1, a1, hak, HTw.out, hx⟩
  case rest =>
  clear hTw hx5
  obtain ⟨k, F1, a1, hak, hTw, hx⟩ := hcut
  generalize wc = W5 at *
  have k0 := hx.c0
  have k1 := hx.c1
  have k2 := hx.c2
  have k3 := hx.c3
  have hrl : k.rooms.length = p.code.length := hTw.ok.rl
  by_cases hroom : 0 ≤ r ∧ r < (p.code.length : Int)
  · obtain ⟨rn, rfl⟩ : ∃ q : Nat, r = q := ⟨r.toNat, by omega⟩
    have hrn : rn < p.code.length := by omega
    have hri : (rn : Int) < (p.code.length : Int) := hroom.2
    have hno : noRoom k rn = false := by
      unfold noRoom
      rw [Bool.or_eq_false_iff, hrl]
      exact ⟨decide_eq_false (by omega), decide_eq_false (by omega)⟩
    have hn1 : decide ((rn : Int) < 0) = false := decide_eq_false (by omega)
    have hn2 : decide ((p.code.length : Int) ≤ (rn : Int)) = false := decide_eq_false (by omega)
    have hn3 : decide (p.code.length ≤ rn) = false := decide_eq_false (by omega)
    obtain ⟨s, hs⟩ : ∃ s, k.rooms[rn]? = some s := ⟨_, List.getElem?_eq_getElem (by rw [hrl]; exact hrn)⟩
    have hrk : roomK k rn = s := by
      unfold roomK
      rw [if_neg (by rw [hno]; decide), Int.toNat_natCast]
      simp [List.getD, hs]
    have c4 := hTw.R.c4
    rw [hrl] at c4
    rw [hak] at c4
    obtain ⟨s0, s1, s2, s3, s4, s5, s6, s7⟩ := hTw.R.rooms rn s hs
    have hsh := sees_short hTw.ok hp rn
    have HSee : Hid (∀ W, Below W5.heap.size W5 W → Calls Tryz.prog 20 #[.pointer (some ⟨a.kb, 0, none⟩), .int .i64 rn] W fun e w' => ∃ ao m cap, e = .returned (.slice ao m cap) ∧ HdL w' (.slice ao m cap) (seesK k rn) ∧ Below W.heap.size W w') := fun W hb => by
      have h1 := rsees_any p _ _ _ k a1 w1.heap.size rn W (hTw.R.all hb) hTw.ok hp
      rw [hak] at h1
      refine h1.mono ?_
      rintro e w' ⟨v, rfl, h2, h3⟩
      obtain ⟨ao, cap, rfl⟩ := h2.form
      exact ⟨_, _, _, rfl, h2, h3⟩
    have HOf : Hid (∀ W, Below W5.heap.size W5 W → Calls Tryz.prog 21 #[.pointer (some ⟨kb, 0, none⟩), .agg #[.slice ca p.code.length cc, .int .i64 p.ticks, .slice sa p.spans.length sc, .slice wa p.wires.length wc'], .int .i64 rn] W fun e w' => ∃ ao m cap, e = .returned (.tuple #[.agg #[.int .i64 s.p, .int .i64 (s.c 0), .int .i64 (s.c 1), .int .i64 (s.c 2), .int .i64 (s.c 3), .int .i64 (s.c 4), .int .i64 (s.c 5), .bool s.f], .slice ao m cap, .nilIface]) ∧ HdL w' (.slice ao m cap) (seesK k rn) ∧ Below W.heap.size W w') := fun W hb => by
      have h1 := O (.slice ca p.code.length cc) (.slice sa p.spans.length sc) (.slice wa p.wires.length wc') rn HG1.out (C.frame hTw.K (KTouch.of (M := []) hb) (by simp)) hTw.ok hp (HP.out.all (hx.step hb).below)
      refine h1.mono ?_
      rintro e w' ⟨v, rfl, h2, h3⟩
      rw [hno, if_neg (by decide)] at h2
      obtain ⟨ao, cap, rfl⟩ := h2.form
      rw [hno, hrk]
      exact ⟨_, _, _, rfl, h2, h3⟩
    have HHd : Hid (∀ W va vb, HdL W va (seesK k rn) → HdL W vb (seesK k rn) → Calls Tryz.prog 22 #[va, vb] W fun e w' => e = .returned (.bool true) ∧ Below W.heap.size W w') := fun W va vb h1 h2 => by
      have := helds2_any va vb _ _ W h1 h2 hsh.2 hsh.1
      rwa [decide_eq_true rfl] at this
    generalize seesK k rn = hl at HSee HOf HHd
    have hgd := guardSt
    have hnq := eql_st s.p (s.c 0) (s.c 1) (s.c 2) (s.c 3) (s.c 4) (s.c 5) s.f
    clear hTw hsh hno hrk hs
    go_upto_region 28 with fail
    have hA0 : Below W5.heap.size W5 (W5.alloc (.cells #[.int .i64 0, .int .i64 0, .int .i64 0, .int .i64 0, .int .i64 0, .int .i64 0, .int .i64 0, .bool false] 46)) := (Below.refl _ _).alloc (Nat.le_refl _) _
    have hbx : (W5.alloc (.cells #[.int .i64 0, .int .i64 0, .int .i64 0, .int .i64 0, .int .i64 0, .int .i64 0, .int .i64 0, .bool false] 46)).heap[W5.heap.size]? = some (.cells #[.int .i64 0, .int .i64 0, .int .i64 0, .int .i64 0, .int .i64 0, .int .i64 0, .int .i64 0, .bool false] 46 (0, 0)) := World.alloc_heap_new _ _
    generalize W5.alloc (.cells #[.int .i64 0, .int .i64 0, .int .i64 0, .int .i64 0, .int .i64 0, .int .i64 0, .int .i64 0, .bool false] 46) = WA at hA0 hbx ⊢
    have d4 := (hA0.cell (p := ⟨a.kb, 4, none⟩) (wlt c4)).trans c4
    have hrbl := wlt s0
    replace s0 := (hA0.cell (p := ⟨a1.rb, _, none⟩) hrbl).trans s0
    replace s1 := (hA0.cell (p := ⟨a1.rb, _, none⟩) hrbl).trans s1
    replace s2 := (hA0.cell (p := ⟨a1.rb, _, none⟩) hrbl).trans s2
    replace s3 := (hA0.cell (p := ⟨a1.rb, _, none⟩) hrbl).trans s3
    replace s4 := (hA0.cell (p := ⟨a1.rb, _, none⟩) hrbl).trans s4
    replace s5 := (hA0.cell (p := ⟨a1.rb, _, none⟩) hrbl).trans s5
    replace s6 := (hA0.cell (p := ⟨a1.rb, _, none⟩) hrbl).trans s6
    replace s7 := (hA0.cell (p := ⟨a1.rb, _, none⟩) hrbl).trans s7
    have hsb0 : StB WA W5.heap.size stNew := hbx
    obtain ⟨z0, z1, z2, z3, z4, z5, z6, z7⟩ := hsb0.cs
    simp only [Nat.zero_add, stNew] at z0 z1 z2 z3 z4 z5 z6 z7
    have hfz : ∀ o, WA.frozen? ⟨W5.heap.size, o, none⟩ = false := fun o => by simp [World.frozen?, hbx]
    have y0 := hfz 0
    have y1 := hfz 1
    have y2 := hfz 2
    have y3 := hfz 3
    have y4 := hfz 4
    have y5 := hfz 5
    have y6 := hfz 6
    have y7 := hfz 7
    have HSee6 : Hid (Calls Tryz.prog 20 #[.pointer (some ⟨a.kb, 0, none⟩), .int .i64 rn] (setSt WA W5.heap.size 0 s) fun e w' => ∃ ao m cap, e = .returned (.slice ao m cap) ∧ HdL w' (.slice ao m cap) hl ∧ StB w' W5.heap.size s ∧ Below W5.heap.size W5 w') := by
      have tk : KTouch [W5.heap.size] WA (setSt WA W5.heap.size 0 s) := setSt_touch WA (by simp) 0 s
      have hb6 : Below W5.heap.size W5 (setSt WA W5.heap.size 0 s) := hA0.trans (tk.below (by simp) hA0.size)
      have hsb6 : StB (setSt WA W5.heap.size 0 s) W5.heap.size s := by
        unfold StB setSt
        simp [World.setCell, Array.getElem?_modify, hbx]
      refine (HSee.out _ hb6).mono ?_
      rintro e w' ⟨ao, m, cap, rfl, h1, h2⟩
      exact ⟨ao, m, cap, rfl, h1, (h2.block _ (Array.getElem?_eq_some_iff.1 hsb6).1).trans hsb6, hb6.trans (h2.mono hb6.size)⟩
    clear hfz hsb0 c4 hn1 hn2
    go_cut [113] from 112 to 112 (fun s113 wx => s113 = .bool true ∧ wx = WA)
    case first =>
      go_wp2_with fail
      go_meet
      case rel => exact ⟨rfl, rfl⟩
    case rest =>
    obtain ⟨rfl, hwx⟩ := hcut
    rw [hwx]
    clear hwx
    go_step
    go_cut [20] from 114 to 123 (fun s20 wx => (∃ ao m cap, s20 = .slice ao m cap) ∧ HdL wx s20 hl ∧ StB wx W5.heap.size s ∧ Below W5.heap.size W5 wx)
    case first =>
      go_wp2_with (go_at_call 20; refine HSee6.out.mono ?_; rintro e w7 ⟨ao7, m7, cap7, rfl, hh7, hs7, b7⟩)
      go_meet
      case rel => exact ⟨⟨_, _, _, rfl⟩, hh7, hs7, b7⟩
    case rest =>
    obtain ⟨⟨ao7, m7, cap7, rfl⟩, hh7, hs7, b7⟩ := hcut
    generalize wc = W7 at *
    clear z0 z1 z2 z3 z4 z5 z6 z7 y0 y1 y2 y3 y4 y5 y6 y7 s0 s1 s2 s3 s4 s5 s6 s7 d4 HSee6 HSee hbx hA0 k0 k1 k2 k3
    have hx7 := hx.step b7
    have k0 := hx7.c0
    have k1 := hx7.c1
    have k2 := hx7.c2
    have k3 := hx7.c3
    go_upto_region 32 with (go_at_call 21; refine (HOf.out W7 b7).mono ?_; rintro e w8 ⟨ao8, m8, cap8, rfl, hh8, b8⟩)
    have hA8 : Below w8.heap.size w8 (w8.alloc (.cells #[.int .i64 s.p, .int .i64 (s.c 0), .int .i64 (s.c 1), .int .i64 (s.c 2), .int .i64 (s.c 3), .int .i64 (s.c 4), .int .i64 (s.c 5), .bool s.f] 46)) := (Below.refl _ _).alloc (Nat.le_refl _) _
    have hsn : StB (w8.alloc (.cells #[.int .i64 s.p, .int .i64 (s.c 0), .int .i64 (s.c 1), .int .i64 (s.c 2), .int .i64 (s.c 3), .int .i64 (s.c 4), .int .i64 (s.c 5), .bool s.f] 46)) w8.heap.size s := World.alloc_heap_new _ _
    have b9 := b8.trans (hA8.mono b8.size)
    have hso : StB (w8.alloc (.cells #[.int .i64 s.p, .int .i64 (s.c 0), .int .i64 (s.c 1), .int .i64 (s.c 2), .int .i64 (s.c 3), .int .i64 (s.c 4), .int .i64 (s.c 5), .bool s.f] 46)) W5.heap.size s := (b9.block _ (Array.getElem?_eq_some_iff.1 hs7).1).trans hs7
    have hh7' := hh7.all b9
    have hh8' := hh8.all hA8
    have hx9 := hx7.step b9
    clear k0 k1 k2 k3 hh7 hh8 hs7
    generalize w8.alloc (.cells #[.int .i64 s.p, .int .i64 (s.c 0), .int .i64 (s.c 1), .int .i64 (s.c 2), .int .i64 (s.c 3), .int .i64 (s.c 4), .int .i64 (s.c 5), .bool s.f] 46) = W9 at *
    generalize w8.heap.size = nb at hsn ⊢
    have HE9 := HE0.out W9 hx9.below
    have HE9' : Hid (Calls Tryz.prog 7 #[.nilIface, .int .i64 0] W9 fun r w' => r = .returned (.bool true) ∧ Below W9.heap.size W9 w') := HE9
    clear HE9
    have hnbl := (Array.getElem?_eq_some_iff.1 hsn).1
    have hobl := (Array.getElem?_eq_some_iff.1 hso).1
    go_wp2_with (first
      | (go_at_call 7; refine HE9'.out.mono ?_; rintro e w10 ⟨rfl, b10⟩; have hsn' : StB w10 nb s := (b10.block _ hnbl).trans hsn; have hso' : StB w10 W5.heap.size s := (b10.block _ hobl).trans hso; obtain ⟨n0, n1, n2, n3, n4, n5, n6, n7⟩ := hsn'.cs; obtain ⟨o0, o1, o2, o3, o4, o5, o6, o7⟩ := hso'.cs; simp only [Nat.zero_add] at n1 n2 n3 n4 n5 n6 n7 o1 o2 o3 o4 o5 o6 o7; have q11 := HHd.out w10 _ _ (hh8'.all b10) (hh7'.all b10))
      | (go_at_call 22; refine q11.mono ?_; rintro e w11 ⟨rfl, b11⟩; clear q11))
    go_ret
    exact ⟨rfl, (hx9.step (b10.trans (b11.mono b10.size))).below⟩
  · have hno : noRoom k r = true := by
      unfold noRoom
      rw [Bool.or_eq_true, hrl]
      by_cases h : r < 0
      · exact Or.inl (decide_eq_true h)
      · exact Or.inr (decide_eq_true (by omega))
    have hrk : roomK k r = stNew := by
      unfold roomK
      rw [if_pos hno]
    have HOf : Hid (∀ W, Below W5.heap.size W5 W → Calls Tryz.prog 21 #[.pointer (some ⟨kb, 0, none⟩), .agg #[.slice ca p.code.length cc, .int .i64 p.ticks, .slice sa p.spans.length sc, .slice wa p.wires.length wc'], .int .i64 r] W fun e w' => ∃ ao cap, e = .returned (.tuple #[.agg #[.int .i64 0, .int .i64 0, .int .i64 0, .int .i64 0, .int .i64 0, .int .i64 0, .int .i64 0, .bool false], .slice ao 0 cap, .iface 95 (.int .i64 1)]) ∧ Below W.heap.size W w') := fun W hb => by
      have h1 := O (.slice ca p.code.length cc) (.slice sa p.spans.length sc) (.slice wa p.wires.length wc') r HG1.out (C.frame hTw.K (KTouch.of (M := []) hb) (by simp)) hTw.ok hp (HP.out.all (hx.step hb).below)
      refine h1.mono ?_
      rintro e w' ⟨v, rfl, h2, h3⟩
      rw [hno, if_pos rfl] at h2
      obtain ⟨ao, cap, rfl⟩ := h2.form
      rw [hno, hrk]
      exact ⟨_, _, rfl, h3⟩
    have hgd := guardSt
    have hnq := eql_st 0 0 0 0 0 0 0 false
    go_upto_region 24 with fail
    go_cut [111] from 103 to 110 (fun s111 wx => s111 = .bool true ∧ wx = W5)
    case first =>
      by_cases h1 : r < 0
      · go_wp2_with fail
        go_meet
        case rel => exact ⟨rfl, rfl⟩
      · have h1' : decide (r < 0) = false := decide_eq_false h1
        have h2 : (p.code.length : Int) ≤ r := by omega
        go_wp2_with fail
        go_meet
        case rel => exact ⟨rfl, rfl⟩
    case rest =>
    obtain ⟨rfl, hwx⟩ := hcut
    rw [hwx]
    clear hwx hTw hno hrk
    go_upto_region 31 with fail
    have hA0 : Below W5.heap.size W5 (W5.alloc (.cells #[.int .i64 0, .int .i64 0, .int .i64 0, .int .i64 0, .int .i64 0, .int .i64 0, .int .i64 0, .bool false] 46)) := (Below.refl _ _).alloc (Nat.le_refl _) _
    have hso : StB (W5.alloc (.cells #[.int .i64 0, .int .i64 0, .int .i64 0, .int .i64 0, .int .i64 0, .int .i64 0, .int .i64 0, .bool false] 46)) W5.heap.size stNew := World.alloc_heap_new _ _
    have hx7 := hx.step hA0
    clear k0 k1 k2 k3
    generalize W5.alloc (.cells #[.int .i64 0, .int .i64 0, .int .i64 0, .int .i64 0, .int .i64 0, .int .i64 0, .int .i64 0, .bool false] 46) = W7 at *
    have k0 := hx7.c0
    have k1 := hx7.c1
    have k2 := hx7.c2
    have k3 := hx7.c3
    go_upto_region 32 with (go_at_call 21; refine (HOf.out W7 hA0).mono ?_; rintro e w8 ⟨ao8, cap8, rfl, b8⟩)
    have hA8 : Below w8.heap.size w8 (w8.alloc (.cells #[.int .i64 0, .int .i64 0, .int .i64 0, .int .i64 0, .int .i64 0, .int .i64 0, .int .i64 0, .bool false] 46)) := (Below.refl _ _).alloc (Nat.le_refl _) _
    have hsn : StB (w8.alloc (.cells #[.int .i64 0, .int .i64 0, .int .i64 0, .int .i64 0, .int .i64 0, .int .i64 0, .int .i64 0, .bool false] 46)) w8.heap.size stNew := World.alloc_heap_new _ _
    have b9 := b8.trans (hA8.mono b8.size)
    have hso9 : StB (w8.alloc (.cells #[.int .i64 0, .int .i64 0, .int .i64 0, .int .i64 0, .int .i64 0, .int .i64 0, .int .i64 0, .bool false] 46)) W5.heap.size stNew := (b9.block _ (Array.getElem?_eq_some_iff.1 hso).1).trans hso
    have hx9 := hx7.step b9
    clear k0 k1 k2 k3 hso
    generalize w8.alloc (.cells #[.int .i64 0, .int .i64 0, .int .i64 0, .int .i64 0, .int .i64 0, .int .i64 0, .int .i64 0, .bool false] 46) = W9 at *
    generalize w8.heap.size = nb at hsn ⊢
    have HE9' : Hid (Calls Tryz.prog 7 #[.iface 95 (.int .i64 1), .int .i64 1] W9 fun r w' => r = .returned (.bool true) ∧ Below W9.heap.size W9 w') := HE1.out W9 hx9.below
    have hnbl := (Array.getElem?_eq_some_iff.1 hsn).1
    have hobl := (Array.getElem?_eq_some_iff.1 hso9).1
    go_wp2_with (first
      | (go_at_call 7; refine HE9'.out.mono ?_; rintro e w10 ⟨rfl, b10⟩; have hsn' : StB w10 nb stNew := (b10.block _ hnbl).trans hsn; have hso' : StB w10 W5.heap.size stNew := (b10.block _ hobl).trans hso9; obtain ⟨n0, n1, n2, n3, n4, n5, n6, n7⟩ := hsn'.cs; obtain ⟨o0, o1, o2, o3, o4, o5, o6, o7⟩ := hso'.cs; simp only [Nat.zero_add, stNew] at n0 n1 n2 n3 n4 n5 n6 n7 o0 o1 o2 o3 o4 o5 o6 o7; have q11 := helds2_nil ao8 none cap8 0 w10)
      | (go_at_call 22; refine q11.mono ?_; rintro e w11 ⟨rfl, b11⟩; clear q11))
    go_ret
    exact ⟨rfl, (hx9.step (b10.trans (b11.mono b10.size))).below⟩
end Go.Proofs.YtfconbblnmbnpadGreatDoor

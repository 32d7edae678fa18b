/-
  The law CarePlays: the walk, under what package care does.
-/
import Derived.Test.YteoemcekkcnplafGreatDoorCPlays0
import Derived.Test.YteoemcekkcnplafGreatDoorJf1
import Derived.Test.YteoemcekkcnplafGreatDoorJf2
import Derived.Deep.CutRange
import Derived.Deep.RegionWith
import Derived.Deep.RegionHeld3
import Derived.BigQuiet
import Derived.RangeFuncNested
namespace Go.Proofs.YteoemcekkcnplafGreatDoor
open Go.RowKit

theorem pokeK_time' (k : KD) (r c n : Int) : (pokeK k r c n).time = k.time := by unfold pokeK; split <;> rfl
theorem tickC_time (p : PD) (what : List Int) (most : Int) (d : CD) : (tickC p what most d).k.time = d.k.time + 1 := by
  unfold tickC
  rw [tick_time, help_time]
theorem KF_ge {w : World} {base : Nat} {p : PD} {vc vs vw : Value} {k : KD} {a : KW} (hR : RK w base p vc vs vw k a) (hlr : base ≤ a.lr) : ∀ g ∈ KF a, base ≤ g := fun g hm => by
  unfold KF at hm
  simp only [List.mem_cons, List.mem_append, List.mem_filterMap] at hm
  rcases hm with h1 | h1 | h1 | h1 | ⟨u, h1, h2⟩
  · have := hR.ge.1; omega
  · have := hR.ge.2.1; omega
  · omega
  · exact hR.ge.2.2 g h1
  · have := (hR.rows u h1 g h2).1
    have := hR.lt.1
    have := hR.ge.1
    omega
theorem made_ints (n : Nat) (hn : n ≤ 5) (W : World) : (Instr.makeSlice 27 (.int .i64 n) (.int .i64 n)).run Tryz.prog W = .ok (.slice (some ⟨W.heap.size, 0, none⟩) n n) (W.alloc (.cells (madeCells #[.int .i64 0] n) 3)) := by
  obtain ⟨i, hi, hz⟩ : ∃ i, Tryz.prog.info? 3 = some i ∧ (i.zero, i.size, i.bytes) = (some (.int .i64 0), 1, 8) := by
    have : (Tryz.prog.info? 3).map (fun i => (i.zero, i.size, i.bytes)) = some (some (.int .i64 0), 1, 8) := by kernel_rfl
    cases hq : Tryz.prog.info? 3 with
    | none => rw [hq] at this; cases this
    | some i => rw [hq] at this; exact ⟨i, rfl, Option.some.inj this⟩
  simp only [Prod.mk.injEq] at hz
  obtain ⟨hz1, hz2, hz3⟩ := hz
  have := run_make (P := Tryz.prog) W 27 3 i _ (by kernel_rfl) hi hz1 .i64 .i64 n n (by omega) (Int.le_refl _) (by rw [hz3]; omega) (by omega)
  rw [hz2] at this
  simpa [Value.cells] using this
/-- A new one of the document's. -/
theorem rc_new {w W : World} {base : Nat} {p : PD} {vc vs vw wv : Value} {most : Int} {a : KW} {tb : Nat} (hR : RK W base p vc vs vw (newK p) a) (hT : W.heap[tb]? = some (.cells (madeCells #[.int .i64 0] p.code.length) 3 (0, 0))) (htb : base ≤ tb) (hTK : tb ∉ KF a) (hw : w = W.alloc (.cells #[.pointer (some ⟨a.kb, 0, none⟩), wv, .int .i64 most, .slice (some ⟨tb, 0, none⟩) p.code.length p.code.length] 39)) (hb : base ≤ W.heap.size) : RC w base p vc vs vw wv most (newC p) a W.heap.size tb p.code.length := by
  subst hw
  have htl : tb < W.heap.size := (Array.getElem?_eq_some_iff.1 hT).1
  have hB : Below W.heap.size W (W.alloc (.cells #[.pointer (some ⟨a.kb, 0, none⟩), wv, .int .i64 most, .slice (some ⟨tb, 0, none⟩) p.code.length p.code.length] 39)) := (Below.refl _ _).alloc (Nat.le_refl _) _
  have hN := World.alloc_heap_new W (.cells #[.pointer (some ⟨a.kb, 0, none⟩), wv, .int .i64 most, .slice (some ⟨tb, 0, none⟩) p.code.length p.code.length] 39)
  have hT' := (hB.block tb htl).trans hT
  have hln : (newC p).ts.length = p.code.length := by simp [newC]
  obtain ⟨n0, n1, n2, n3, _⟩ := blk4_cs hN
  refine ⟨hR.all hB, n0, n1, n2, by rw [hln]; exact n3, fun i t hi => ?_, fun o => by simp [World.frozen?, hT'], ⟨hb, htb⟩, ⟨by simp, by simp; omega⟩, ⟨fun hm => ?_, hTK, by omega⟩⟩
  · have hil := (List.getElem?_eq_some_iff.1 hi).1
    rw [hln] at hil
    have ht0 : t = 0 := by
      unfold newC at hi
      simp only [List.getElem?_map] at hi
      obtain ⟨_, _, rfl⟩ := Option.map_eq_some_iff.1 hi
      rfl
    subst ht0
    simp [World.cell?, hT', madeCells, hil, Nat.mod_one]
  · have := hR.flt _ hm
    omega
set_option maxRecDepth 1000000 in
set_option maxHeartbeats 8000000 in
theorem cplays_no {G : World → Prop} (C : CarC G) (hE : ∀ (e : Int) (W : World), G W → Calls Tryz.prog 6 #[wErr e, .int .i64 e] W fun r w' => r = .returned (.bool true) ∧ Below W.heap.size W w')
    (hR : ∀ (p : PD) (vc vs vw : Value) (W : World), Pln W vc vs vw p → Calls Tryz.prog 4 #[plV vc p.ticks vs vw] W fun e w' => e = .returned (.int .i64 (plchk p)) ∧ Below W.heap.size W w')
    (p : PD) (vc vs vw wv : Value) (what : List Int) (most n r : Int) (w : World) (hG : G w) (hP : Pln w vc vs vw p) (hW : Stp w wv what) (hc : carE p what most ≠ 0) :
    Calls Tryz.prog 3 #[plV vc p.ticks vs vw, wv, .int .i64 most, .int .i64 n, .int .i64 r] w fun e w' => e = .returned (.bool true) ∧ Below w.heap.size w w' := by
  obtain ⟨ca, cc, rfl⟩ := hP.code.form
  obtain ⟨sa, sc, rfl⟩ := hP.spans.form
  obtain ⟨wa, wc', rfl⟩ := hP.wires.form
  obtain ⟨oa, oc, rfl⟩ := hW.form
  have hx0 := Bx.first w (.slice ca p.code.length cc) p.ticks (.slice sa p.spans.length sc) (.slice wa p.wires.length wc')
  have HP : Hid (Pln w (.slice ca p.code.length cc) (.slice sa p.spans.length sc) (.slice wa p.wires.length wc') p) := hP
  have HG : Hid (∀ W, Below w.heap.size w W → G W) := fun W hb => C.all w W hG hb
  have HE : Hid (∀ (e : Int) (W : World), G W → Calls Tryz.prog 6 #[wErr e, .int .i64 e] W fun r w' => r = .returned (.bool true) ∧ Below W.heap.size W w') := hE
  have q1 := hR p _ _ _ _ (hP.all hx0.below)
  have k0 := hx0.c0
  have k1 := hx0.c1
  have k2 := hx0.c2
  have k3 := hx0.c3
  unfold plV at q1
  unfold plV
  have HN : Hid (∀ W, Below w.heap.size w W → Calls Tryz.prog 5 #[.agg #[.slice ca p.code.length cc, .int .i64 p.ticks, .slice sa p.spans.length sc, .slice wa p.wires.length wc'], .slice oa what.length oc, .int .i64 most] W fun e w' => ∃ x, e = .returned (.tuple #[.pointer x, .iface 70 (.int .i64 (carE p what most))]) ∧ Below W.heap.size W w') := fun W hb => by
    have := C.no p _ _ _ _ what most W (HG.out W hb) (hP.all hb) (hW.every hb) hc
    rw [wErr_not hc] at this
    exact this
  have HE2 : Hid (∀ W, Below w.heap.size w W → Calls Tryz.prog 6 #[.iface 70 (.int .i64 (carE p what most)), .int .i64 (carE p what most)] W fun r w' => r = .returned (.bool true) ∧ Below W.heap.size W w') := fun W hb => by
    have := HE.out (carE p what most) W (HG.out W hb)
    rw [wErr_not hc] at this
    exact this
  have HC : Hid (carE p what most ≠ 0) := hc
  have HW : Hid (Stp w (.slice oa what.length oc) what) := hW
  clear hP hG hE hR hc hW
  by_cases hp : plchk p = 0
  case neg =>
    have hz : carE p what most = plchk p := by
      unfold carE
      rw [if_neg hp]
    rw [hz] at HN HE2
    have hpb : (plchk p == 0) = false := by simpa using hp
    have hpn : (plchk p != 0) = true := by simpa using hp
    generalize plchk p = z at q1 HN HE2 hp hpb hpn
    clear hz HC HW
    cases hwn : what.length with
    | zero =>
      rw [hwn] at HN
      clear hwn
      go_enter Tryz.func3, Tryz.ntmps3
      go_wp2_with (go_at_call 4; refine q1.mono ?_; rintro e w1 ⟨rfl, b1⟩; clear q1 k0 k1 k2 k3; have hx1 := hx0.step b1; have k0 := hx1.c0; have k1 := hx1.c1; have k2 := hx1.c2; have k3 := hx1.c3)
      refine wp_loop_rounds 1 ?_
      rw [rounds_succ]
      have q2 := HN.out w1 hx1.below
      go_wp2_with (first
        | (go_at_call 5; refine q2.mono ?_; rintro e w2 ⟨xp, rfl, b2⟩; clear q2; have hx2 := hx1.step b2; have q3 := HE2.out w2 hx2.below)
        | (go_at_call 6; refine q3.mono ?_; rintro e w3 ⟨rfl, b3⟩; clear q3))
      go_ret
      exact ⟨rfl, hx2.below.trans (b3.mono hx2.below.size)⟩
    | succ m =>
      rw [hwn] at HN
      clear hwn
      have hm0 : (0 : Int) < ((m + 1 : Nat) : Int) := by omega
      go_enter Tryz.func3, Tryz.ntmps3
      go_wp2_with (go_at_call 4; refine q1.mono ?_; rintro e w1 ⟨rfl, b1⟩; clear q1 k0 k1 k2 k3; have hx1 := hx0.step b1; have k0 := hx1.c0; have k1 := hx1.c1; have k2 := hx1.c2; have k3 := hx1.c3)
      refine wp_loop_rounds 1 ?_
      rw [rounds_succ]
      have q2 := HN.out w1 hx1.below
      go_wp2_with (first
        | (go_at_call 5; refine q2.mono ?_; rintro e w2 ⟨xp, rfl, b2⟩; clear q2; have hx2 := hx1.step b2; have q3 := HE2.out w2 hx2.below)
        | (go_at_call 6; refine q3.mono ?_; rintro e w3 ⟨rfl, b3⟩; clear q3))
      go_ret
      exact ⟨rfl, hx2.below.trans (b3.mono hx2.below.size)⟩
  rw [hp] at q1
  by_cases hwl : what.length = p.code.length
  case neg =>
    have hz : carE p what most = 3 := by
      unfold carE
      rw [if_pos hp, if_neg hwl]
    rw [hz] at HN HE2
    have hl1 : ((what.length : Int) != (p.code.length : Int)) = true := by
      simp only [bne_iff_ne, ne_eq]
      omega
    have hl2 : (what.length == p.code.length) = false := by simpa using hwl
    have hl3 : (what.length != p.code.length) = true := by simpa using hwl
    clear hz HC HW hwl hp
    cases hwn : what.length with
    | zero =>
      rw [hwn] at HN hl1 hl2 hl3
      clear hwn
      go_enter Tryz.func3, Tryz.ntmps3
      go_wp2_with (go_at_call 4; refine q1.mono ?_; rintro e w1 ⟨rfl, b1⟩; clear q1 k0 k1 k2 k3; have hx1 := hx0.step b1; have k0 := hx1.c0; have k1 := hx1.c1; have k2 := hx1.c2; have k3 := hx1.c3)
      refine wp_loop_rounds 1 ?_
      rw [rounds_succ]
      have q2 := HN.out w1 hx1.below
      go_wp2_with (first
        | (go_at_call 5; refine q2.mono ?_; rintro e w2 ⟨xp, rfl, b2⟩; clear q2; have hx2 := hx1.step b2; have q3 := HE2.out w2 hx2.below)
        | (go_at_call 6; refine q3.mono ?_; rintro e w3 ⟨rfl, b3⟩; clear q3))
      go_ret
      exact ⟨rfl, hx2.below.trans (b3.mono hx2.below.size)⟩
    | succ m =>
      rw [hwn] at HN hl1 hl2 hl3
      clear hwn
      have hm0 : (0 : Int) < ((m + 1 : Nat) : Int) := by omega
      go_enter Tryz.func3, Tryz.ntmps3
      go_wp2_with (go_at_call 4; refine q1.mono ?_; rintro e w1 ⟨rfl, b1⟩; clear q1 k0 k1 k2 k3; have hx1 := hx0.step b1; have k0 := hx1.c0; have k1 := hx1.c1; have k2 := hx1.c2; have k3 := hx1.c3)
      refine wp_loop_rounds 1 ?_
      rw [rounds_succ]
      have q2 := HN.out w1 hx1.below
      go_wp2_with (first
        | (go_at_call 5; refine q2.mono ?_; rintro e w2 ⟨xp, rfl, b2⟩; clear q2; have hx2 := hx1.step b2; have q3 := HE2.out w2 hx2.below)
        | (go_at_call 6; refine q3.mono ?_; rintro e w3 ⟨rfl, b3⟩; clear q3))
      go_ret
      exact ⟨rfl, hx2.below.trans (b3.mono hx2.below.size)⟩
  have hz : carE p what most = 1 := by
    have := HC.out
    unfold carE at this ⊢
    rw [if_pos hp, if_pos hwl] at this ⊢
    split
    · rfl
    · rename_i h1
      rw [if_neg h1] at this
      split
      · rfl
      · rename_i h2
        rw [if_neg h2] at this
        exact absurd rfl this
  have HZ : Hid (what.any ruleOut = false → most < 0 ∨ 100 < most) := fun ha => by
    have := HC.out
    unfold carE at this
    rw [if_pos hp, if_pos hwl, if_neg (by rw [ha]; decide)] at this
    rcases Classical.em (most < 0 ∨ 100 < most) with h | h
    · exact h
    · rw [if_neg h] at this
      exact absurd rfl this
  rw [hz] at HN HE2
  have hc5 : p.code.length ≤ 5 := (plchk_zero hp).1
  rw [hwl] at HN HW
  have HWL : Hid (what.length = p.code.length) := hwl
  rw [hwl]
  clear hz HC hwl hp
  go_enter Tryz.func3, Tryz.ntmps3
  go_wp2_with (go_at_call 4; refine q1.mono ?_; rintro e w1 ⟨rfl, b1⟩; clear q1 k0 k1 k2 k3; have hx1 := hx0.step b1; have k0 := hx1.c0; have k1 := hx1.c1; have k2 := hx1.c2; have k3 := hx1.c3)
  go_loopw [11, 12] (fun s11 s12 wr => ∃ (k : Nat) (z : Int), k ≤ p.code.length ∧ s12 = .int .i64 k ∧ s11 = .int .i64 z ∧ ((z = 0 ∧ ∀ (j : Nat) y, j < k → what[j]? = some y → ruleOut y = false) ∨ (z = 1 ∧ what.any ruleOut = true)) ∧ wr = w1) (fun _ s12 _ => p.code.length - (intOf s12).toNat)
  case atStart => exact ⟨0, 0, Nat.zero_le _, rfl, rfl, Or.inl ⟨rfl, fun j y hj => by omega⟩, rfl⟩
  case round =>
  obtain ⟨k, z, hk, rfl, rfl, hzz, hwr⟩ := hrel
  rw [hwr]
  clear hwr wr
  have q2 := HN.out w1 hx1.below
  rcases hzz with ⟨rfl, hall⟩ | ⟨rfl, hany⟩
  · have HA : Hid (∀ (j : Nat) y, j < k → what[j]? = some y → ruleOut y = false) := hall
    clear hall
    by_cases hkl : k < p.code.length
    · have hki : (k : Int) < (p.code.length : Int) := by omega
      obtain ⟨b, off, x, rfl, hcx, hx⟩ : ∃ b off x, oa = some ⟨b, off, none⟩ ∧ w1.cell? ⟨b, off + k, none⟩ = some (.int .i64 x) ∧ what[k]? = some x := by
        have h := HW.out
        rw [← HWL.out] at h
        exact h.at hx1.below (by rw [HWL.out]; exact hkl)
      have HX : Hid (what[k]? = some x) := hx
      clear hx
      by_cases h1 : x < 0
      · have h1' : decide (x < 0) = true := decide_eq_true h1
        have HY : Hid (what.any ruleOut = true) := any_hit HX.out (by simp [ruleOut, h1])
        clear h1
        go_wp2
        go_roundw
        case rel => exact ⟨k + 1, 1, by omega, by go_num, rfl, Or.inr ⟨rfl, HY.out⟩, by trivial⟩
        case measure => simp [intOf]; omega
      · have h1' : decide (x < 0) = false := decide_eq_false h1
        by_cases h2 : 2 < x
        · have h2' : decide (2 < x) = true := decide_eq_true h2
          have HY : Hid (what.any ruleOut = true) := any_hit HX.out (by simp [ruleOut, h2])
          clear h1 h2
          go_wp2
          go_roundw
          case rel => exact ⟨k + 1, 1, by omega, by go_num, rfl, Or.inr ⟨rfl, HY.out⟩, by trivial⟩
          case measure => simp [intOf]; omega
        · have h2' : decide (2 < x) = false := decide_eq_false h2
          have HY : Hid (ruleOut x = false) := by
            show _ = _
            unfold ruleOut
            rw [h1', h2']
            rfl
          clear h1 h2
          go_wp2
          go_roundw
          case rel => exact ⟨k + 1, 0, by omega, by go_num, rfl, Or.inl ⟨rfl, upto_next HA.out HX.out HY.out⟩, by trivial⟩
          case measure => simp [intOf]; omega
    · obtain rfl : k = p.code.length := by omega
      have hki : decide ((p.code.length : Int) < (p.code.length : Int)) = false := decide_eq_false (by omega)
      have ha : what.any ruleOut = false := any_false (fun j y hj hy => HA.out j y (by rw [← HWL.out]; exact hj) hy)
      rcases HZ.out ha with h1 | h1
      · have h1' : decide (most < 0) = true := decide_eq_true h1
        clear h1 ha HZ
        go_wp2_with (first
          | (go_at_call 5; refine q2.mono ?_; rintro e w2 ⟨xp, rfl, b2⟩; clear q2; have hx2 := hx1.step b2; have q3 := HE2.out w2 hx2.below)
          | (go_at_call 6; refine q3.mono ?_; rintro e w3 ⟨rfl, b3⟩; clear q3))
        go_ret
        exact ⟨rfl, hx2.below.trans (b3.mono hx2.below.size)⟩
      · have h1' : decide (100 < most) = true := decide_eq_true h1
        have h2' : decide (most < 0) = false := decide_eq_false (by omega)
        clear h1 ha HZ
        go_wp2_with (first
          | (go_at_call 5; refine q2.mono ?_; rintro e w2 ⟨xp, rfl, b2⟩; clear q2; have hx2 := hx1.step b2; have q3 := HE2.out w2 hx2.below)
          | (go_at_call 6; refine q3.mono ?_; rintro e w3 ⟨rfl, b3⟩; clear q3))
        go_ret
        exact ⟨rfl, hx2.below.trans (b3.mono hx2.below.size)⟩
  · clear hany
    by_cases hkl : k < p.code.length
    · have hki : (k : Int) < (p.code.length : Int) := by omega
      go_wp2_with (first
        | (go_at_call 5; refine q2.mono ?_; rintro e w2 ⟨xp, rfl, b2⟩; clear q2; have hx2 := hx1.step b2; have q3 := HE2.out w2 hx2.below)
        | (go_at_call 6; refine q3.mono ?_; rintro e w3 ⟨rfl, b3⟩; clear q3))
      go_ret
      exact ⟨rfl, hx2.below.trans (b3.mono hx2.below.size)⟩
    · obtain rfl : k = p.code.length := by omega
      have hki : decide ((p.code.length : Int) < (p.code.length : Int)) = false := decide_eq_false (by omega)
      go_wp2_with (first
        | (go_at_call 5; refine q2.mono ?_; rintro e w2 ⟨xp, rfl, b2⟩; clear q2; have hx2 := hx1.step b2; have q3 := HE2.out w2 hx2.below)
        | (go_at_call 6; refine q3.mono ?_; rintro e w3 ⟨rfl, b3⟩; clear q3))
      go_ret
      exact ⟨rfl, hx2.below.trans (b3.mono hx2.below.size)⟩
set_option maxRecDepth 1000000 in
set_option maxHeartbeats 16000000 in
theorem cplays_ok {G : World → Prop} (C : CarC G) (CP : CarPoke C) (hE : ∀ (e : Int) (W : World), G W → Calls Tryz.prog 6 #[wErr e, .int .i64 e] W fun r w' => r = .returned (.bool true) ∧ Below W.heap.size W w')
    (hR : ∀ (p : PD) (vc vs vw : Value) (W : World), Pln W vc vs vw p → Calls Tryz.prog 4 #[plV vc p.ticks vs vw] W fun e w' => e = .returned (.int .i64 (plchk p)) ∧ Below W.heap.size W w')
    (p : PD) (vc vs vw wv : Value) (what : List Int) (most n r : Int) (w : World) (hG : G w) (hP : Pln w vc vs vw p) (hW : Stp w wv what) (hc : carE p what most = 0) :
    Calls Tryz.prog 3 #[plV vc p.ticks vs vw, wv, .int .i64 most, .int .i64 n, .int .i64 r] w fun e w' => e = .returned (.bool true) ∧ Below w.heap.size w w' := by
  obtain ⟨ca, cc, rfl⟩ := hP.code.form
  obtain ⟨sa, sc, rfl⟩ := hP.spans.form
  obtain ⟨wa, wc', rfl⟩ := hP.wires.form
  obtain ⟨oa, oc, rfl⟩ := hW.form
  have hx0 := Bx.first w (.slice ca p.code.length cc) p.ticks (.slice sa p.spans.length sc) (.slice wa p.wires.length wc')
  have HP : Hid (Pln w (.slice ca p.code.length cc) (.slice sa p.spans.length sc) (.slice wa p.wires.length wc') p) := hP
  have HG : Hid (∀ W, Below w.heap.size w W → G W) := fun W hb => C.all w W hG hb
  have HE : Hid (∀ (e : Int) (W : World), G W → Calls Tryz.prog 6 #[wErr e, .int .i64 e] W fun r w' => r = .returned (.bool true) ∧ Below W.heap.size W w') := hE
  have q1 := hR p _ _ _ _ (hP.all hx0.below)
  have k0 := hx0.c0
  have k1 := hx0.c1
  have k2 := hx0.c2
  have k3 := hx0.c3
  unfold plV at q1
  unfold plV
  obtain ⟨hp, hwl, hwr, hm0, hm1⟩ := carE_zero hc
  have hc5 : p.code.length ≤ 5 := (plchk_zero hp).1
  rw [hwl] at hW
  rw [hp] at q1
  rw [hwl]
  have HN : Hid (∀ W, Below w.heap.size w W → Calls Tryz.prog 5 #[.agg #[.slice ca p.code.length cc, .int .i64 p.ticks, .slice sa p.spans.length sc, .slice wa p.wires.length wc'], .slice oa p.code.length oc, .int .i64 most] W fun e w' => ∃ cb F, e = .returned (.tuple #[.pointer (some ⟨cb, 0, none⟩), .nilIface]) ∧ C.K W w' p what most (newC p) cb F) := fun W hb => C.new p _ _ _ _ what most W (HG.out W hb) (hP.all hb) (hW.every hb) hc
  have HE2 : Hid (∀ W, Below w.heap.size w W → Calls Tryz.prog 6 #[.nilIface, .int .i64 0] W fun r w' => r = .returned (.bool true) ∧ Below W.heap.size W w') := fun W hb => HE.out 0 W (HG.out W hb)
  have HR : Hid (∀ W, Below w.heap.size w W → Calls Tryz.prog 7 #[.agg #[.slice ca p.code.length cc, .int .i64 p.ticks, .slice sa p.spans.length sc, .slice wa p.wires.length wc']] W fun e w' => ∃ a : KW, e = .returned (.pointer (some ⟨a.kb, 0, none⟩)) ∧ W.heap.size ≤ a.lr ∧ RK w' W.heap.size p (.slice ca p.code.length cc) (.slice sa p.spans.length sc) (.slice wa p.wires.length wc') (newK p) a ∧ Below W.heap.size W w') := fun W hb => newkernel_any p _ _ _ W hp (HP.out.all hb)
  have HW : Hid (Stp w (.slice oa p.code.length oc) what) := hW
  have HWL : Hid (what.length = p.code.length) := hwl
  have HWR : Hid (∀ n ∈ what, 0 ≤ n ∧ n ≤ 2) := hwr
  have hm0' : decide (most < 0) = false := decide_eq_false (by omega)
  have hm1' : decide (100 < most) = false := decide_eq_false (by omega)
  clear hP hG hE hR hW hwl hwr hm0 hm1
  go_enter Tryz.func3, Tryz.ntmps3
  go_wp2_with (go_at_call 4; refine q1.mono ?_; rintro e w1 ⟨rfl, b1⟩; clear q1 k0 k1 k2 k3; have hx1 := hx0.step b1; have k0 := hx1.c0; have k1 := hx1.c1; have k2 := hx1.c2; have k3 := hx1.c3)
  go_loopw [11, 12] (fun s11 s12 wr => ∃ k : Nat, k ≤ p.code.length ∧ s12 = .int .i64 k ∧ s11 = .int .i64 0 ∧ wr = w1) (fun _ s12 _ => p.code.length - (intOf s12).toNat)
  case atStart => exact ⟨0, Nat.zero_le _, rfl, rfl, rfl⟩
  case round =>
  obtain ⟨k, hk, rfl, rfl, hwr⟩ := hrel
  rw [hwr]
  clear hwr wr
  by_cases hkl : k < p.code.length
  case pos =>
    have hki : (k : Int) < (p.code.length : Int) := by omega
    obtain ⟨b, off, x, rfl, hcx, hx⟩ : ∃ b off x, oa = some ⟨b, off, none⟩ ∧ w1.cell? ⟨b, off + k, none⟩ = some (.int .i64 x) ∧ what[k]? = some x := by
      have h := HW.out
      rw [← HWL.out] at h
      exact h.at hx1.below (by rw [HWL.out]; exact hkl)
    obtain ⟨hx0', hx2'⟩ := HWR.out x (List.mem_of_getElem? hx)
    have h1' : decide (x < 0) = false := decide_eq_false (by omega)
    have h2' : decide (2 < x) = false := decide_eq_false (by omega)
    clear hx hx0' hx2'
    go_wp2
    go_roundw
    case rel => exact ⟨k + 1, by omega, by go_num, rfl, by trivial⟩
    case measure => simp [intOf]; omega
  obtain rfl : k = p.code.length := by omega
  have hki : decide ((p.code.length : Int) < (p.code.length : Int)) = false := decide_eq_false (by omega)
  have q2 := HN.out w1 hx1.below
  go_upto_region 15 with (first
    | (go_at_call 5; refine q2.mono ?_; rintro e w2 ⟨cb, F, rfl, hK⟩; clear q2 k0 k1 k2 k3; have hx2 := hx1.step (C.since hK); have q3 := HE2.out w2 hx2.below)
    | (go_at_call 6; refine q3.mono ?_; rintro e w3 ⟨rfl, b3⟩; clear q3; have hx3 := hx2.step b3))
  have HK : Hid (C.K w1 w2 p what most (newC p) cb F) := hK
  have hs1 := hx1.size
  have hs12 : w1.heap.size ≤ w2.heap.size := (C.since hK).size
  have hs23 := b3.size
  have HB3 : Hid (Below w2.heap.size w2 w3) := b3
  have HX1 : Hid (Bx w w1 (.slice ca p.code.length cc) p.ticks (.slice sa p.spans.length sc) (.slice wa p.wires.length wc')) := hx1
  have HG1 : Hid (G w1) := HG.out w1 hx1.below
  clear hK hx0 hx1 hx2 b3 hki hkl hk hm0' hm1' HN HE2
  go_cut [16] from 87 to 95 (fun s16 wx => ∃ (a : KW) (mb tb : Nat), s16 = .pointer (some ⟨mb, 0, none⟩) ∧ RC wx w3.heap.size p (.slice ca p.code.length cc) (.slice sa p.spans.length sc) (.slice wa p.wires.length wc') (.slice oa p.code.length oc) most (newC p) a mb tb p.code.length ∧ Below w3.heap.size w3 wx ∧ ∀ g ∈ KF a, w3.heap.size ≤ g)
  case first =>
    have hmk := made_ints p.code.length hc5
    have HQ : Hid (∀ W, Below w3.heap.size w3 W → W.cell? ⟨w.heap.size, 0, none⟩ = some (.slice ca p.code.length cc) ∧ W.cell? ⟨w.heap.size, 1, none⟩ = some (.int .i64 p.ticks) ∧ W.cell? ⟨w.heap.size, 2, none⟩ = some (.slice sa p.spans.length sc) ∧ W.cell? ⟨w.heap.size, 3, none⟩ = some (.slice wa p.wires.length wc')) := fun W hb => ⟨(hx3.step hb).c0, (hx3.step hb).c1, (hx3.step hb).c2, (hx3.step hb).c3⟩
    have HR3 : Hid (∀ W, Below w3.heap.size w3 W → Calls Tryz.prog 7 #[.agg #[.slice ca p.code.length cc, .int .i64 p.ticks, .slice sa p.spans.length sc, .slice wa p.wires.length wc']] W fun e w' => ∃ a : KW, e = .returned (.pointer (some ⟨a.kb, 0, none⟩)) ∧ W.heap.size ≤ a.lr ∧ RK w' W.heap.size p (.slice ca p.code.length cc) (.slice sa p.spans.length sc) (.slice wa p.wires.length wc') (newK p) a ∧ Below W.heap.size W w') := fun W hb => HR.out W (hx3.step hb).below
    have bcur : Below w3.heap.size w3 w3.drew := (Below.refl _ _).drew
    refine wp_region_popped (fun W => W.cell? ⟨w.heap.size, 0, none⟩ = some (.slice ca p.code.length cc) ∧ W.cell? ⟨w.heap.size, 1, none⟩ = some (.int .i64 p.ticks) ∧ W.cell? ⟨w.heap.size, 2, none⟩ = some (.slice sa p.spans.length sc) ∧ W.cell? ⟨w.heap.size, 3, none⟩ = some (.slice wa p.wires.length wc')) (by kernel_rfl) rfl (by decide +kernel) (HQ.out _ bcur) (fun hHeld => ?_)
    simp only [List.pop_toArray, List.dropLast_cons_cons, List.dropLast_singleton, List.size_toArray, List.length_cons, List.length_nil, Nat.reduceAdd, Array.replicate_succ, Array.replicate_zero, List.push_toArray, List.nil_append, List.cons_append]
    refine wpAnyH_take (i := 0) (v := ?_) rfl (by decide +kernel) (by decide +kernel) (by decide +kernel) (fun _ _ _ h => h) (Or.inl ⟨by rfl, ?_⟩) (by assumption) ?_
    rotate_left
    · intro W hSw
      try dsimp only at hSw
      obtain ⟨hS0, hS1, hS2, hS3⟩ := hSw
      go_simp
      try with_reducible rfl
    simp only [Act.put, List.setIfInBounds_toArray, List.set_cons_zero]
    refine wpAnyH_take (i := 2) (v := ?_) rfl (by decide +kernel) (by decide +kernel) (by decide +kernel) (fun _ _ _ h => h) (Or.inl ⟨by rfl, ?_⟩) (by assumption) ?_
    rotate_left
    · intro W hSw
      try dsimp only at hSw
      obtain ⟨hS0, hS1, hS2, hS3⟩ := hSw
      go_simp
      try with_reducible rfl
    simp only [Act.put, List.setIfInBounds_toArray, List.set_cons_zero, List.set_cons_succ]
    refine wpAnyH_take (i := 3) (v := ?_) rfl (by decide +kernel) (by decide +kernel) (by decide +kernel) (fun _ _ _ h => h) (Or.inl ⟨by rfl, ?_⟩) (by assumption) ?_
    rotate_left
    · intro W hSw
      try dsimp only at hSw
      obtain ⟨hS0, hS1, hS2, hS3⟩ := hSw
      go_simp
      try with_reducible rfl
    simp only [Act.put, List.setIfInBounds_toArray, List.set_cons_zero, List.set_cons_succ]
    refine wpAnyH_take (i := 4) (v := ?_) rfl (by decide +kernel) (by decide +kernel) (by decide +kernel) (fun _ _ _ h => h) (Or.inl ⟨by rfl, ?_⟩) (by assumption) ?_
    rotate_left
    · intro W hSw
      try dsimp only at hSw
      obtain ⟨hS0, hS1, hS2, hS3⟩ := hSw
      go_simp
      try with_reducible rfl
    simp only [Act.put, List.setIfInBounds_toArray, List.set_cons_zero, List.set_cons_succ]
    refine wpAnyH_take (i := 5) (v := ?_) rfl (by decide +kernel) (by decide +kernel) (by decide +kernel) (fun _ _ _ h => h) (Or.inl ⟨by rfl, ?_⟩) (by assumption) ?_
    rotate_left
    · intro W hSw
      try dsimp only at hSw
      obtain ⟨hS0, hS1, hS2, hS3⟩ := hSw
      go_simp
      try with_reducible rfl
    simp only [Act.put, List.setIfInBounds_toArray, List.set_cons_zero, List.set_cons_succ]
    generalize w3.drew = wD at bcur hHeld ⊢
    refine wpAnyH_ready (rs := [1, 6]) (by decide +kernel) (by simp) ?_
    refine AllReadyH.cons (o := _) rfl (fun K hK => ?_) (AllReadyH.cons (o := _) rfl (fun K hK => ?_) AllReadyH.nil)
    · go_simp
      go_at_call 7
      refine (HR3.out _ bcur).mono ?_
      rintro e wN ⟨a, rfl, hlr, hRk, bN⟩
      have hKg := KF_ge hRk hlr
      have hsb := bcur.size
      replace hKg : ∀ g ∈ KF a, w3.heap.size ≤ g := fun g hg => Nat.le_trans hsb (hKg g hg)
      replace hRk := hRk.lower hsb
      clear hsb hlr
      replace bcur := bcur.trans (bN.mono bcur.size)
      clear bN
      go_wp2_with fail
      refine hK.out _ _ (HQ.out _ bcur) (fun hHeld => ?_)
      clear hK K
      simp only [List.setIfInBounds_toArray, List.set_cons_zero, List.set_cons_succ]
      refine wpAnyH_ready (rs := [6]) (by decide +kernel) (by simp) ?_
      refine AllReadyH.cons (o := _) rfl (fun K hK => ?_) AllReadyH.nil
      go_simp
      have bN : Below (wN).heap.size (wN) ((wN).alloc (.cells (madeCells #[.int .i64 0] p.code.length) 3)) := (Below.refl _ _).alloc (Nat.le_refl _) _
      have hT : ((wN).alloc (.cells (madeCells #[.int .i64 0] p.code.length) 3)).heap[(wN).heap.size]? = some (.cells (madeCells #[.int .i64 0] p.code.length) 3 (0, 0)) := World.alloc_heap_new _ _
      have htb : (wN).heap.size < ((wN).alloc (.cells (madeCells #[.int .i64 0] p.code.length) 3)).heap.size := by simp
      have htg : w3.heap.size ≤ (wN).heap.size := bcur.size
      have hTK : (wN).heap.size ∉ KF a := fun hm => by have := hRk.flt _ hm; omega
      replace hRk := hRk.all bN
      replace bcur := bcur.trans (bN.mono bcur.size)
      clear bN
      refine hK.out _ _ (HQ.out _ bcur) (fun hHeld => ?_)
      clear hK K
      simp only [List.setIfInBounds_toArray, List.set_cons_zero, List.set_cons_succ]
      generalize (wN).alloc (.cells (madeCells #[.int .i64 0] p.code.length) 3) = wMN at hT htb bcur hHeld hRk ⊢
      generalize (wN).heap.size = tb at hT htb htg hTK ⊢
      refine wpAnyH_take (i := 7) (v := ?_) rfl (by decide +kernel) (by decide +kernel) (by decide +kernel) (fun _ _ _ h => h) (Or.inl ⟨by rfl, ?_⟩) (by assumption) ?_
      rotate_left
      · intro W hSw
        try dsimp only at hSw
        obtain ⟨hS0, hS1, hS2, hS3⟩ := hSw
        go_simp
        try with_reducible rfl
      simp only [Act.put, List.setIfInBounds_toArray, List.set_cons_zero, List.set_cons_succ]
      refine wpAnyH_ready (rs := [8]) (by decide +kernel) (by simp) ?_
      refine AllReadyH.cons (o := _) rfl (fun K hK => ?_) AllReadyH.nil
      go_simp
      have hRC := rc_new (w := (wMN).alloc (.cells #[.pointer (some ⟨a.kb, 0, none⟩), .slice oa p.code.length oc, .int .i64 most, .slice (some ⟨tb, 0, none⟩) p.code.length p.code.length] 39)) (wv := .slice oa p.code.length oc) (most := most) hRk hT htg hTK rfl bcur.size
      have bB : Below w3.heap.size w3 ((wMN).alloc (.cells #[.pointer (some ⟨a.kb, 0, none⟩), .slice oa p.code.length oc, .int .i64 most, .slice (some ⟨tb, 0, none⟩) p.code.length p.code.length] 39)) := bcur.alloc bcur.size _
      refine hK.out _ _ (HQ.out _ bB) (fun hHeld => ?_)
      clear hK K
      simp only [List.setIfInBounds_toArray, List.set_cons_zero, List.set_cons_succ]
      refine wpAnyH_done (by decide +kernel) ?_ _
      show Oper.wp _ _ _ _ _ _
      go_simp
      go_wp2_with fail
      go_meet
      case rel => exact ⟨a, _, tb, rfl, hRC, bB, hKg⟩
    · go_simp
      have bN : Below (wD).heap.size (wD) ((wD).alloc (.cells (madeCells #[.int .i64 0] p.code.length) 3)) := (Below.refl _ _).alloc (Nat.le_refl _) _
      have hT : ((wD).alloc (.cells (madeCells #[.int .i64 0] p.code.length) 3)).heap[(wD).heap.size]? = some (.cells (madeCells #[.int .i64 0] p.code.length) 3 (0, 0)) := World.alloc_heap_new _ _
      have htb : (wD).heap.size < ((wD).alloc (.cells (madeCells #[.int .i64 0] p.code.length) 3)).heap.size := by simp
      have htg : w3.heap.size ≤ (wD).heap.size := bcur.size
      replace bcur := bcur.trans (bN.mono bcur.size)
      clear bN
      refine hK.out _ _ (HQ.out _ bcur) (fun hHeld => ?_)
      clear hK K
      simp only [List.setIfInBounds_toArray, List.set_cons_zero, List.set_cons_succ]
      generalize (wD).alloc (.cells (madeCells #[.int .i64 0] p.code.length) 3) = wM at hT htb bcur hHeld ⊢
      generalize (wD).heap.size = tb at hT htb htg ⊢
      refine wpAnyH_ready (rs := [1]) (by decide +kernel) (by simp) ?_
      refine AllReadyH.cons (o := _) rfl (fun K hK => ?_) AllReadyH.nil
      go_simp
      go_at_call 7
      refine (HR3.out _ bcur).mono ?_
      rintro e wNM ⟨a, rfl, hlr, hRk, bN⟩
      have hKg := KF_ge hRk hlr
      have hTK : tb ∉ KF a := fun hm => by have := hKg tb hm; omega
      replace hT := (bN.block tb htb).trans hT
      replace htb := Nat.lt_of_lt_of_le htb bN.size
      have hsb := bcur.size
      replace hKg : ∀ g ∈ KF a, w3.heap.size ≤ g := fun g hg => Nat.le_trans hsb (hKg g hg)
      replace hRk := hRk.lower hsb
      clear hsb hlr
      replace bcur := bcur.trans (bN.mono bcur.size)
      clear bN
      go_wp2_with fail
      refine hK.out _ _ (HQ.out _ bcur) (fun hHeld => ?_)
      clear hK K
      simp only [List.setIfInBounds_toArray, List.set_cons_zero, List.set_cons_succ]
      refine wpAnyH_take (i := 7) (v := ?_) rfl (by decide +kernel) (by decide +kernel) (by decide +kernel) (fun _ _ _ h => h) (Or.inl ⟨by rfl, ?_⟩) (by assumption) ?_
      rotate_left
      · intro W hSw
        try dsimp only at hSw
        obtain ⟨hS0, hS1, hS2, hS3⟩ := hSw
        go_simp
        try with_reducible rfl
      simp only [Act.put, List.setIfInBounds_toArray, List.set_cons_zero, List.set_cons_succ]
      refine wpAnyH_ready (rs := [8]) (by decide +kernel) (by simp) ?_
      refine AllReadyH.cons (o := _) rfl (fun K hK => ?_) AllReadyH.nil
      go_simp
      have hRC := rc_new (w := (wNM).alloc (.cells #[.pointer (some ⟨a.kb, 0, none⟩), .slice oa p.code.length oc, .int .i64 most, .slice (some ⟨tb, 0, none⟩) p.code.length p.code.length] 39)) (wv := .slice oa p.code.length oc) (most := most) hRk hT htg hTK rfl bcur.size
      have bB : Below w3.heap.size w3 ((wNM).alloc (.cells #[.pointer (some ⟨a.kb, 0, none⟩), .slice oa p.code.length oc, .int .i64 most, .slice (some ⟨tb, 0, none⟩) p.code.length p.code.length] 39)) := bcur.alloc bcur.size _
      refine hK.out _ _ (HQ.out _ bB) (fun hHeld => ?_)
      clear hK K
      simp only [List.setIfInBounds_toArray, List.set_cons_zero, List.set_cons_succ]
      refine wpAnyH_done (by decide +kernel) ?_ _
      show Oper.wp _ _ _ _ _ _
      go_simp
      go_wp2_with fail
      go_meet
      case rel => exact ⟨a, _, tb, rfl, hRC, bB, hKg⟩
  case rest =>
  obtain ⟨a, mb, tb, rfl, hRC, hbx, hKg⟩ := hcut
  generalize wc = w4 at *
  have hTw : TwoC C w1 w4 p (.slice ca p.code.length cc) (.slice sa p.spans.length sc) (.slice wa p.wires.length wc') (.slice oa p.code.length oc) what most (newC p) cb F a mb tb p.code.length := by
    have hb24 : Below w2.heap.size w2 w4 := HB3.out.trans (hbx.mono hs23)
    refine ⟨C.frame HK.out (KTouch.of (M := []) hb24) (by simp), ?_, fun g hg hm => ?_, newC_ok hc, HP.out.all HX1.out.below, HW.out.every HX1.out.below⟩
    · exact ⟨hRC.k.lower (by omega), hRC.c0, hRC.c1, hRC.c2, hRC.c3, hRC.ts, hRC.tf, ⟨by have := hRC.ge.1; omega, by have := hRC.ge.2; omega⟩, hRC.lt, hRC.ap⟩
    · have h1 := (C.ge HK.out g hg).2
      rcases List.mem_cons.1 hm with h2 | hm
      · have := hRC.ge.1
        omega
      · rcases List.mem_cons.1 hm with h2 | hm
        · have := hRC.ge.2
          omega
        · have := hKg g hm
          omega
  have hx4 := hx3.step hbx
  clear hRC hKg hbx hx3 HR HK HB3 HX1 hs12 hs23 HW HWL HWR
  go_wp2
  go_loopw [15, 17] (fun s15 s17 wr => ∃ (i : Nat) (d : CD) (F : List Nat) (a' : KW), i ≤ 120 ∧ s15 = .bool true ∧ s17 = .int .i64 i ∧ d.k.time ≤ i ∧ TwoC C w1 wr p (.slice ca p.code.length cc) (.slice sa p.spans.length sc) (.slice wa p.wires.length wc') (.slice oa p.code.length oc) what most d cb F a' mb tb p.code.length ∧ Bx w wr (.slice ca p.code.length cc) p.ticks (.slice sa p.spans.length sc) (.slice wa p.wires.length wc')) (fun _ s _ => 120 - (intOf s).toNat)
  case atStart => exact ⟨0, _, F, a, Nat.zero_le _, rfl, rfl, (by show (0 : Int) ≤ ((0 : Nat) : Int); omega), hTw, hx4⟩
  case round =>
  clear hTw hx4
  obtain ⟨i, d, F1, a1, hi, rfl, rfl, htm, hTw, hx⟩ := hrel
  by_cases hin : (i : Int) < n
  case neg =>
    have hin' : decide ((i : Int) < n) = false := decide_eq_false hin
    clear hTw
    go_wp2
    go_ret
    exact ⟨rfl, hx.below⟩
  have hin' : decide ((i : Int) < n) = true := decide_eq_true hin
  by_cases hi2 : i < 120
  case neg =>
    obtain rfl : i = 120 := by omega
    rw [show ((120 : Nat) : Int) = 120 from rfl] at hin hin' ⊢
    clear hTw
    go_wp2
    go_ret
    exact ⟨rfl, hx.below⟩
  have hi6 : (i : Int) < 120 := by omega
  rename World => wA
  go_upto_region 19 with fail
  go_cut [107] from 105 to 106 (fun s wx => s = .bool (decide ((i : Int) % 17 = 5)) ∧ wx = wA)
  case first =>
    by_cases h5 : (i : Int) % 17 = 5
    · have HX : Hid (decide ((i : Int) % 17 = 5) = true) := decide_eq_true h5
      have h5' : ((i : Int) % 17 == 5) = true := by simpa using h5
      clear h5
      go_wp2_with fail
      go_meet
      case rel => exact ⟨by rw [HX.out], rfl⟩
    · have HX : Hid (decide ((i : Int) % 17 = 5) = false) := decide_eq_false h5
      have h5' : ((i : Int) % 17 == 5) = false := by simpa using h5
      clear h5
      go_wp2_with fail
      go_meet
      case rel => exact ⟨by rw [HX.out], rfl⟩
  case rest =>
  obtain ⟨rfl, hwc⟩ := hcut
  rw [hwc]
  clear hwc wc
  go_step
  go_cut [15] from 107 to 123 (fun s15 wx => s15 = .bool true ∧ ∃ (d' : CD) (F' : List Nat), d'.k.time ≤ i ∧ TwoC C w1 wx p (.slice ca p.code.length cc) (.slice sa p.spans.length sc) (.slice wa p.wires.length wc') (.slice oa p.code.length oc) what most d' cb F' a1 mb tb p.code.length ∧ Bx w wx (.slice ca p.code.length cc) p.ticks (.slice sa p.spans.length sc) (.slice wa p.wires.length wc'))
  case first =>
    by_cases h5 : (i : Int) % 17 = 5
    · rw [show decide ((i : Int) % 17 = 5) = true from decide_eq_true h5]
      clear h5
      have hTd := hTw.all (Below.refl _ wA).drew
      have q1 := two_cpoke CP hc r ((i : Int) % 7) (i : Int) hTd
      have hS := hTd.R.c0
      have hmbF : mb ∉ F1 := fun hm => (hTw.apart mb hm).1 rfl
      have hmbl : mb < wA.drew.heap.size := hTd.R.lt.1
      have HBw : Hid (∀ w' F2, WentC C w1 wA.drew w' p (.slice ca p.code.length cc) (.slice sa p.spans.length sc) (.slice wa p.wires.length wc') (.slice oa p.code.length oc) what most ⟨pokeK d.k r ((i : Int) % 7) (i : Int), d.ts⟩ cb F1 F2 a1 a1 mb tb p.code.length → Bx w w' (.slice ca p.code.length cc) p.ticks (.slice sa p.spans.length sc) (.slice wa p.wires.length wc')) := fun w' F2 hw => Below.trans (hx.step (Below.refl _ wA).drew) ((hw.touch.below hTd.mge (C.since hTd.K).size).mono hs1)
      have HTm : Hid ((pokeK d.k r ((i : Int) % 7) (i : Int)).time ≤ (i : Int)) := by
        show _ ≤ _
        rw [pokeK_time']
        exact htm
      obtain ⟨z, hzz⟩ : ∃ z, z = pokeN d.k r ((i : Int) % 7) (i : Int) := ⟨_, rfl⟩
      rw [← hzz] at q1
      generalize pokeK d.k r ((i : Int) % 7) (i : Int) = k2 at q1 HBw HTm
      obtain ⟨ve, hve⟩ : ∃ ve, ve = wErr z := ⟨_, rfl⟩
      have HE3 : Hid (∀ W, G W → Calls Tryz.prog 6 #[ve, .int .i64 z] W fun r w' => r = .returned (.bool true) ∧ Below W.heap.size W w') := fun W hg => by rw [hve]; exact HE.out z W hg
      rw [← hve] at q1
      clear hve hzz hTw hTd hx
      go_upto_region 20 with fail
      go_region_held3 (fun W => W.cell? ⟨mb, 0, none⟩ = some (.pointer (some ⟨a1.kb, 0, none⟩)))
        (first | with_reducible exact hS | go_keep)
        (first
          | (go_at_call 8; refine q1.mono ?_; rintro e w5 ⟨rfl, tk5, q2⟩; clear q1; replace hS := (World.cell?_of_block (w := wA.drew) (a := ⟨mb, 0, none⟩) (tk5.block mb hmbl hmbF)).trans hS)
          | (go_at_call 9; refine (q2 _ (Below.refl _ _)).mono ?_; rintro e w6 ⟨rfl, F2, hWt⟩; clear q2; replace hS := hWt.two.R.c0; have hx6 := HBw.out w6 F2 hWt; have q3 := HE3.out w6 (HG.out w6 hx6.below))
          | (go_at_call 6; refine q3.mono ?_; rintro e w7 ⟨rfl, b7⟩; clear q3; replace hS := (hWt.two.all b7).R.c0))
      all_goals (go_wp2_with fail; go_meet; exact ⟨rfl, ⟨k2, d.ts⟩, F2, HTm.out, hWt.two.all b7, hx6.step b7⟩)
    · rw [show decide ((i : Int) % 17 = 5) = false from decide_eq_false h5]
      clear h5
      have HT : Hid (TwoC C w1 wA p (.slice ca p.code.length cc) (.slice sa p.spans.length sc) (.slice wa p.wires.length wc') (.slice oa p.code.length oc) what most d cb F1 a1 mb tb p.code.length ∧ Bx w wA (.slice ca p.code.length cc) p.ticks (.slice sa p.spans.length sc) (.slice wa p.wires.length wc')) := ⟨hTw, hx⟩
      clear hTw hx
      go_wp2_with fail
      go_meet
      case rel => exact ⟨rfl, d, F1, htm, HT.out.1, HT.out.2⟩
  case rest =>
  obtain ⟨rfl, d1, F2, htm1, hTw1, hx1⟩ := hcut
  clear hTw hx htm
  generalize wc = wB at *
  have q1 := two_ctick HG1.out hc (by omega) hTw1
  have HBw : Hid (∀ w' F3 a3, WentC C w1 wB w' p (.slice ca p.code.length cc) (.slice sa p.spans.length sc) (.slice wa p.wires.length wc') (.slice oa p.code.length oc) what most (tickC p what most d1) cb F2 F3 a1 a3 mb tb p.code.length → Bx w w' (.slice ca p.code.length cc) p.ticks (.slice sa p.spans.length sc) (.slice wa p.wires.length wc')) := fun w' F3 a3 hw => Below.trans hx1 ((hw.touch.below hTw1.mge (C.since hTw1.K).size).mono hs1)
  have HTm : Hid ((tickC p what most d1).k.time ≤ (i : Int) + 1) := by
    show _ ≤ _
    rw [tickC_time]
    omega
  unfold evA at q1
  generalize (evC p what most d1).1 = t1 at q1
  generalize (evC p what most d1).2.1 = t2 at q1
  generalize (evC p what most d1).2.2.1 = t3 at q1
  generalize (evC p what most d1).2.2.2 = t4 at q1
  generalize tickC p what most d1 = d2 at q1 HBw HTm
  have heq := eql_ev
  clear hTw1 hx1 htm1
  go_step
  go_upto_region 22 with (first
    | (go_at_call 10; refine q1.mono ?_; rintro e w5 ⟨rfl, q2⟩; clear q1)
    | (go_at_call 11; refine q2.mono ?_; rintro e w6 ⟨rfl, F3, a3, hWt⟩; clear q2))
  have hTw := hWt.two
  have hx := HBw.out w6 F3 a3 hWt
  clear hWt HBw heq
  generalize w6 = wM at *
  have hflt := hTw.flt
  have hsb : wM.heap.size ∉ F3 ++ mb :: tb :: KF a3 := fun hm => by have := hflt _ hm; omega
  have hMw : w1.heap.size ≤ wM.heap.size := (C.since hTw.K).size
  go_upto_region 25 with fail
  have bMN : Below wM.heap.size wM (wM.alloc (.cells #[.int .i64 0, .int .i64 0, .int .i64 0, .int .i64 0, .int .i64 0, .int .i64 0, .int .i64 0, .bool false] 47)) := (Below.refl _ _).alloc (Nat.le_refl _) _
  have hst : StB (wM.alloc (.cells #[.int .i64 0, .int .i64 0, .int .i64 0, .int .i64 0, .int .i64 0, .int .i64 0, .int .i64 0, .bool false] 47)) wM.heap.size stNew := World.alloc_heap_new wM _
  replace hTw := hTw.all bMN
  replace hx := hx.step bMN
  clear bMN hflt
  generalize (wM.alloc (.cells #[.int .i64 0, .int .i64 0, .int .i64 0, .int .i64 0, .int .i64 0, .int .i64 0, .int .i64 0, .bool false] 47)) = wN at hst hTw hx ⊢
  generalize wM.heap.size = sb at hst hsb hMw ⊢
  have k0 := hx.c0
  have HRl : Hid (d2.k.rooms.length = p.code.length ∧ d2.ts.length = p.code.length) := ⟨hTw.ok.k.rl, hTw.ok.tl⟩
  go_cut [137] from 129 to 136 (fun s wx => s = .bool (noRoom d2.k r) ∧ wx = wN)
  case first =>
    by_cases h0 : r < 0
    · have HX : Hid (noRoom d2.k r = true) := by show _ = _; unfold noRoom; simp [h0]
      have h0' : decide (r < 0) = true := decide_eq_true h0
      go_wp2_with fail
      go_meet
      case rel => exact ⟨by rw [HX.out], rfl⟩
    · have h0' : decide (r < 0) = false := decide_eq_false h0
      have HX : Hid (noRoom d2.k r = decide ((p.code.length : Int) ≤ r)) := by show _ = _; unfold noRoom; rw [HRl.out.1]; simp [h0']
      go_wp2_with fail
      go_meet
      case rel => exact ⟨by rw [HX.out], rfl⟩
  case rest =>
  obtain ⟨rfl, hwc⟩ := hcut
  rw [hwc]
  clear hwc wc
  go_step
  go_cut [11, 20] from 137 to 154 (fun s11 s20 wx => s11 = .int .i64 (errB (noRoom d2.k r)) ∧ s20 = .int .i64 (timesC d2 r) ∧ StB wx sb (roomK d2.k r) ∧ KTouch [sb] wN wx)
  case first =>
    cases hno : noRoom d2.k r with
    | true =>
      have HX : Hid (roomK d2.k r = stNew) := by show _ = _; unfold roomK; rw [hno, if_pos rfl]
      have HY : Hid (timesC d2 r = 0) := by show _ = _; unfold timesC; rw [hno, if_pos rfl]
      have HNo : Hid (noRoom d2.k r = true) := hno
      have HST : Hid (StB wN sb stNew) := hst
      clear hst hTw hx k0 hno
      go_wp2_with fail
      go_meet
      case rel => exact ⟨by rw [HNo.out]; rfl, by rw [HY.out], by rw [HX.out]; exact HST.out, KTouch.refl _ _⟩
    | false =>
      have hrange : 0 ≤ r ∧ r < p.code.length := by
        unfold noRoom at hno
        rw [HRl.out.1] at hno
        simp only [Bool.or_eq_false_iff, decide_eq_false_iff_not] at hno
        omega
      obtain ⟨rn, rfl⟩ : ∃ n : Nat, r = n := ⟨r.toNat, by omega⟩
      have hrl : rn < d2.k.rooms.length := by rw [HRl.out.1]; omega
      have hri : (rn : Int) < (d2.k.rooms.length : Int) := by omega
      have htl : rn < d2.ts.length := by rw [HRl.out.2]; omega
      have hti : (rn : Int) < (d2.ts.length : Int) := by omega
      obtain ⟨s, hs⟩ : ∃ s, d2.k.rooms[rn]? = some s := ⟨_, List.getElem?_eq_getElem hrl⟩
      obtain ⟨t, ht⟩ : ∃ t, d2.ts[rn]? = some t := ⟨_, List.getElem?_eq_getElem htl⟩
      have HX : Hid (roomK d2.k (rn : Int) = s) := by show _ = _; unfold roomK; rw [hno, if_neg (by decide), Int.toNat_natCast]; simp [List.getD, hs]
      have HY : Hid (timesC d2 (rn : Int) = t) := by show _ = _; unfold timesC; rw [hno, if_neg (by decide), Int.toNat_natCast]; simp [List.getD, ht]
      have hth := hst.there 0
      have m0 := hTw.R.c0
      have m3 := hTw.R.c3
      have k4 := hTw.R.k.c4
      have tcl := hTw.R.ts rn t ht
      obtain ⟨s0, s1, s2, s3, s4, s5, s6, s7⟩ := hTw.R.k.rooms rn s hs
      have HST : Hid (StB wN sb stNew) := hst
      have HNo : Hid (noRoom d2.k (rn : Int) = false) := hno
      have hsne : mb ≠ sb ∧ tb ≠ sb := ⟨fun e => hsb (by rw [← e]; simp), fun e => hsb (by rw [← e]; simp)⟩
      have hmt := hTw.R.lt
      clear hs ht hst hTw hx k0 hno
      go_upto_region 28 with (refine wpList_store_mid rfl 47 _ _ rfl sb 0 #[.int .i64 s.p, .int .i64 (s.c 0), .int .i64 (s.c 1), .int .i64 (s.c 2), .int .i64 (s.c 3), .int .i64 (s.c 4), .int .i64 (s.c 5), .bool s.f] rfl rfl hth (by kernel_rfl) (by simp [Value.oneCell']) ?_)
      have tkS : KTouch [sb] wN (setSt wN sb 0 s) := setSt_touch wN (by simp) 0 s
      have hst2 : StB (setSt wN sb 0 s) sb s := HST.out.set s
      replace m3 := (World.cell?_of_block (w := wN) (w' := setSt wN sb 0 s) (a := ⟨mb, 3, none⟩) (tkS.block mb hmt.1 (by simpa using hsne.1))).trans m3
      replace tcl := (World.cell?_of_block (w := wN) (w' := setSt wN sb 0 s) (a := ⟨tb, rn, none⟩) (tkS.block tb hmt.2 (by simpa using hsne.2))).trans tcl
      clear m0 k4 s0 s1 s2 s3 s4 s5 s6 s7 hth
      change Code.wp _ _ _ _ (setSt wN sb 0 s)
      generalize setSt wN sb 0 s = wS at *
      go_wp2_with fail
      go_meet
      case rel => exact ⟨by rw [HNo.out]; rfl, by rw [HY.out], by rw [HX.out]; exact hst2, tkS⟩
  case rest =>
  obtain ⟨rfl, rfl, hst', tk⟩ := hcut
  generalize wc = wP at *
  replace hTw := hTw.set tk hsb hMw
  replace hx : Bx w wP (.slice ca p.code.length cc) p.ticks (.slice sa p.spans.length sc) (.slice wa p.wires.length wc') := Below.trans hx (tk.below (B := w.heap.size + 1) (by simp; omega) hx.size)
  clear hst tk k0
  have hnq := eql_st
  obtain ⟨s, hs⟩ : ∃ s, s = roomK d2.k r := ⟨_, rfl⟩
  obtain ⟨z, hz⟩ : ∃ z, z = errB (noRoom d2.k r) := ⟨_, rfl⟩
  obtain ⟨tm, htmd⟩ : ∃ t, t = timesC d2 r := ⟨_, rfl⟩
  obtain ⟨ve, hve⟩ : ∃ ve, ve = wErr z := ⟨_, rfl⟩
  have HSt : Hid (Calls Tryz.prog 12 #[.pointer (some ⟨cb, 0, none⟩), .int .i64 r] wP fun e w5 => e = .returned (.tuple #[.agg #[.int .i64 s.p, .int .i64 (s.c 0), .int .i64 (s.c 1), .int .i64 (s.c 2), .int .i64 (s.c 3), .int .i64 (s.c 4), .int .i64 (s.c 5), .bool s.f], ve]) ∧
      Calls Tryz.prog 6 #[ve, .int .i64 z] (w5.alloc (.cells #[.int .i64 s.p, .int .i64 (s.c 0), .int .i64 (s.c 1), .int .i64 (s.c 2), .int .i64 (s.c 3), .int .i64 (s.c 4), .int .i64 (s.c 5), .bool s.f] 47)) fun r' w6 => r' = .returned (.bool true) ∧ (StB w6 w5.heap.size s ∧ StB w6 sb s) ∧
      Calls Tryz.prog 13 #[.pointer (some ⟨cb, 0, none⟩), .int .i64 r] w6 fun e w7 => e = .returned (.tuple #[.int .i64 tm, ve]) ∧
      Calls Tryz.prog 6 #[ve, .int .i64 z] w7 fun r' w8 => r' = .returned (.bool true) ∧ Below wP.heap.size wP w8) := by
    refine (C.state r hTw.K hTw.ok hc).mono ?_
    rintro e w5 ⟨rfl, b5⟩
    refine ⟨by rw [hve, hz, hs]; rfl, ?_⟩
    have b5a : Below wP.heap.size wP (w5.alloc (.cells #[.int .i64 s.p, .int .i64 (s.c 0), .int .i64 (s.c 1), .int .i64 (s.c 2), .int .i64 (s.c 3), .int .i64 (s.c 4), .int .i64 (s.c 5), .bool s.f] 47)) := b5.alloc b5.size _
    have hq := HE.out z _ (HG.out _ (hx.below.trans (b5a.mono hx.below.size)))
    rw [← hve] at hq
    refine hq.mono ?_
    rintro r' w6 ⟨rfl, b6⟩
    have b6a := b5a.trans (b6.mono b5a.size)
    refine ⟨rfl, ⟨(b6.block _ (by simp)).trans (World.alloc_heap_new w5 _), ?_⟩, ?_⟩
    · rw [hs]
      have hlt := (Array.getElem?_eq_some_iff.1 hst').1
      exact (b6a.block sb hlt).trans hst'
    · refine (C.times r (C.frame hTw.K (KTouch.of (M := []) b6a) (by simp)) hTw.ok hc).mono ?_
      rintro e w7 ⟨rfl, b7⟩
      refine ⟨by rw [hve, hz, htmd], ?_⟩
      have b7a := b6a.trans (b7.mono b6a.size)
      have hq2 := HE.out z _ (HG.out _ (hx.below.trans (b7a.mono hx.below.size)))
      rw [← hve] at hq2
      refine hq2.mono ?_
      rintro r' w8 ⟨rfl, b8⟩
      exact ⟨rfl, b7a.trans (b8.mono b7a.size)⟩
  rw [← hz, ← htmd]
  clear hs hz hve hst' htmd
  go_step
  go_upto_region 33 with (first
    | (go_at_call 12; refine HSt.out.mono ?_; rintro e w5 ⟨rfl, q2⟩; clear HSt)
    | (go_at_call 6; refine q2.mono ?_; rintro r' w6 ⟨rfl, ⟨hb1, hb2⟩, q3⟩; clear q2; obtain ⟨e0, e1, e2, e3, e4, e5, e6, e7⟩ := hb1.cs; obtain ⟨f0, f1, f2, f3, f4, f5, f6, f7⟩ := hb2.cs; simp only [Nat.zero_add] at e1 e2 e3 e4 e5 e6 e7 f1 f2 f3 f4 f5 f6 f7)
    | (go_at_call 13; refine q3.mono ?_; rintro e w7 ⟨rfl, q4⟩; clear q3)
    | (go_at_call 6; refine q4.mono ?_; rintro r' w8 ⟨rfl, b8⟩; clear q4))
  replace hTw := hTw.all b8
  replace hx := hx.step b8
  clear b8 hb1 hb2 e0 e1 e2 e3 e4 e5 e6 e7 f0 f1 f2 f3 f4 f5 f6 f7 hnq hsb hMw
  have HFin : Hid (TwoC C w1 w8 p (.slice ca p.code.length cc) (.slice sa p.spans.length sc) (.slice wa p.wires.length wc') (.slice oa p.code.length oc) what most d2 cb F3 a3 mb tb p.code.length ∧ Bx w w8 (.slice ca p.code.length cc) p.ticks (.slice sa p.spans.length sc) (.slice wa p.wires.length wc')) := ⟨hTw, hx⟩
  clear hTw hx
  go_wp2
  go_roundw
  case rel => exact ⟨i + 1, d2, F3, a3, by omega, rfl, by go_num, (by have := HTm.out; push_cast; omega), HFin.out.1, HFin.out.2⟩
  case measure => simp [intOf]; omega
theorem cplays_of {G : World → Prop} (C : CarC G) (CP : CarPoke C) (hE : ∀ (e : Int) (W : World), G W → Calls Tryz.prog 6 #[wErr e, .int .i64 e] W fun r w' => r = .returned (.bool true) ∧ Below W.heap.size W w')
    (hR : ∀ (p : PD) (vc vs vw : Value) (W : World), Pln W vc vs vw p → Calls Tryz.prog 4 #[plV vc p.ticks vs vw] W fun e w' => e = .returned (.int .i64 (plchk p)) ∧ Below W.heap.size W w')
    (p : PD) (vc vs vw wv : Value) (what : List Int) (most n r : Int) (w : World) (hG : G w) (hP : Pln w vc vs vw p) (hW : Stp w wv what) :
    Calls Tryz.prog 3 #[plV vc p.ticks vs vw, wv, .int .i64 most, .int .i64 n, .int .i64 r] w fun e w' => e = .returned (.bool true) ∧ Below w.heap.size w w' := by
  by_cases hc : carE p what most = 0
  · exact cplays_ok C CP hE hR p vc vs vw wv what most n r w hG hP hW hc
  · exact cplays_no C hE hR p vc vs vw wv what most n r w hG hP hW hc
end Go.Proofs.YteoemcekkcnplafGreatDoor

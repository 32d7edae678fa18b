/-
  The law TopKept, of what packages log, kernel, snap and sight promise.
-/
import Derived.Test.YtajfgmlockjmhaiGreatDoorJt3
import Derived.Test.YtajfgmlockjmhaiGreatDoorJt5
import Derived.Test.YtajfgmlockjmhaiGreatDoorJt7
import Derived.Test.YtajfgmlockjmhaiGreatDoorJt2
import Derived.Test.YtajfgmlockjmhaiGreatDoorJt1
import Derived.Deep.CutRange
import Derived.Deep.RegionWith
import Derived.Deep.RegionHeld3
import Derived.BigQuiet
import Derived.RangeFuncNested
namespace Go.Proofs.YtajfgmlockjmhaiGreatDoor
open Go.RowKit

set_option maxRecDepth 100000 in
set_option maxHeartbeats 32000000 in
theorem topkept_of {G : World → Prop} (C : LogC G) (Q : KerC G) (CS : LogSync C) (CC : LogCrash C) (CX : LogState C) (CT : LogRd C 23 (fun d p => .int .i64 (d.k p).time)) (QT : KerTime Q) (SS : SnpSave Q) (SL : SnpLoad Q) (SR : SgtRun G)
    (p : PD) (vc vs vw : Value) (n m r : Int) (sy : Bool) (w : World) (hG : G w) (hP : Pln w vc vs vw p) :
    Calls Tryz.prog 8 #[plV vc p.ticks vs vw, .int .i64 n, .int .i64 m, .bool sy, .int .i64 r] w fun e w' => e = .returned (.bool true) ∧ Below w.heap.size w w' := by
  obtain ⟨ca, cc, rfl⟩ := hP.code.form
  have hx0 := Bx.first w (.slice ca p.code.length cc) p.ticks vs vw
  have HG : Hid (∀ W, Below w.heap.size w W → G W) := fun W hb => C.all w W hG hb
  have HP : Hid (Pln w (.slice ca p.code.length cc) vs vw p) := hP
  have q0 := topone_any Q _ (HG.out _ hx0.below)
  unfold plV
  clear hG hP
  go_enter Tryz.func8, Tryz.ntmps8
  go_upto_region 4 with (go_at_call 30; refine q0.mono ?_; rintro e w1 ⟨rfl, b1⟩; clear q0)
  have hx1 := hx0.step b1
  have k0 := hx1.c0
  have k1 := hx1.c1
  have k2 := hx1.c2
  have k3 := hx1.c3
  clear hx0 b1
  by_cases hp : plchk p = 0
  case neg =>
    have q1 := C.no p (.slice ca p.code.length cc) vs vw w1 (HG.out _ hx1.below) (HP.out.all hx1.below) hp
    rw [wErr_not hp] at q1
    unfold plV at q1
    generalize plchk p = z at *
    go_wp2_with (go_at_call 17; refine q1.mono ?_; rintro e w2 ⟨x, rfl, b2⟩; clear q1)
    go_ret
    exact ⟨rfl, (hx1.step b2).below⟩
  have q1 := C.new p (.slice ca p.code.length cc) vs vw w1 (HG.out _ hx1.below) (HP.out.all hx1.below) hp
  unfold plV at q1
  have HZ : Hid (plchk p = 0) := hp
  clear hp
  go_upto_region 5 with (go_at_call 17; refine q1.mono ?_; rintro e w2 ⟨cb, F, rfl, hL⟩; clear q1 k0 k1 k2 k3)
  have hx2 := hx1.step (C.since hL)
  have k0 := hx2.c0
  have k1 := hx2.c1
  have k2 := hx2.c2
  have k3 := hx2.c3
  by_cases hin : 0 ≤ n ∧ n ≤ 60 ∧ 0 ≤ m ∧ m ≤ 60 ∧ 0 ≤ r ∧ r < p.code.length
  case neg =>
    clear hL
    go_cut [62] from 34 to 61 (fun s62 wx => s62 = .bool true ∧ wx = w2)
    case first =>
      by_cases h1 : n < 0
      · have d1 : decide (n < 0) = true := decide_eq_true h1
        clear hin
        go_wp2_with fail
        go_meet
        case rel => exact ⟨rfl, rfl⟩
      have d1 : decide (n < 0) = false := decide_eq_false h1
      by_cases h2 : 60 < n
      · have d2 : decide (60 < n) = true := decide_eq_true h2
        clear hin
        go_wp2_with fail
        go_meet
        case rel => exact ⟨rfl, rfl⟩
      have d2 : decide (60 < n) = false := decide_eq_false h2
      by_cases h3 : m < 0
      · have d3 : decide (m < 0) = true := decide_eq_true h3
        clear hin
        go_wp2_with fail
        go_meet
        case rel => exact ⟨rfl, rfl⟩
      have d3 : decide (m < 0) = false := decide_eq_false h3
      by_cases h4 : 60 < m
      · have d4 : decide (60 < m) = true := decide_eq_true h4
        clear hin
        go_wp2_with fail
        go_meet
        case rel => exact ⟨rfl, rfl⟩
      have d4 : decide (60 < m) = false := decide_eq_false h4
      by_cases h5 : r < 0
      · have d5 : decide (r < 0) = true := decide_eq_true h5
        clear hin
        go_wp2_with fail
        go_meet
        case rel => exact ⟨rfl, rfl⟩
      have d5 : decide (r < 0) = false := decide_eq_false h5
      have d6 : decide ((p.code.length : Int) ≤ r) = true := decide_eq_true (by omega)
      have d7 : (p.code.length : Int) ≤ r := by omega
      clear hin
      go_wp2_with fail
      go_meet
      case rel => exact ⟨rfl, rfl⟩
    case rest =>
    obtain ⟨rfl, hwc⟩ := hcut
    rw [hwc]
    clear hwc wc
    go_step
    go_wp2_with fail
    go_ret
    exact ⟨rfl, hx2.below⟩
  obtain ⟨hn0, hn1, hm0, hm1, hr0, hr1⟩ := hin
  obtain ⟨N, rfl⟩ : ∃ N : Nat, n = N := ⟨n.toNat, by omega⟩
  obtain ⟨M, rfl⟩ : ∃ M : Nat, m = M := ⟨m.toNat, by omega⟩
  obtain ⟨R, rfl⟩ : ∃ R : Nat, r = R := ⟨r.toNat, by omega⟩
  have d1 : decide ((N : Int) < 0) = false := decide_eq_false (by omega)
  have d2 : decide (60 < (N : Int)) = false := decide_eq_false (by omega)
  have d3 : decide ((M : Int) < 0) = false := decide_eq_false (by omega)
  have d4 : decide (60 < (M : Int)) = false := decide_eq_false (by omega)
  have d5 : decide ((R : Int) < 0) = false := decide_eq_false (by omega)
  have d6 : decide ((p.code.length : Int) ≤ (R : Int)) = false := decide_eq_false (by omega)
  have d7 : decide (p.code.length ≤ R) = false := decide_eq_false (by omega)
  have q1 := Q.new p (.slice ca p.code.length cc) vs vw w2 (HG.out _ hx2.below) (HP.out.all hx2.below) HZ.out
  unfold plV at q1
  go_upto_region 8 with (go_at_call 9; refine q1.mono ?_; rintro e w3 ⟨kb, F2, rfl, hK⟩; clear q1 k0 k1 k2 k3)
  have h2 : LK2 C Q w1 w3 p (.slice ca p.code.length cc) vs vw newL cb F (newK p) kb F2 := LK2.made hL hK
  have hx3 := hx2.step (Q.since hK)
  have HG1 : Hid (G w1) := HG.out _ hx1.below
  have HXW : Hid (∀ W, Below w1.heap.size w1 W → Bx w W (.slice ca p.code.length cc) p.ticks vs vw) := fun W hb => hx1.step hb
  have HGO : Hid (∀ W, LK2 C Q w1 W p (.slice ca p.code.length cc) vs vw newL cb F (newK p) kb F2 → Calls Tryz.prog 19 #[.pointer (some ⟨cb, 0, none⟩), .int .i64 N] W fun e w' => e = .returned .nilIface ∧ ∃ s F', 2 ≤ s ∧ s ≤ 100000 ∧ LK2 C Q w1 w' p (.slice ca p.code.length cc) vs vw (tkA N s) cb F' (newK p) kb F2) := fun W h => by
    refine (C.go N HG1.out h.L HZ.out newL_ok).mono ?_
    rintro e w' ⟨rfl, s, F', a1, a2, hK', tk', hn'⟩
    obtain ⟨e1, e2⟩ := tk_go1 p (n := N) (by omega) s
    rw [e2] at hK'
    exact ⟨by rw [e1]; rfl, s, F', a1, a2, h.log hK' tk' hn'⟩
  have q1 := HGO.out w3 h2
  clear hL hK h2 hx1 hx2 HGO d1 d2 d3 d4 d5 d6 d7
  go_upto_region 10 with (go_at_call 19; refine q1.mono ?_; rintro e w4 ⟨rfl, s1, F3, hs1, hs2, h4⟩; clear q1)
  have HTK : Hid (∀ W d cb F k kb F2, LK2 C Q w1 W p (.slice ca p.code.length cc) vs vw d cb F k kb F2 → KOk p k → k.time < 100000000 → Calls Tryz.prog 12 #[.pointer (some ⟨kb, 0, none⟩)] W fun e w' => (∃ v, e = .returned v) ∧ ∃ F3, LK2 C Q w1 w' p (.slice ca p.code.length cc) vs vw d cb F (tickK p p.spans k).1 kb F3) := fun W d cb F k kb F2 h hk ht => by
    refine (Q.tick HG1.out h.K HZ.out hk ht).mono ?_
    rintro e w' ⟨rfl, F3, hK', tk', hn'⟩
    exact ⟨⟨_, rfl⟩, F3, h.ker hK' tk' hn'⟩
  go_upto_region 11 with fail
  go_loopw [16] (fun s16 wr => ∃ (i : Nat) (F2 : List Nat), i ≤ N ∧ s16 = .int .i64 i ∧ LK2 C Q w1 wr p (.slice ca p.code.length cc) vs vw (tkA N s1) cb F3 (kT p i) kb F2) (fun s _ => N - (intOf s).toNat)
  case atStart => exact ⟨0, F2, Nat.zero_le _, rfl, h4⟩
  case round =>
  clear h4 hx3
  obtain ⟨i, F4, hi, rfl, h5⟩ := hrel
  by_cases hil : i < N
  case pos =>
    have hii : (i : Int) < (N : Int) := by omega
    have q1 := HTK.out wr _ _ _ _ _ _ h5 (kT_ok HZ.out i) (by rw [kT_time]; omega)
    clear h5
    go_wp2_with (go_at_call 12; refine q1.mono ?_; rintro e w6 ⟨⟨v6, rfl⟩, F6, h6⟩; clear q1)
    go_roundw
    case rel => exact ⟨i + 1, F6, by omega, by go_num, h6⟩
    case measure => simp [intOf]; omega
  obtain rfl : i = N := by omega
  have hif : decide ((i : Int) < (i : Int)) = false := decide_eq_false (by omega)
  have hif2 : decide (i < i) = false := decide_eq_false (by omega)
  rename World => wA
  go_upto_region 14 with fail
  have HOA : Hid (LOk p (tkA i s1)) := by
    have := goL_ok (p := p) (n := (i : Int)) (sz := s1) (newL_ok) hs1 hs2 (by decide)
    rw [(tk_go1 p (n := i) (by omega) s1).2] at this
    exact this
  have HOS : Hid (LOk p (tkS i s1)) := by
    have := syncL_ok HOA.out
    rw [(tk_sync i s1).2] at this
    exact this
  have HOB : Hid (∀ s2, 2 ≤ s2 → s2 ≤ 100000 → LOk p (tkB sy i s1 M s2)) := fun s2 a b => by
    have := goL_ok (p := p) (d := if sy = true then tkS i s1 else tkA i s1) (n := (M : Int)) (sz := s2) (by split; exact HOS.out; exact HOA.out) a b (by split <;> (show (1 : Nat) < 40; decide))
    rw [(tk_go2 p (n := i) (m := M) (by omega) (by omega) sy s1 s2).2] at this
    exact this
  have HG2 : Hid (∀ W F F2, LK2 C Q w1 W p (.slice ca p.code.length cc) vs vw (if sy = true then tkS i s1 else tkA i s1) cb F (kT p i) kb F2 → Calls Tryz.prog 19 #[.pointer (some ⟨cb, 0, none⟩), .int .i64 M] W fun e w' => e = .returned .nilIface ∧ ∃ s2 F', 2 ≤ s2 ∧ s2 ≤ 100000 ∧ LK2 C Q w1 w' p (.slice ca p.code.length cc) vs vw (tkB sy i s1 M s2) cb F' (kT p i) kb F2) := fun W F F2 h => by
    refine (C.go M HG1.out h.L HZ.out (by split; exact HOS.out; exact HOA.out)).mono ?_
    rintro e w' ⟨rfl, s2, F', a1, a2, hK', tk', hn'⟩
    obtain ⟨e1, e2⟩ := tk_go2 p (n := i) (m := M) (by omega) (by omega) sy s1 s2
    rw [e2] at hK'
    exact ⟨by rw [e1]; rfl, s2, F', a1, a2, h.log hK' tk' hn'⟩
  have HSY : Hid (∀ W F F2, LK2 C Q w1 W p (.slice ca p.code.length cc) vs vw (tkA i s1) cb F (kT p i) kb F2 → Calls Tryz.prog 20 #[.pointer (some ⟨cb, 0, none⟩)] W fun e w' => e = .returned .nilIface ∧ ∃ F', LK2 C Q w1 w' p (.slice ca p.code.length cc) vs vw (tkS i s1) cb F' (kT p i) kb F2) := fun W F F2 h => by
    refine (CS HG1.out h.L HZ.out HOA.out).mono ?_
    rintro e w' ⟨rfl, F', hK', tk', hn'⟩
    obtain ⟨e1, e2⟩ := tk_sync i s1
    rw [e2] at hK'
    exact ⟨by rw [e1]; rfl, F', h.log hK' tk' hn'⟩
  go_cut [94] from 83 to 93 (fun s94 wx => s94 = .bool false ∧ ∃ s2 F', 2 ≤ s2 ∧ s2 ≤ 100000 ∧ LK2 C Q w1 wx p (.slice ca p.code.length cc) vs vw (tkB sy i s1 M s2) cb F' (kT p i) kb F4)
  case first =>
    as_aux_lemma =>
    cases sy with
    | true =>
      have q1 := HSY.out wA F3 F4 h5
      clear h5
      go_wp2_with (first
        | (go_at_call 20; refine q1.mono ?_; rintro e w6 ⟨rfl, F6, h6⟩; clear q1; have q2 := HG2.out w6 F6 F4 h6; clear h6)
        | (go_at_call 19; refine q2.mono ?_; rintro e w7 ⟨rfl, s2, F7, a1, a2, h7⟩; clear q2))
      go_meet
      case rel => exact ⟨rfl, s2, F7, a1, a2, h7⟩
    | false =>
      have q2 := HG2.out wA F3 F4 h5
      clear h5
      go_wp2_with (go_at_call 19; refine q2.mono ?_; rintro e w7 ⟨rfl, s2, F7, a1, a2, h7⟩; clear q2)
      go_meet
      case rel => exact ⟨rfl, s2, F7, a1, a2, h7⟩
  case rest =>
  obtain ⟨rfl, s2, F5, hs3, hs4, h6⟩ := hcut
  clear h5 HG2 HSY
  generalize wc = wB at *
  go_step
  have HCR : Hid (∀ W F F2, LK2 C Q w1 W p (.slice ca p.code.length cc) vs vw (tkB sy i s1 M s2) cb F (kT p i) kb F2 → Calls Tryz.prog 22 #[.pointer (some ⟨cb, 0, none⟩), .int .i64 0] W fun e w' => (∃ v, e = .returned v) ∧ ∃ F', LK2 C Q w1 w' p (.slice ca p.code.length cc) vs vw (if sy = true then tkS i s1 else newL) cb F' (kT p i) kb F2) := fun W F F2 h => by
    refine (CC 0 HG1.out h.L HZ.out (HOB.out s2 hs3 hs4)).mono ?_
    rintro e w' ⟨hv, F', hK', tk', hn'⟩
    rw [tk_crash hs1 hs3] at hK'
    exact ⟨hv, F', h.log hK' tk' hn'⟩
  have q1 := HCR.out wB F5 F4 h6
  clear h6 HCR
  go_upto_region 17 with (go_at_call 22; refine q1.mono ?_; rintro e w7 ⟨⟨v7, rfl⟩, F7, h7⟩; clear q1)
  have hkp := kT_kept HZ.out (n := i) (by omega)
  have hsm := hkp.small HZ.out
  have hrd := hkp.read HZ.out
  have hx7 := HXW.out _ (C.since h7.L)
  have k0 := hx7.c0
  have k1 := hx7.c1
  have k2 := hx7.c2
  have k3 := hx7.c3
  have q1 := SS (.slice ca p.code.length cc) vs vw HG1.out h7.K (HP.out.all hx7.below) HZ.out hkp.ok hsm
  unfold plV at q1
  have HLd : Hid (∀ W, Below w7.heap.size w7 W → Calls Tryz.prog 11 #[.agg #[(.slice ca p.code.length cc), .int .i64 p.ticks, vs, vw], .string ⟨(snB (kT p i)).toArray⟩] W fun e w' => ∃ xb H, e = .returned (.tuple #[.pointer (some ⟨xb, 0, none⟩), .nilIface]) ∧ LK2 C Q w1 w' p (.slice ca p.code.length cc) vs vw (if sy = true then tkS i s1 else newL) cb F7 (kT p i) xb H) := fun W hb => by
    have hl := snB_len hsm
    have hbW := (hx7.step hb).below
    have hz : snE p (snB (kT p i)) = 0 := by rw [snE_ok HZ.out, hrd]
    refine (SL p (.slice ca p.code.length cc) vs vw ⟨(snB (kT p i)).toArray⟩ W (HG.out W hbW) (HP.out.all hbW) (by show (snB (kT p i)).toArray.size ≤ _; simp; omega) (by simpa using hz)).mono ?_
    rintro e w' ⟨xb, H, rfl, hM⟩
    refine ⟨xb, H, rfl, LK2.made (h7.all hb).L ?_⟩
    simp only at hM
    rw [hrd] at hM
    exact hM
  have HBx : Hid (∀ W, Below w7.heap.size w7 W → W.cell? ⟨w.heap.size, 0, none⟩ = some (.slice ca p.code.length cc) ∧ W.cell? ⟨w.heap.size, 1, none⟩ = some (.int .i64 p.ticks) ∧ W.cell? ⟨w.heap.size, 2, none⟩ = some vs ∧ W.cell? ⟨w.heap.size, 3, none⟩ = some vw) := fun W hb => ⟨(hx7.step hb).c0, (hx7.step hb).c1, (hx7.step hb).c2, (hx7.step hb).c3⟩
  clear hsm hrd h7
  generalize (snB (kT p i)).toArray = tx at q1 HLd
  go_upto_region 19 with (first
    | (go_at_call 10; refine q1.mono ?_; rintro e w8 ⟨rfl, b8⟩; clear q1 k0 k1 k2 k3; obtain ⟨k0, k1, k2, k3⟩ := HBx.out w8 b8; have q2 := HLd.out w8 b8)
    | (go_at_call 11; refine q2.mono ?_; rintro e w9 ⟨xb, H, rfl, h9⟩; clear q2 k0 k1 k2 k3))
  go_upto_region 21 with fail
  clear HLd HBx hx7 b8
  cases sy with
  | false =>
    as_aux_lemma =>
    have hL9 : C.K w1 w9 p newL cb F7 := h9.L
    have q1 : Calls Tryz.prog 23 #[.pointer (some ⟨cb, 0, none⟩)] w9 fun e w' => e = .returned (.int .i64 0) ∧ Below w9.heap.size w9 w' := CT hL9 newL_ok HZ.out
    have hb9 := (HXW.out _ (C.since hL9)).below
    clear h9 hL9
    go_wp2_with (go_at_call 23; refine q1.mono ?_; rintro e w10 ⟨rfl, b10⟩; clear q1)
    go_ret
    exact ⟨rfl, hb9.trans (b10.mono hb9.size)⟩
  | true =>
  replace h9 : LK2 C Q w1 w9 p (.slice ca p.code.length cc) vs vw (tkS i s1) cb F7 (kT p i) xb H := h9
  have hno : noRoom (kT p i) (R : Int) = false := by
    unfold noRoom
    rw [Bool.or_eq_false_iff, (kT_ok HZ.out i).rl]
    exact ⟨decide_eq_false (by omega), decide_eq_false (by omega)⟩
  have hkS : (tkS i s1).k p = kT p i := by rw [tkS_k, ticksK_kT]
  obtain ⟨st, hst⟩ : ∃ st, st = roomK (kT p i) (R : Int) := ⟨_, rfl⟩
  have HS1 : Hid (∀ W, Below w9.heap.size w9 W → Calls Tryz.prog 31 #[.pointer (some ⟨cb, 0, none⟩), .int .i64 R] W fun e w' => e = .returned (.tuple #[.agg #[.int .i64 st.p, .int .i64 (st.c 0), .int .i64 (st.c 1), .int .i64 (st.c 2), .int .i64 (st.c 3), .int .i64 (st.c 4), .int .i64 (st.c 5), .bool st.f], .nilIface]) ∧ Below W.heap.size W w') := fun W hb => by
    have := CX R (h9.all hb).L HOS.out HZ.out
    rw [hkS, hno, ← hst] at this
    exact this
  have HS2 : Hid (∀ W, Below w9.heap.size w9 W → Calls Tryz.prog 32 #[.pointer (some ⟨xb, 0, none⟩), .int .i64 R] W fun e w' => e = .returned (.tuple #[.agg #[.int .i64 st.p, .int .i64 (st.c 0), .int .i64 (st.c 1), .int .i64 (st.c 2), .int .i64 (st.c 3), .int .i64 (st.c 4), .int .i64 (st.c 5), .bool st.f], .nilIface]) ∧ Below W.heap.size W w') := fun W hb => by
    have := Q.state R (h9.all hb).K (kT_ok HZ.out i) HZ.out
    rw [hno, ← hst] at this
    exact this
  have HT1 : Hid (∀ W, Below w9.heap.size w9 W → Calls Tryz.prog 23 #[.pointer (some ⟨cb, 0, none⟩)] W fun e w' => e = .returned (.int .i64 i) ∧ Below W.heap.size W w') := fun W hb => by
    have : Calls Tryz.prog 23 #[.pointer (some ⟨cb, 0, none⟩)] W fun e w' => e = .returned (.int .i64 ((tkS i s1).k p).time) ∧ Below W.heap.size W w' := CT (h9.all hb).L HOS.out HZ.out
    rw [hkS, kT_time] at this
    exact this
  have HT2 : Hid (∀ W, Below w9.heap.size w9 W → Calls Tryz.prog 13 #[.pointer (some ⟨xb, 0, none⟩)] W fun e w' => e = .returned (.int .i64 i) ∧ Below W.heap.size W w') := fun W hb => by
    have := QT (h9.all hb).K
    rw [kT_time] at this
    refine this.mono ?_
    rintro e w' ⟨rfl, n, rfl⟩
    exact ⟨rfl, below_dN (Below.refl _ _) n⟩
  have q1 := HS1.out w9 (Below.refl _ _)
  clear hst hkS hno
  go_upto_region 24 with (go_at_call 31; refine q1.mono ?_; rintro e w10 ⟨rfl, b10⟩; clear q1)
  have b11 : Below w9.heap.size w9 (w10.alloc (.cells #[.int .i64 st.p, .int .i64 (st.c 0), .int .i64 (st.c 1), .int .i64 (st.c 2), .int .i64 (st.c 3), .int .i64 (st.c 4), .int .i64 (st.c 5), .bool st.f] 73)) := b10.alloc b10.size _
  have hB1 : StB (w10.alloc (.cells #[.int .i64 st.p, .int .i64 (st.c 0), .int .i64 (st.c 1), .int .i64 (st.c 2), .int .i64 (st.c 3), .int .i64 (st.c 4), .int .i64 (st.c 5), .bool st.f] 73)) w10.heap.size st := World.alloc_heap_new _ _
  have hb1 : w9.heap.size ≤ w10.heap.size := b10.size
  have hb1l : w10.heap.size < (w10.alloc (.cells #[.int .i64 st.p, .int .i64 (st.c 0), .int .i64 (st.c 1), .int .i64 (st.c 2), .int .i64 (st.c 3), .int .i64 (st.c 4), .int .i64 (st.c 5), .bool st.f] 73)).heap.size := by simp
  clear b10
  generalize w10.alloc (.cells #[.int .i64 st.p, .int .i64 (st.c 0), .int .i64 (st.c 1), .int .i64 (st.c 2), .int .i64 (st.c 3), .int .i64 (st.c 4), .int .i64 (st.c 5), .bool st.f] 73) = w11 at b11 hB1 hb1l ⊢
  generalize w10.heap.size = sb1 at hB1 hb1 hb1l ⊢
  have q1 := HS2.out w11 b11
  go_upto_region 25 with (go_at_call 32; refine q1.mono ?_; rintro e w12 ⟨rfl, b12⟩; clear q1)
  have b13 : Below w11.heap.size w11 (w12.alloc (.cells #[.int .i64 st.p, .int .i64 (st.c 0), .int .i64 (st.c 1), .int .i64 (st.c 2), .int .i64 (st.c 3), .int .i64 (st.c 4), .int .i64 (st.c 5), .bool st.f] 73)) := b12.alloc b12.size _
  have hB2 : StB (w12.alloc (.cells #[.int .i64 st.p, .int .i64 (st.c 0), .int .i64 (st.c 1), .int .i64 (st.c 2), .int .i64 (st.c 3), .int .i64 (st.c 4), .int .i64 (st.c 5), .bool st.f] 73)) w12.heap.size st := World.alloc_heap_new _ _
  have hb2 : w11.heap.size ≤ w12.heap.size := b12.size
  have hb2l : w12.heap.size < (w12.alloc (.cells #[.int .i64 st.p, .int .i64 (st.c 0), .int .i64 (st.c 1), .int .i64 (st.c 2), .int .i64 (st.c 3), .int .i64 (st.c 4), .int .i64 (st.c 5), .bool st.f] 73)).heap.size := by simp
  clear b12
  generalize w12.alloc (.cells #[.int .i64 st.p, .int .i64 (st.c 0), .int .i64 (st.c 1), .int .i64 (st.c 2), .int .i64 (st.c 3), .int .i64 (st.c 4), .int .i64 (st.c 5), .bool st.f] 73) = w13 at b13 hB2 hb2l ⊢
  generalize w12.heap.size = sb2 at hB2 hb2 hb2l ⊢
  replace hB1 : StB w13 sb1 st := (b13.block sb1 hb1l).trans hB1
  have b93 := b11.trans (b13.mono b11.size)
  have h13 := h9.all b93
  have hF9 : ∀ g ∈ F7, g < w9.heap.size := fun g hg => (C.ge h9.L g hg).2
  have hH9 : ∀ g ∈ H, g < w9.heap.size := fun g hg => (Q.ge h9.K g hg).2
  have hs11 := b11.size
  have hs91 : w1.heap.size ≤ w9.heap.size := (C.since h9.L).size
  have hs1w : w.heap.size ≤ w1.heap.size := (HXW.out w1 (Below.refl _ _)).below.size
  clear h9 b11 b13
  obtain ⟨n0, n1, n2, n3, n4, n5, n6, n7⟩ := hB1.cs
  obtain ⟨m0, m1, m2, m3, m4, m5, m6, m7⟩ := hB2.cs
  simp only [Nat.zero_add] at n1 n2 n3 n4 n5 n6 n7 m1 m2 m3 m4 m5 m6 m7
  have hgd := guardSt
  have hnq := neq_st st.p (st.c 0) (st.c 1) (st.c 2) (st.c 3) (st.c 4) (st.c 5) st.f
  have q1 := HT1.out w13 b93
  have hti : ((i : Int) != (i : Int)) = false := by simp
  go_cut [154] from 132 to 153 (fun s154 wx => s154 = .bool false ∧ Below w13.heap.size w13 wx)
  case first =>
    as_aux_lemma =>
    go_wp2_with (first
      | (go_at_call 23; refine q1.mono ?_; rintro e w14 ⟨rfl, b14⟩; clear q1; have q2 := HT2.out w14 (b93.trans (b14.mono b93.size)))
      | (go_at_call 13; refine q2.mono ?_; rintro e w15 ⟨rfl, b15⟩; clear q2))
    go_meet
    case rel => exact ⟨rfl, b14.trans (b15.mono b14.size)⟩
  case rest =>
  obtain ⟨rfl, b14⟩ := hcut
  generalize wc = wC at *
  have h14 := h13.all b14
  have f1 : Fo wC sb1 F7 H st := Fo.all (W := w13) ⟨hB1, fun hm => by have := hF9 _ hm; omega, fun hm => by have := hH9 _ hm; omega⟩ b14
  have f2 : Fo wC sb2 F7 H st := Fo.all (W := w13) ⟨hB2, fun hm => by have := hF9 _ hm; omega, fun hm => by have := hH9 _ hm; omega⟩ b14
  have hne : sb1 ≠ sb2 := by omega
  have hw1 : w1.heap.size ≤ sb1 := by omega
  have hw2 : w1.heap.size ≤ sb2 := by omega
  clear h13 hB1 hB2 b14 b93 HS1 HS2 HT1 HT2 hti hnq q1 n0 n1 n2 n3 n4 n5 n6 n7 m0 m1 m2 m3 m4 m5 m6 m7 hF9 hH9 hb1 hb2 hb1l hb2l hs11
  have HG3 : Hid (Calls Tryz.prog 19 #[.pointer (some ⟨cb, 0, none⟩), .int .i64 M] wC fun e w' => e = .returned .nilIface ∧ ∃ s3 F8, LOk p (tkD i s1 M s3) ∧ LK2 C Q w1 w' p (.slice ca p.code.length cc) vs vw (tkD i s1 M s3) cb F8 (kT p i) xb H ∧ Fo w' sb1 F8 H st ∧ Fo w' sb2 F8 H st) := by
    refine (C.go M HG1.out h14.L HZ.out HOS.out).mono ?_
    rintro e w' ⟨rfl, s3, F8, a1, a2, hK', tk', hn'⟩
    obtain ⟨e1, e2⟩ := tk_go3 p (n := i) (m := M) (by omega) (by omega) s1 s3
    have hok := goL_ok (p := p) (n := (M : Int)) HOS.out a1 a2 (by show (1 : Nat) < 40; decide)
    rw [e2] at hK' hok
    exact ⟨by rw [e1]; rfl, s3, F8, hok, h14.log hK' tk' hn', f1.log tk' hn', f2.log tk' hn'⟩
  have q1 := HG3.out
  clear h14 f1 f2 HG3
  go_step
  go_upto_region 30 with (go_at_call 19; refine q1.mono ?_; rintro e w15 ⟨rfl, s3, F8, hokD, h15, f1, f2⟩; clear q1)
  have HT3 : Hid (∀ W k F2, LK2 C Q w1 W p (.slice ca p.code.length cc) vs vw (tkD i s1 M s3) cb F8 k xb F2 → Fo W sb1 F8 F2 st → Fo W sb2 F8 F2 st → KOk p k → k.time < 100000000 → Calls Tryz.prog 12 #[.pointer (some ⟨xb, 0, none⟩)] W fun e w' => (∃ v, e = .returned v) ∧ ∃ F3, LK2 C Q w1 w' p (.slice ca p.code.length cc) vs vw (tkD i s1 M s3) cb F8 (tickK p p.spans k).1 xb F3 ∧ Fo w' sb1 F8 F3 st ∧ Fo w' sb2 F8 F3 st) := fun W k F2 h g1 g2 hk ht => by
    refine (Q.tick HG1.out h.K HZ.out hk ht).mono ?_
    rintro e w' ⟨rfl, F3, hK', tk', hn'⟩
    exact ⟨⟨_, rfl⟩, F3, h.ker hK' tk' hn', g1.ker tk' hn', g2.ker tk' hn'⟩
  go_loopw [23] (fun s23 wr => ∃ (j : Nat) (F2 : List Nat), j ≤ M ∧ s23 = .int .i64 j ∧ LK2 C Q w1 wr p (.slice ca p.code.length cc) vs vw (tkD i s1 M s3) cb F8 (kT p (i + j)) xb F2 ∧ Fo wr sb1 F8 F2 st ∧ Fo wr sb2 F8 F2 st) (fun s _ => M - (intOf s).toNat)
  case atStart => exact ⟨0, H, Nat.zero_le _, rfl, h15, f1, f2⟩
  case round =>
  clear h15 f1 f2
  obtain ⟨j, H8, hj, rfl, h15, f1, f2⟩ := hrel
  by_cases hjl : j < M
  case pos =>
    have hjj : (j : Int) < (M : Int) := by omega
    have q1 := HT3.out wr _ _ h15 f1 f2 (kT_ok HZ.out (i + j)) (by rw [kT_time]; omega)
    clear h15 f1 f2
    go_wp2_with (go_at_call 12; refine q1.mono ?_; rintro e w16 ⟨⟨v16, rfl⟩, F16, h16, g1, g2⟩; clear q1)
    go_roundw
    case rel => exact ⟨j + 1, F16, by omega, by go_num, h16, g1, g2⟩
    case measure => simp [intOf]; omega
  obtain rfl : j = M := by omega
  have hjf : decide ((j : Int) < (j : Int)) = false := decide_eq_false (by omega)
  have hjf2 : decide (j < j) = false := decide_eq_false (by omega)
  rename World => wD
  have hxD := HXW.out _ (C.since h15.L)
  have k0 := hxD.c0
  have k1 := hxD.c1
  have k2 := hxD.c2
  have k3 := hxD.c3
  have hw3 : IntKind.i64.wrap ((i : Int) + (j : Int)) = (i : Int) + (j : Int) := IntWalk.i64_in _ (by omega)
  have hw4 : IntKind.i64.wrap ((i : Int) + (j : Int) + 1) = (i : Int) + (j : Int) + 1 := IntWalk.i64_in _ (by omega)
  have hno : noRoom (kT p (i + j)) (R : Int) = false := by
    unfold noRoom
    rw [Bool.or_eq_false_iff, (kT_ok HZ.out (i + j)).rl]
    exact ⟨decide_eq_false (by omega), decide_eq_false (by omega)⟩
  obtain ⟨s2', hs2'⟩ : ∃ st, st = roomK (kT p (i + j)) (R : Int) := ⟨_, rfl⟩
  have hrm : (kT p (i + j)).rooms.getD R stNew = s2' := by
    rw [hs2']
    unfold roomK
    rw [hno, if_neg (by decide), Int.toNat_natCast]
  have HSR : Hid (Calls Tryz.prog 33 #[.agg #[(.slice ca p.code.length cc), .int .i64 p.ticks, vs, vw], .int .i64 ((i : Int) + (j : Int)), .int .i64 R] wD fun e w' => ∃ lb lo lc, e = .returned (.tuple #[.slice (some ⟨lb, lo, none⟩) (i + j + 1) lc, .nilIface]) ∧ lb < w'.heap.size ∧ StC w' lb (lo + (i + j) * 8) s2' ∧ Below wD.heap.size wD w') := by
    refine (SR p (.slice ca p.code.length cc) vs vw ((i : Int) + (j : Int)) R wD (HG.out _ hxD.below) (HP.out.all hxD.below)).mono ?_
    rintro e w' ⟨v, rfl, h1, h2⟩
    have hr0 : runE p ((i : Int) + (j : Int)) R = 0 := by
      unfold runE
      rw [if_pos HZ.out, if_neg (by omega)]
    rw [hr0, if_pos rfl, show ((i : Int) + (j : Int)).toNat = i + j by omega, Int.toNat_natCast] at h1
    rcases h1 with ⟨h0, _⟩ | ⟨lb, lo, lc, rfl, _, h3, h4⟩
    · have := statesK_len p (i + j) R
      rw [h0] at this
      cases this
    · refine ⟨lb, lo, lc, by rw [hr0, statesK_len]; rfl, h3, h4 (i + j) s2' ?_, h2⟩
      unfold statesK
      rw [List.getElem?_map, List.getElem?_range (by omega)]
      simp only [Option.map_some, hrm]
  have hkD : (tkD i s1 j s3).k p = kT p (i + j) := by rw [tkD_k, ticksK_kT]
  have HS1 : Hid (∀ W, C.K w1 W p (tkD i s1 j s3) cb F8 → Calls Tryz.prog 31 #[.pointer (some ⟨cb, 0, none⟩), .int .i64 R] W fun e w' => e = .returned (.tuple #[.agg #[.int .i64 s2'.p, .int .i64 (s2'.c 0), .int .i64 (s2'.c 1), .int .i64 (s2'.c 2), .int .i64 (s2'.c 3), .int .i64 (s2'.c 4), .int .i64 (s2'.c 5), .bool s2'.f], .nilIface]) ∧ Below W.heap.size W w') := fun W h => by
    have := CX R h hokD HZ.out
    rw [hkD, hno, ← hs2'] at this
    exact this
  have HS2 : Hid (∀ W, Q.K w1 W p (.slice ca p.code.length cc) vs vw (kT p (i + j)) xb H8 → Calls Tryz.prog 32 #[.pointer (some ⟨xb, 0, none⟩), .int .i64 R] W fun e w' => e = .returned (.tuple #[.agg #[.int .i64 s2'.p, .int .i64 (s2'.c 0), .int .i64 (s2'.c 1), .int .i64 (s2'.c 2), .int .i64 (s2'.c 3), .int .i64 (s2'.c 4), .int .i64 (s2'.c 5), .bool s2'.f], .nilIface]) ∧ Below W.heap.size W w') := fun W h => by
    have := Q.state R h (kT_ok HZ.out (i + j)) HZ.out
    rw [hno, ← hs2'] at this
    exact this
  have q1 := HSR.out
  clear HSR hrm hs2' hno hkD
  go_upto_region 34 with (go_at_call 33; refine q1.mono ?_; rintro e w16 ⟨lb, lo, lc, rfl, hlb, hlc, b16⟩; clear q1 k0 k1 k2 k3)
  have h16 := h15.all b16
  replace f1 := f1.all b16
  replace f2 := f2.all b16
  clear h15 b16
  have q1 := HS1.out w16 h16.L
  go_upto_region 35 with (go_at_call 31; refine q1.mono ?_; rintro e w17 ⟨rfl, b17⟩; clear q1; have g1 := f1.all b17; obtain ⟨u0, u1, u2, u3, u4, u5, u6, u7⟩ := g1.1.cs; simp only [Nat.zero_add] at u1 u2 u3 u4 u5 u6 u7; have y0 := g1.fz 0; have y1 := g1.fz 1; have y2 := g1.fz 2; have y3 := g1.fz 3; have y4 := g1.fz 4; have y5 := g1.fz 5; have y6 := g1.fz 6; have y7 := g1.fz 7)
  have h17 := h16.all b17
  have g2 := f2.all b17
  have hl17 : StC w17 lb (lo + (i + j) * 8) s2' := hlc.off (fun o _ _ => b17.cell (p := ⟨lb, o, none⟩) hlb)
  have hlb17 : lb < w17.heap.size := Nat.lt_of_lt_of_le hlb b17.size
  have tk : KTouch [sb1] w17 (setSt w17 sb1 0 s2') := setSt_touch w17 (by simp) 0 s2'
  have h18 : LK2 C Q w1 (setSt w17 sb1 0 s2') p (.slice ca p.code.length cc) vs vw (tkD i s1 j s3) cb F8 (kT p (i + j)) xb H8 := ⟨C.frame h17.L tk (fun m hm => by rw [List.mem_singleton] at hm; subst hm; exact ⟨g1.2.1, hw1⟩), Q.frame h17.K tk (fun m hm => by rw [List.mem_singleton] at hm; subst hm; exact ⟨g1.2.2, hw1⟩), h17.ap⟩
  have g1' := g1.set s2'
  have g2' := g2.other (fun e => hne e.symm) s2'
  have hl18 : StC (setSt w17 sb1 0 s2') lb (lo + (i + j) * 8) s2' := g1.put hl17 hlb17
  have hls : w17.heap.size ≤ (setSt w17 sb1 0 s2').heap.size := tk.size
  rw [show ((((((((w17.setCell ⟨sb1, 0, none⟩ (.int .i64 s2'.p)).setCell ⟨sb1, 1, none⟩ (.int .i64 (s2'.c 0))).setCell ⟨sb1, 2, none⟩ (.int .i64 (s2'.c 1))).setCell ⟨sb1, 3, none⟩ (.int .i64 (s2'.c 2))).setCell ⟨sb1, 4, none⟩ (.int .i64 (s2'.c 3))).setCell ⟨sb1, 5, none⟩ (.int .i64 (s2'.c 4))).setCell ⟨sb1, 6, none⟩ (.int .i64 (s2'.c 5))).setCell ⟨sb1, 7, none⟩ (.bool s2'.f)) = setSt w17 sb1 0 s2' from rfl]
  clear u0 u1 u2 u3 u4 u5 u6 u7 y0 y1 y2 y3 y4 y5 y6 y7 h16 h17 f1 f2 g1 g2 hlc b17 tk hl17
  generalize setSt w17 sb1 0 s2' = w18 at h18 g1' g2' hl18 hls ⊢
  have hlb18 : lb < w18.heap.size := Nat.lt_of_lt_of_le hlb17 hls
  have q1 := HS2.out w18 h18.K
  go_upto_region 36 with (go_at_call 32; refine q1.mono ?_; rintro e w19 ⟨rfl, b19⟩; clear q1; have g2 := g2'.all b19; obtain ⟨u0, u1, u2, u3, u4, u5, u6, u7⟩ := g2.1.cs; simp only [Nat.zero_add] at u1 u2 u3 u4 u5 u6 u7; have y0 := g2.fz 0; have y1 := g2.fz 1; have y2 := g2.fz 2; have y3 := g2.fz 3; have y4 := g2.fz 4; have y5 := g2.fz 5; have y6 := g2.fz 6; have y7 := g2.fz 7)
  have h19 := h18.all b19
  have g1 := g1'.all b19
  have hl19 : StC w19 lb (lo + (i + j) * 8) s2' := hl18.off (fun o _ _ => b19.cell (p := ⟨lb, o, none⟩) hlb18)
  have hlb19 : lb < w19.heap.size := Nat.lt_of_lt_of_le hlb18 b19.size
  have tk : KTouch [sb2] w19 (setSt w19 sb2 0 s2') := setSt_touch w19 (by simp) 0 s2'
  have hbE : Below w.heap.size w (setSt w19 sb2 0 s2') := by
    have h1 := (HXW.out _ (C.since h19.L)).below
    exact h1.trans (tk.below (fun b hb => by rw [List.mem_singleton] at hb; omega) h1.size)
  have g1' := g1.other hne s2'
  have g2' := g2.set s2'
  have hl20 : StC (setSt w19 sb2 0 s2') lb (lo + (i + j) * 8) s2' := g2.put hl19 hlb19
  rw [show ((((((((w19.setCell ⟨sb2, 0, none⟩ (.int .i64 s2'.p)).setCell ⟨sb2, 1, none⟩ (.int .i64 (s2'.c 0))).setCell ⟨sb2, 2, none⟩ (.int .i64 (s2'.c 1))).setCell ⟨sb2, 3, none⟩ (.int .i64 (s2'.c 2))).setCell ⟨sb2, 4, none⟩ (.int .i64 (s2'.c 3))).setCell ⟨sb2, 5, none⟩ (.int .i64 (s2'.c 4))).setCell ⟨sb2, 6, none⟩ (.int .i64 (s2'.c 5))).setCell ⟨sb2, 7, none⟩ (.bool s2'.f)) = setSt w19 sb2 0 s2' from rfl]
  have HBE : Hid (Below w.heap.size w (setSt w19 sb2 0 s2')) := hbE
  clear u0 u1 u2 u3 u4 u5 u6 u7 y0 y1 y2 y3 y4 y5 y6 y7 h18 h19 g1 g2 hl18 b19 tk hl19 hbE
  generalize setSt w19 sb2 0 s2' = w20 at HBE g1' g2' hl20 ⊢
  obtain ⟨n0, n1, n2, n3, n4, n5, n6, n7⟩ := g1'.1.cs
  obtain ⟨m0, m1, m2, m3, m4, m5, m6, m7⟩ := g2'.1.cs
  obtain ⟨l0, l1, l2, l3, l4, l5, l6, l7⟩ := hl20
  simp only [Nat.zero_add] at n1 n2 n3 n4 n5 n6 n7 m1 m2 m3 m4 m5 m6 m7
  have heq := eql_st s2'.p (s2'.c 0) (s2'.c 1) (s2'.c 2) (s2'.c 3) (s2'.c 4) (s2'.c 5) s2'.f
  have hix : (i : Int) + (j : Int) < ((i + j + 1 : Nat) : Int) := by omega
  have hix0 : 0 ≤ (i : Int) + (j : Int) := by omega
  have hle1 : (((i + j + 1 : Nat) : Int) == (i : Int) + (j : Int) + 1) = true := by
    rw [beq_iff_eq]
    omega
  have hle2 : ((i : Int) + (j : Int) + 1 == (i : Int) + (j : Int) + 1) = true := by simp
  have htn : ((i : Int) + (j : Int)).toNat = i + j := by omega
  clear g1' g2'
  go_quiet (fail)
  go_wp2_with fail
  go_ret
  exact ⟨by simp, below_dN HBE.out _⟩
end Go.Proofs.YtajfgmlockjmhaiGreatDoor

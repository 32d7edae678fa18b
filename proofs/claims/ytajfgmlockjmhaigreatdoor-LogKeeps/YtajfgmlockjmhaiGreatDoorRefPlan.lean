/-
  frameref1.Plan: the document's word on a plan.
-/
import Derived.Test.YtajfgmlockjmhaiGreatDoorJk2
import Derived.Test.YtajfgmlockjmhaiGreatDoorRefFrame2
import Derived.Test.YtajfgmlockjmhaiGreatDoorRefFlow
import Derived.Test.YtajfgmlockjmhaiGreatDoorRefCode
import Derived.Test.YtajfgmlockjmhaiGreatDoorRefPut
import Derived.BigQuiet
namespace Go.Proofs.YtajfgmlockjmhaiGreatDoor
open Go.RowKit

set_option maxRecDepth 100000 in
set_option maxHeartbeats 16000000 in
theorem refplan_any (p : PD) (vc vs vw : Value) (w : World) (hp : Pln w vc vs vw p) :
    Calls Tryz.prog 26 #[plV vc p.ticks vs vw] w fun e w' => e = .returned (.int .i64 (plchk p)) ∧ Below w.heap.size w w' := by
  obtain ⟨ca, cc, rfl⟩ := hp.code.form
  obtain ⟨sa, sc, rfl⟩ := hp.spans.form
  obtain ⟨wa, wc, rfl⟩ := hp.wires.form
  have HP : Hid (Pln w (.slice ca p.code.length cc) (.slice sa p.spans.length sc) (.slice wa p.wires.length wc) p) := hp
  clear hp
  unfold plV
  have hx0 := Bx.first w (.slice ca p.code.length cc) p.ticks (.slice sa p.spans.length sc) (.slice wa p.wires.length wc)
  by_cases h5 : 5 < p.code.length
  · have h5i : (5 : Int) < (p.code.length : Int) := by omega
    have HF : Hid (plchk p = 4) := plchk_long h5
    go_enter Tryz.func26, Tryz.ntmps26
    go_wp2
    go_ret
    rw [HF.out]
    exact ⟨rfl, hx0.below⟩
  have h5i : decide ((5 : Int) < (p.code.length : Int)) = false := decide_eq_false (by omega)
  have h5n : decide (5 < p.code.length) = false := decide_eq_false (by omega)
  have h5' : p.code.length ≤ 5 := by omega
  by_cases h0 : p.code.length = 0
  · have HF : Hid (plchk p = 5) := plchk_none h0
    rw [h0]
    rw [h0] at hx0
    clear h0 h5 h5i h5n h5'
    go_enter Tryz.func26, Tryz.ntmps26
    go_wp2
    go_ret
    rw [HF.out]
    exact ⟨rfl, hx0.below⟩
  have h0i : ¬ ((p.code.length : Int) = 0) := by omega
  have hf := fun W (hb : Below w.heap.size w W) => refframe_any p.ticks p.spans _ W (HP.out.spans.all hb)
  have HW : Hid (∀ W, Below w.heap.size w W → Calls Tryz.prog 55 #[.slice wa p.wires.length wc] W fun e w' => e = .returned (.tuple #[.int .i64 (wschk p.wires).1, .int .i64 (wschk p.wires).2]) ∧ Below W.heap.size W w') := fun W hb => refwires_any p.wires _ W (HP.out.wires.all hb)
  by_cases hfr : (fchk p.ticks p.spans).2 = 0
  · by_cases hwr : (wschk p.wires).2 = 0
    · rw [hfr] at hf
      rw [hwr] at HW
      have HSP : Hid (p.spans.any (spanOut p.code.length) = true → plchk p = 1) := fun h => plchk_span h5' h0 hfr hwr h
      have HWR : Hid (p.spans.any (spanOut p.code.length) = false → p.wires.any (wireOut p.code.length) = true → plchk p = 1) := fun h1 h => plchk_wire h5' h0 hfr hwr h1 h
      have HTL : Hid (p.spans.any (spanOut p.code.length) = false → p.wires.any (wireOut p.code.length) = false → plchk p = if codesE p.code ≠ 0 then codesE p.code else if portsAny p.wires 0 p.code = true then 3 else 0) := fun h1 h => plchk_tail h5' h0 hfr hwr h1 h
      have hsl : p.spans.length ≤ 12 := (fchk_zero hfr).2.2.1
      have hwl : p.wires.length ≤ 12 := (wschk_ok hwr).1
      generalize (fchk p.ticks p.spans).1 = f1 at hf
      generalize (wschk p.wires).1 = g1 at HW
      clear hfr hwr
      have q1 := hf _ hx0.below
      clear hf
      go_enter Tryz.func26, Tryz.ntmps26
      go_wp2_with (first
        | (go_at_call 54; refine q1.mono ?_; rintro e w1 ⟨rfl, b1⟩; clear q1; have hx1 := hx0.step b1; have k3 := hx1.c3; have q2 := HW.out w1 hx1.below; clear b1 HW)
        | (go_at_call 55; refine q2.mono ?_; rintro e w2 ⟨rfl, b2⟩; clear q2 k3; have hx2 := hx1.step b2; clear b2 hx1))
      go_loopw [5] (fun i wr => ∃ k : Nat, k ≤ p.spans.length ∧ i = .int .i64 k ∧ Hid (∀ (j : Nat) y, j < k → p.spans[j]? = some y → spanOut p.code.length y = false) ∧ Bx w wr (.slice ca p.code.length cc) p.ticks (.slice sa p.spans.length sc) (.slice wa p.wires.length wc)) (fun i _ => p.spans.length - (intOf i).toNat)
      case atStart => exact ⟨0, Nat.zero_le _, rfl, fun j y hj => by omega, hx2⟩
      case round =>
      clear hx0 hx2
      obtain ⟨k, hk, rfl, HS, hx⟩ := hrel
      have k0 := hx.c0
      have k2 := hx.c2
      by_cases hkl : k < p.spans.length
      · have hki : (k : Int) < (p.spans.length : Int) := by omega
        obtain ⟨b, off, f, t, r, rfl, hlt, hy, _, _, d2⟩ := HP.out.spans.at hkl
        replace d2 := (hx.below.cell (p := ⟨b, _, none⟩) hlt).trans d2
        have HY : Hid (p.spans[k]? = some (f, t, r)) := hy
        clear hy
        by_cases hd : (p.code.length : Int) ≤ r
        · have HF : Hid (plchk p = 1) := HSP.out (any_hit HY.out (by simp [spanOut, hd]))
          clear HY HSP HWR HTL
          go_wp2
          go_quiet (fail)
          go_wp2
          go_ret
          rw [HF.out]
          exact ⟨rfl, (hx.dN _).below⟩
        · have hd' : decide ((p.code.length : Int) ≤ r) = false := by simpa using hd
          have HN : Hid (spanOut p.code.length (f, t, r) = false) := by show _ = _; simp [spanOut]; omega
          go_wp2
          go_quiet (fail)
          go_wp2
          go_roundw
          case rel => exact ⟨k + 1, by omega, by go_num, upto_next HS.out HY.out HN.out, hx.dN _⟩
          case measure => simp [intOf]; omega
      have hki : decide ((k : Int) < (p.spans.length : Int)) = false := decide_eq_false (by omega)
      have hkn : decide (k < p.spans.length) = false := decide_eq_false (by omega)
      have HSF : Hid (p.spans.any (spanOut p.code.length) = false) := any_false (fun j y hj hy => HS.out j y (by omega) hy)
      clear HS HSP
      go_wp2
      rename World => wo
      go_loopw [6] (fun i wr => ∃ k : Nat, k ≤ p.wires.length ∧ i = .int .i64 k ∧ Hid (∀ (j : Nat) y, j < k → p.wires[j]? = some y → wireOut p.code.length y = false) ∧ Bx w wr (.slice ca p.code.length cc) p.ticks (.slice sa p.spans.length sc) (.slice wa p.wires.length wc)) (fun i _ => p.wires.length - (intOf i).toNat)
      case atStart => exact ⟨0, Nat.zero_le _, rfl, fun j y hj => by omega, hx⟩
      case round =>
      clear hx k0 k2 hkl hki hkn hk
      obtain ⟨k, hk, rfl, HS, hx⟩ := hrel
      have k0 := hx.c0
      have k3 := hx.c3
      by_cases hkl : k < p.wires.length
      · have hki : (k : Int) < (p.wires.length : Int) := by omega
        obtain ⟨b, off, f, t, kd, d, rfl, hlt, hy, d0, d1, _, _⟩ := HP.out.wires.at hkl
        replace d0 := (hx.below.cell (p := ⟨b, _, none⟩) hlt).trans d0
        replace d1 := (hx.below.cell (p := ⟨b, _, none⟩) hlt).trans d1
        have HY : Hid (p.wires[k]? = some (f, t, kd, d)) := hy
        clear hy
        by_cases hd : (p.code.length : Int) ≤ f
        · have HF : Hid (plchk p = 1) := HWR.out HSF.out (any_hit HY.out (by simp [wireOut, hd]))
          clear HY HWR HTL
          go_wp2
          go_quiet (fail)
          go_wp2
          go_ret
          rw [HF.out]
          exact ⟨rfl, (hx.dN _).below⟩
        · have hd' : decide ((p.code.length : Int) ≤ f) = false := by simpa using hd
          by_cases he : (p.code.length : Int) ≤ t
          · have HF : Hid (plchk p = 1) := HWR.out HSF.out (any_hit HY.out (by simp [wireOut, he]))
            clear HY HWR HTL
            go_wp2
            go_quiet (fail)
            go_wp2
            go_ret
            rw [HF.out]
            exact ⟨rfl, (hx.dN _).below⟩
          · have he' : decide ((p.code.length : Int) ≤ t) = false := by simpa using he
            have HN : Hid (wireOut p.code.length (f, t, kd, d) = false) := by show _ = _; simp [wireOut]; omega
            go_wp2
            go_quiet (fail)
            go_wp2
            go_roundw
            case rel => exact ⟨k + 1, by omega, by go_num, upto_next HS.out HY.out HN.out, hx.dN _⟩
            case measure => simp [intOf]; omega
      have hki : decide ((k : Int) < (p.wires.length : Int)) = false := decide_eq_false (by omega)
      have hkn : decide (k < p.wires.length) = false := decide_eq_false (by omega)
      have HT : Hid (plchk p = if codesE p.code ≠ 0 then codesE p.code else if portsAny p.wires 0 p.code = true then 3 else 0) := HTL.out HSF.out (any_false (fun j y hj hy => HS.out j y (by omega) hy))
      clear HS HWR HTL HSF
      go_wp2
      rename World => wp
      go_loopw [4, 7] (fun q i wr => ∃ k : Nat, k ≤ p.code.length ∧ i = .int .i64 k ∧ q = .int .i64 0 ∧ Hid (∀ (j : Nat) y, j < k → p.code[j]? = some y → (chk y).2 = 0) ∧ Bx w wr (.slice ca p.code.length cc) p.ticks (.slice sa p.spans.length sc) (.slice wa p.wires.length wc)) (fun _ i _ => p.code.length - (intOf i).toNat)
      case atStart => exact ⟨0, Nat.zero_le _, rfl, rfl, fun j y hj => by omega, hx⟩
      case round =>
      clear hx k0 k3 hkl hki hkn hk
      obtain ⟨k, hk, rfl, rfl, HS, hx⟩ := hrel
      have k0 := hx.c0
      by_cases hkl : k < p.code.length
      · have hki : (k : Int) < (p.code.length : Int) := by omega
        obtain ⟨b, off, u, n, g, c, rfl, hlt, hy, d0, hn, ho⟩ := HP.out.code.at hkl
        replace d0 := (hx.below.cell (p := ⟨b, _, none⟩) hlt).trans d0
        have HY : Hid (p.code[k]? = some c) := hy
        have q1 := refcode_any _ c wr (ho.all hx.below)
        clear hy ho hn
        by_cases hz : (chk c).2 = 0
        · have HZ : Hid ((chk c).2 = 0) := hz
          rw [hz] at q1
          generalize (chk c).1 = c1 at q1
          clear hz
          go_wp2_with (go_at_call 56; refine q1.mono ?_; rintro e w1 ⟨rfl, b1⟩; clear q1)
          go_roundw
          case rel =>
            refine ⟨k + 1, by omega, by go_num, rfl, fun j y hj hj2 => ?_, hx.step b1⟩
            by_cases hjk : j < k
            · exact HS.out j y hjk hj2
            · obtain rfl : j = k := by omega
              rw [HY.out] at hj2
              obtain rfl := Option.some.inj hj2
              exact HZ.out
          case measure => simp [intOf]; omega
        · have hce := codesE_hit HS.out HY.out hz
          have HF : Hid (plchk p = (chk c).2) := by show _ = _; rw [HT.out, hce, if_pos hz]
          clear hce HT HY HS
          generalize (chk c).1 = c1 at q1
          generalize (chk c).2 = c2 at q1 HF hz
          have hzb : (c2 == 0) = false := by simpa using hz
          go_wp2_with (go_at_call 56; refine q1.mono ?_; rintro e w1 ⟨rfl, b1⟩; clear q1)
          go_ret
          rw [HF.out]
          exact ⟨rfl, (hx.step b1).below⟩
      have hki : decide ((k : Int) < (p.code.length : Int)) = false := decide_eq_false (by omega)
      have hkn : decide (k < p.code.length) = false := decide_eq_false (by omega)
      have hce := codesE_ok (l := p.code) (fun j y hj hy => HS.out j y (by omega) hy)
      have HC : Hid (∀ (j : Nat) y, p.code[j]? = some y → (chk y).2 = 0) := fun j y hy => HS.out j y (by have := (List.getElem?_eq_some_iff.1 hy).1; omega) hy
      have HE : Hid (plchk p = if portsAny p.wires 0 p.code = true then 3 else 0) := by show _ = _; rw [HT.out, hce, if_neg (by simp)]
      clear hce HT HS
      go_wp2
      -- PORTS
      rename World => wq
      go_loopw [8] (fun i wr => ∃ k : Nat, k ≤ p.code.length ∧ i = .int .i64 k ∧ Hid (∀ (j : Nat) y, j < k → p.code[j]? = some y → portsB p.wires j y = false) ∧ Bx w wr (.slice ca p.code.length cc) p.ticks (.slice sa p.spans.length sc) (.slice wa p.wires.length wc)) (fun i _ => p.code.length - (intOf i).toNat)
      case atStart => exact ⟨0, Nat.zero_le _, rfl, fun j y hj => by omega, hx⟩
      case round =>
      clear hx k0 hkl hki hkn hk
      obtain ⟨k, hk, rfl, HS, hx⟩ := hrel
      have k0 := hx.c0
      by_cases hkl : k < p.code.length
      · have hki : (k : Int) < (p.code.length : Int) := by omega
        obtain ⟨b, off, u, n, g, c, rfl, hlt, hy, d0, hn, ho⟩ := HP.out.code.at hkl
        have HY : Hid (p.code[k]? = some c) := hy
        have HPB : Hid (portsB p.wires k c = true → plchk p = 3) := fun hh => by rw [HE.out, portsAny_hit HS.out HY.out hh, if_pos rfl]
        have HD : Hid (∀ W, Below w.heap.size w W → W.cell? ⟨b, off + k, none⟩ = some (.slice u n g)) := fun W hW => (hW.cell (p := ⟨b, _, none⟩) hlt).trans d0
        have HPT : Hid (∀ (what : Int) W, what = 8 ∨ what = 9 → Below w.heap.size w W → Calls Tryz.prog 57 #[.slice u n g, .int .i64 what] W fun e w' => ∃ v', e = .returned v' ∧ Ints w' v' (wiresB what c) ∧ Below W.heap.size W w') := fun what W hw hW => ports_any what _ c W (ho.all hW) (HC.out k c hy) hw
        have q1 := HPT.out 8 wr (Or.inl rfl) hx.below
        replace d0 := HD.out wr hx.below
        clear hy ho hn
        have hx' := hx
        go_wp2_with (first
          | (go_at_call 57; refine q1.mono ?_; rintro e w1 ⟨v1, rfl, i1, b1⟩; clear q1 d0; have hx1 := hx'.step b1; have d0 := HD.out w1 hx1.below; have k0 := hx1.c0; have q2 := HPT.out 9 w1 (Or.inr rfl) hx1.below; obtain ⟨o1, c1, e1, _⟩ := ints_form i1; subst e1)
          | (go_at_call 57; refine q2.mono ?_; rintro e w2 ⟨v2, rfl, i2, b2⟩; clear q2 d0; have hx2 := hx1.step b2; have HA1 : Hid (Stp w2 (.slice o1 (wiresB 8 c).length c1) (wiresB 8 c)) := stp_of_ints (ints_all i1 b2); have HA2 : Hid (Stp w2 v2 (wiresB 9 c)) := stp_of_ints i2; obtain ⟨o2', c2, e2, _⟩ := ints_form i2; subst e2; clear i1 i2))
        have HZ11 : Hid (∀ z, ∀ {i : Nat}, (wiresB 8 c)[i]? = some z → z ∈ wiresB 8 c) := fun z i h => List.mem_of_getElem? h
        have HZ12 : Hid (∀ z, ∀ {i : Nat}, (wiresB 9 c)[i]? = some z → z ∈ wiresB 9 c) := fun z i h => List.mem_of_getElem? h
        have hl8 := wires_len 8 c
        have hl9 := wires_len 9 c
        clear k0 hx hx' hx1 b1 b2 HD HPT hlt
        go_loopw [11] (fun i wr => ∃ m : Nat, m ≤ (wiresB 8 c).length ∧ i = .int .i64 m ∧ Hid (∀ (j : Nat) y, j < m → (wiresB 8 c)[j]? = some y → portB (·.1) p.wires k y = false) ∧ Below w2.heap.size w2 wr) (fun i _ => (wiresB 8 c).length - (intOf i).toNat)
        case atStart => exact ⟨0, Nat.zero_le _, rfl, fun j y hj => by omega, Below.refl _ _⟩
        case round =>
        obtain ⟨m, hm, rfl, HM, hB11⟩ := hrel
        have hxr := hx2.step hB11
        have k3 := hxr.c3
        by_cases hml : m < (wiresB 8 c).length
        · have hmi : (m : Int) < ((wiresB 8 c).length : Int) := by omega
          obtain ⟨b', o', z, rfl, e0, hz⟩ := Stp.at HA1.out hB11 hml
          have hzr := wires_mem (HZ11.out z hz)
          obtain ⟨zn, rfl⟩ : ∃ n : Nat, z = n := ⟨z.toNat, by omega⟩
          have HZ : Hid ((wiresB 8 c)[m]? = some (zn : Int)) := hz
          clear hz hzr
          by_cases hzl : p.wires.length ≤ zn
          · have hzi : (p.wires.length : Int) ≤ (zn : Int) := by omega
            have HF : Hid (plchk p = 3) := HPB.out (port_out (any_hit HZ.out (by unfold portB; rw [Int.toNat_natCast, List.getElem?_eq_none hzl])))
            clear HZ HM
            go_wp2
            go_quiet (fail)
            go_wp2
            go_ret
            rw [HF.out]
            exact ⟨rfl, (hxr.dN _).below⟩
          · have hzi : decide ((p.wires.length : Int) ≤ (zn : Int)) = false := decide_eq_false (by omega)
            have hzn : decide (p.wires.length ≤ zn) = false := decide_eq_false (by omega)
            have hzl' : (zn : Int) < (p.wires.length : Int) := by omega
            obtain ⟨b2, o2, f, t, kd, d, rfl, hlt2, hy2, d0, d1, _, _⟩ := HP.out.wires.at (show zn < p.wires.length by omega)
            replace d0 := (hxr.below.cell (p := ⟨b2, _, none⟩) hlt2).trans d0
            replace d1 := (hxr.below.cell (p := ⟨b2, _, none⟩) hlt2).trans d1
            have hpv : portB (·.1) p.wires k (zn : Int) = !decide (f = (k : Int)) := by unfold portB; rw [Int.toNat_natCast, hy2]
            by_cases hfk : f = (k : Int)
            · have HN : Hid (portB (·.1) p.wires k (zn : Int) = false) := by show _ = _; rw [hpv, decide_eq_true hfk]; rfl
              clear hpv hy2
              rw [hfk] at d0
              clear hfk
              go_wp2
              go_quiet (fail)
              go_wp2
              go_roundw
              case rel => exact ⟨m + 1, by omega, by go_num, upto_next HM.out HZ.out HN.out, below_dN hB11 _⟩
              case measure => simp [intOf]; omega
            · have HF : Hid (plchk p = 3) := HPB.out (port_out (any_hit HZ.out (by rw [hpv, decide_eq_false hfk]; rfl)))
              have hfb : (f == (k : Int)) = false := by simpa using hfk
              clear hpv hy2 HZ HM
              go_wp2
              go_quiet (fail)
              go_wp2
              go_ret
              rw [HF.out]
              exact ⟨rfl, (hxr.dN _).below⟩
        have hmi : decide ((m : Int) < ((wiresB 8 c).length : Int)) = false := decide_eq_false (by omega)
        have hmn : decide (m < (wiresB 8 c).length) = false := decide_eq_false (by omega)
        have HN11 : Hid ((wiresB 8 c).any (portB (·.1) p.wires k) = false) := any_false (fun j y hj hy => HM.out j y (by omega) hy)

        go_wp2
        rename World => w3
        go_loopw [12] (fun i wr => ∃ m : Nat, m ≤ (wiresB 9 c).length ∧ i = .int .i64 m ∧ Hid (∀ (j : Nat) y, j < m → (wiresB 9 c)[j]? = some y → portB (·.2.1) p.wires k y = false) ∧ Below w2.heap.size w2 wr) (fun i _ => (wiresB 9 c).length - (intOf i).toNat)
        case atStart => exact ⟨0, Nat.zero_le _, rfl, fun j y hj => by omega, hB11⟩
        case round =>
        obtain ⟨m, hm, rfl, HM, hB12⟩ := hrel
        have hxr := hx2.step hB12
        have k3 := hxr.c3
        by_cases hml : m < (wiresB 9 c).length
        · have hmi : (m : Int) < ((wiresB 9 c).length : Int) := by omega
          obtain ⟨b', o', z, rfl, e0, hz⟩ := Stp.at HA2.out hB12 hml
          have hzr := wires_mem (HZ12.out z hz)
          obtain ⟨zn, rfl⟩ : ∃ n : Nat, z = n := ⟨z.toNat, by omega⟩
          have HZ : Hid ((wiresB 9 c)[m]? = some (zn : Int)) := hz
          clear hz hzr
          by_cases hzl : p.wires.length ≤ zn
          · have hzi : (p.wires.length : Int) ≤ (zn : Int) := by omega
            have HF : Hid (plchk p = 3) := HPB.out (port_in (any_hit HZ.out (by unfold portB; rw [Int.toNat_natCast, List.getElem?_eq_none hzl])))
            clear HZ HM
            go_wp2
            go_quiet (fail)
            go_wp2
            go_ret
            rw [HF.out]
            exact ⟨rfl, (hxr.dN _).below⟩
          · have hzi : decide ((p.wires.length : Int) ≤ (zn : Int)) = false := decide_eq_false (by omega)
            have hzn : decide (p.wires.length ≤ zn) = false := decide_eq_false (by omega)
            have hzl' : (zn : Int) < (p.wires.length : Int) := by omega
            obtain ⟨b2, o2, f, t, kd, d, rfl, hlt2, hy2, d0, d1, _, _⟩ := HP.out.wires.at (show zn < p.wires.length by omega)
            replace d0 := (hxr.below.cell (p := ⟨b2, _, none⟩) hlt2).trans d0
            replace d1 := (hxr.below.cell (p := ⟨b2, _, none⟩) hlt2).trans d1
            have hpv : portB (·.2.1) p.wires k (zn : Int) = !decide (t = (k : Int)) := by unfold portB; rw [Int.toNat_natCast, hy2]
            by_cases hfk : t = (k : Int)
            · have HN : Hid (portB (·.2.1) p.wires k (zn : Int) = false) := by show _ = _; rw [hpv, decide_eq_true hfk]; rfl
              clear hpv hy2
              rw [hfk] at d1
              clear hfk
              go_wp2
              go_quiet (fail)
              go_wp2
              go_roundw
              case rel => exact ⟨m + 1, by omega, by go_num, upto_next HM.out HZ.out HN.out, below_dN hB12 _⟩
              case measure => simp [intOf]; omega
            · have HF : Hid (plchk p = 3) := HPB.out (port_in (any_hit HZ.out (by rw [hpv, decide_eq_false hfk]; rfl)))
              have hfb : (t == (k : Int)) = false := by simpa using hfk
              clear hpv hy2 HZ HM
              go_wp2
              go_quiet (fail)
              go_wp2
              go_ret
              rw [HF.out]
              exact ⟨rfl, (hxr.dN _).below⟩
        have hmi : decide ((m : Int) < ((wiresB 9 c).length : Int)) = false := decide_eq_false (by omega)
        have hmn : decide (m < (wiresB 9 c).length) = false := decide_eq_false (by omega)
        have HN12 : Hid ((wiresB 9 c).any (portB (·.2.1) p.wires k) = false) := any_false (fun j y hj hy => HM.out j y (by omega) hy)

        have HNN : Hid (portsB p.wires k c = false) := by show _ = _; unfold portsB; rw [HN11.out, HN12.out]; rfl
        go_wp2
        go_roundw
        case rel => exact ⟨k + 1, by omega, by go_num, ports_next HS.out HY.out HNN.out, hxr⟩
        case measure => simp [intOf]; omega
      · have hki : decide ((k : Int) < (p.code.length : Int)) = false := decide_eq_false (by omega)
        have hkn : decide (k < p.code.length) = false := decide_eq_false (by omega)
        have HF : Hid (plchk p = 0) := by show _ = _; rw [HE.out, portsAny_ok (fun j y hj hy => HS.out j y (by omega) hy), if_neg (by simp)]
        clear HE HS
        go_wp2
        go_ret
        rw [HF.out]
        exact ⟨rfl, hx.below⟩
      -- END
    · have HF : Hid (plchk p = (wschk p.wires).2) := plchk_wires h5' h0 hfr hwr
      rw [hfr] at hf
      generalize (fchk p.ticks p.spans).1 = f1 at hf
      generalize (wschk p.wires).1 = g1 at HW
      generalize (wschk p.wires).2 = g2 at HW HF hwr
      have hzb : (g2 == 0) = false := by simpa using hwr
      have q1 := hf _ hx0.below
      clear hf hfr
      go_enter Tryz.func26, Tryz.ntmps26
      go_wp2_with (first
        | (go_at_call 54; refine q1.mono ?_; rintro e w1 ⟨rfl, b1⟩; clear q1; have hx1 := hx0.step b1; have k3 := hx1.c3; have q2 := HW.out w1 hx1.below; clear b1 HW)
        | (go_at_call 55; refine q2.mono ?_; rintro e w2 ⟨rfl, b2⟩; clear q2 k3; have hx2 := hx1.step b2; clear b2 hx1))
      go_ret
      rw [HF.out]
      exact ⟨rfl, hx2.below⟩
  · have HF : Hid (plchk p = (fchk p.ticks p.spans).2) := plchk_frame h5' h0 hfr
    generalize (fchk p.ticks p.spans).1 = f1 at hf
    generalize (fchk p.ticks p.spans).2 = f2 at hf HF hfr
    have hzb : (f2 == 0) = false := by simpa using hfr
    have q1 := hf _ hx0.below
    clear hf HW
    go_enter Tryz.func26, Tryz.ntmps26
    go_wp2_with (go_at_call 54; refine q1.mono ?_; rintro e w1 ⟨rfl, b1⟩; clear q1; have hx1 := hx0.step b1; clear b1)
    go_ret
    rw [HF.out]
    exact ⟨rfl, hx1.below⟩
end Go.Proofs.YtajfgmlockjmhaiGreatDoor

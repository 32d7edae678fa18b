/-
  PlRoom, PlRoom2, PlCheck, GNew, CrNew, CarG: joined into one text.
-/
import Derived.Test.YtajfgmlockjmhafGreatDoorPlAny
import Derived.Test.YtajfgmlockjmhafGreatDoorJa2
import Derived.Test.YtajfgmlockjmhafGreatDoorJa7
import Derived.BigQuiet
import Derived.Test.YtajfgmlockjmhafGreatDoorFCheck
import Derived.Test.YtajfgmlockjmhafGreatDoorJa1
import Derived.Test.YtajfgmlockjmhafGreatDoorJa4
import Derived.Deep.RegionHeld3
import Derived.Deep.CutRange
import Derived.Deep.RegionWith
import Derived.RangeFuncNested
import Derived.Test.YtajfgmlockjmhafGreatDoorJa3
import Derived.Test.YtajfgmlockjmhafGreatDoorJa10
namespace Go.Proofs.YtajfgmlockjmhafGreatDoor
open Go.RowKit

set_option maxRecDepth 100000 in
set_option maxHeartbeats 1000000 in
theorem more1_any (s : S3) (rb n : Nat) (w : World) (h : w.cell? ⟨rb, 0, none⟩ = some (.int .i64 n)) :
    Calls Tryz.prog 65 #[.agg #[.int .i64 s.1, .int .i64 s.2.1, .int .i64 s.2.2], .pointer (some ⟨rb, 0, none⟩)] w fun e w' => e = .returned (.bool (spanOut n s)) ∧ Below w.heap.size w w' := by
  have hlt := lt_of_cell h
  have hne : rb ≠ w.heap.size := by omega
  obtain ⟨a, b, r⟩ := s
  simp only
  go_enter Tryz.func65, Tryz.ntmps65
  go_wp2
  go_ret
  exact ⟨rfl, (Below.refl _ _).alloc (Nat.le_refl _) _⟩
set_option maxRecDepth 100000 in
set_option maxHeartbeats 1000000 in
theorem more2_any (s : W4) (rb n : Nat) (w : World) (h : w.cell? ⟨rb, 0, none⟩ = some (.int .i64 n)) :
    Calls Tryz.prog 67 #[.agg #[.int .i64 s.1, .int .i64 s.2.1, .int .i64 s.2.2.1, .int .i64 s.2.2.2], .pointer (some ⟨rb, 0, none⟩)] w fun e w' => e = .returned (.bool (wireOut n s)) ∧ Below w.heap.size w w' := by
  have hlt := lt_of_cell h
  have hne : rb ≠ w.heap.size := by omega
  obtain ⟨a, b, r, d⟩ := s
  simp only
  by_cases h1 : (n : Int) ≤ a
  · have HF : Hid (wireOut n (a, b, r, d) = true) := by show _ = _; simp [wireOut, h1]
    go_enter Tryz.func67, Tryz.ntmps67
    go_wp2
    go_ret
    exact ⟨ret_bool HF.out.symm, (Below.refl _ _).alloc (Nat.le_refl _) _⟩
  · have h1' : decide ((n : Int) ≤ a) = false := decide_eq_false h1
    have HF : Hid (wireOut n (a, b, r, d) = decide ((n : Int) ≤ b)) := by show _ = _; simp [wireOut, h1']
    go_enter Tryz.func67, Tryz.ntmps67
    go_wp2
    go_ret
    exact ⟨ret_bool HF.out.symm, (Below.refl _ _).alloc (Nat.le_refl _) _⟩
set_option maxRecDepth 100000 in
set_option maxHeartbeats 2000000 in
theorem namesmore_any (p : PD) (vc vs vw : Value) (w : World) (hp : Pln w vc vs vw p) (h1 : p.spans.length ≤ 12) (h2 : p.wires.length ≤ 12) :
    Calls Tryz.prog 46 #[plV vc p.ticks vs vw] w fun e w' => e = .returned (.bool (p.spans.any (spanOut p.code.length) || p.wires.any (wireOut p.code.length))) ∧ Below w.heap.size w w' := by
  obtain ⟨ca, cc, rfl⟩ := hp.code.form
  obtain ⟨sa, sc, rfl⟩ := hp.spans.form
  obtain ⟨wa, wc, rfl⟩ := hp.wires.form
  unfold plV
  have hx0 := Bx.first w (.slice ca p.code.length cc) p.ticks (.slice sa p.spans.length sc) (.slice wa p.wires.length wc)
  obtain ⟨W0, hW0⟩ : ∃ W0, (w.alloc (.cells #[.slice ca p.code.length cc, .int .i64 p.ticks, .slice sa p.spans.length sc, .slice wa p.wires.length wc] 26)).alloc (.cells #[.int .i64 p.code.length] 3) = W0 := ⟨_, rfl⟩
  have hx1 : Bx w W0 (.slice ca p.code.length cc) p.ticks (.slice sa p.spans.length sc) (.slice wa p.wires.length wc) := by rw [← hW0]; exact hx0.step ((Below.refl _ _).alloc (Nat.le_refl _) _)
  have hr : W0.cell? ⟨w.heap.size + 1, 0, none⟩ = some (.int .i64 p.code.length) := by rw [← hW0]; simp
  have hrl := lt_of_cell hr
  have q1 := con_more1 p.spans (spanOut p.code.length) _ (w.heap.size + 1) W0 h1 (hp.spans.all hx1.below) (fun W hb o _ => more1_any o _ _ W ((hb.cell (p := ⟨w.heap.size + 1, 0, none⟩) hrl).trans hr))
  have HQ : Hid (∀ W1, Below W0.heap.size W0 W1 → Calls Tryz.prog 66 #[.slice wa p.wires.length wc, .func (.func 67) #[] #[.pointer (some ⟨w.heap.size + 1, 0, none⟩)]] W1 fun e w' => e = .returned (.bool (p.wires.any (wireOut p.code.length))) ∧ Below W1.heap.size W1 w') := fun W1 hb1 => con_more2 p.wires (wireOut p.code.length) _ (w.heap.size + 1) W1 h2 ((hp.wires.all hx1.below).all hb1) (fun W hb o _ => more2_any o _ _ W ((hb.cell (p := ⟨w.heap.size + 1, 0, none⟩) (Nat.lt_of_lt_of_le hrl hb1.size)).trans ((hb1.cell (p := ⟨w.heap.size + 1, 0, none⟩) hrl).trans hr)))
  have k3 : ∀ W1, Below W0.heap.size W0 W1 → W1.cell? ⟨w.heap.size, 3, none⟩ = some (.slice wa p.wires.length wc) := fun W1 hb => (hx1.step hb).c3
  have K3 : Hid (∀ W1, Below W0.heap.size W0 W1 → W1.cell? ⟨w.heap.size, 3, none⟩ = some (.slice wa p.wires.length wc)) := k3
  clear hp k3 hr
  subst hW0
  cases ha : p.spans.any (spanOut p.code.length) with
  | true =>
    rw [ha] at q1
    go_enter Tryz.func46, Tryz.ntmps46
    go_wp2_with (go_at_call 64; refine q1.mono ?_; rintro e w1 ⟨rfl, b1⟩)
    go_ret
    exact ⟨rfl, hx1.below.trans (b1.mono hx1.below.size)⟩
  | false =>
    rw [ha] at q1
    go_enter Tryz.func46, Tryz.ntmps46
    go_wp2_with (first
      | (go_at_call 64; refine q1.mono ?_; rintro e w1 ⟨rfl, b1⟩; have c3 := K3.out w1 b1; have q2 := HQ.out w1 b1)
      | (go_at_call 66; refine q2.mono ?_; rintro e w2 ⟨rfl, b2⟩))
    go_ret
    have hb1 := hx1.below.trans (b1.mono hx1.below.size)
    exact ⟨rfl, hb1.trans (b2.mono hb1.size)⟩
end Go.Proofs.YtajfgmlockjmhafGreatDoor
namespace Go.Proofs.YtajfgmlockjmhafGreatDoor
open Go.RowKit

set_option maxRecDepth 100000 in
set_option maxHeartbeats 2000000 in
theorem room1_any (ws : List W4) (ri : Nat) (i : Int) (hi : 0 ≤ i ∧ i < 12) (v : Value) (vb rb : Nat) (w : World) (hw : Wrs w v ws) (hv : w.cell? ⟨vb, 0, none⟩ = some v) (hr : w.cell? ⟨rb, 0, none⟩ = some (.int .i64 ri)) :
    Calls Tryz.prog 90 #[.int .i64 i, .pointer (some ⟨vb, 0, none⟩), .pointer (some ⟨rb, 0, none⟩)] w fun e w' => e = .returned (.bool (portB (·.1) ws ri i)) ∧ Below w.heap.size w w' := by
  obtain ⟨wa, wc, rfl⟩ := hw.form
  obtain ⟨j, rfl⟩ : ∃ j : Nat, i = j := ⟨i.toNat, by omega⟩
  by_cases hj : j < ws.length
  · obtain ⟨b, off, f, t, kd, dp, rfl, hlt, hy, d0, d1, _, _⟩ := hw.at hj
    have hji : decide ((ws.length : Int) ≤ (j : Int)) = false := decide_eq_false (by omega)
    have hjn : decide (ws.length ≤ j) = false := decide_eq_false (by omega)
    have hjl : (j : Int) < (ws.length : Int) := by omega
    have hP : portB (·.1) ws ri (j : Int) = !decide (f = (ri : Int)) := by
      unfold portB
      rw [Int.toNat_natCast, hy]
    clear hy hw
    by_cases he : f = (ri : Int)
    · have HP : Hid (portB (·.1) ws ri (j : Int) = false) := by show _ = _; rw [hP]; simp [he]
      clear hP
      subst he
      go_enter Tryz.func90, Tryz.ntmps90
      go_wp2
      go_quiet (fail)
      go_wp2
      go_ret
      exact ⟨ret_bool HP.out.symm, below_dN (Below.refl _ _) _⟩
    · have HP : Hid (portB (·.1) ws ri (j : Int) = true) := by show _ = _; rw [hP]; simp [he]
      have HE : Hid ((f != (ri : Int)) = true) := by show _ = _; simpa using he
      clear hP he
      go_enter Tryz.func90, Tryz.ntmps90
      go_wp2
      go_quiet (fail)
      go_wp2
      go_ret
      exact ⟨ret_bool (HE.out.trans HP.out.symm), below_dN (Below.refl _ _) _⟩
  · have hji : (ws.length : Int) ≤ (j : Int) := by omega
    have HP : Hid (portB (·.1) ws ri (j : Int) = true) := by
      show _ = _
      unfold portB
      rw [Int.toNat_natCast, List.getElem?_eq_none (by omega)]
    clear hw
    go_enter Tryz.func90, Tryz.ntmps90
    go_wp2
    go_quiet (fail)
    go_wp2
    go_ret
    exact ⟨ret_bool HP.out.symm, below_dN (Below.refl _ _) _⟩
set_option maxRecDepth 100000 in
set_option maxHeartbeats 2000000 in
theorem room2_any (ws : List W4) (ri : Nat) (i : Int) (hi : 0 ≤ i ∧ i < 12) (v : Value) (vb rb : Nat) (w : World) (hw : Wrs w v ws) (hv : w.cell? ⟨vb, 0, none⟩ = some v) (hr : w.cell? ⟨rb, 0, none⟩ = some (.int .i64 ri)) :
    Calls Tryz.prog 91 #[.int .i64 i, .pointer (some ⟨vb, 0, none⟩), .pointer (some ⟨rb, 0, none⟩)] w fun e w' => e = .returned (.bool (portB (·.2.1) ws ri i)) ∧ Below w.heap.size w w' := by
  obtain ⟨wa, wc, rfl⟩ := hw.form
  obtain ⟨j, rfl⟩ : ∃ j : Nat, i = j := ⟨i.toNat, by omega⟩
  by_cases hj : j < ws.length
  · obtain ⟨b, off, f, t, kd, dp, rfl, hlt, hy, d0, d1, _, _⟩ := hw.at hj
    have hji : decide ((ws.length : Int) ≤ (j : Int)) = false := decide_eq_false (by omega)
    have hjn : decide (ws.length ≤ j) = false := decide_eq_false (by omega)
    have hjl : (j : Int) < (ws.length : Int) := by omega
    have hP : portB (·.2.1) ws ri (j : Int) = !decide (t = (ri : Int)) := by
      unfold portB
      rw [Int.toNat_natCast, hy]
    clear hy hw
    by_cases he : t = (ri : Int)
    · have HP : Hid (portB (·.2.1) ws ri (j : Int) = false) := by show _ = _; rw [hP]; simp [he]
      clear hP
      subst he
      go_enter Tryz.func91, Tryz.ntmps91
      go_wp2
      go_quiet (fail)
      go_wp2
      go_ret
      exact ⟨ret_bool HP.out.symm, below_dN (Below.refl _ _) _⟩
    · have HP : Hid (portB (·.2.1) ws ri (j : Int) = true) := by show _ = _; rw [hP]; simp [he]
      have HE : Hid ((t != (ri : Int)) = true) := by show _ = _; simpa using he
      clear hP he
      go_enter Tryz.func91, Tryz.ntmps91
      go_wp2
      go_quiet (fail)
      go_wp2
      go_ret
      exact ⟨ret_bool (HE.out.trans HP.out.symm), below_dN (Below.refl _ _) _⟩
  · have hji : (ws.length : Int) ≤ (j : Int) := by omega
    have HP : Hid (portB (·.2.1) ws ri (j : Int) = true) := by
      show _ = _
      unfold portB
      rw [Int.toNat_natCast, List.getElem?_eq_none (by omega)]
    clear hw
    go_enter Tryz.func91, Tryz.ntmps91
    go_wp2
    go_quiet (fail)
    go_wp2
    go_ret
    exact ⟨ret_bool HP.out.symm, below_dN (Below.refl _ _) _⟩
/-- What is wrong with a room's code. -/
def roomE (ws : List W4) (i : Nat) (c : List O3) : Int := if (chk c).2 ≠ 0 then (chk c).2 else if portsB ws i c = true then 3 else 0
theorem wiresB_len (what : Int) (c : List O3) : (wiresB what c).length ≤ 12 := by
  unfold wiresB pickN
  rw [List.length_map]
  exact Nat.le_trans (List.length_filter_le _ _) (by simp)
set_option maxRecDepth 100000 in
set_option maxHeartbeats 4000000 in
theorem checkroom_any (ws : List W4) (c : List O3) (ri : Nat) (vo vw : Value) (w : World) (hf : Forms w) (ho : Ops w vo c) (hw : Wrs w vw ws) :
    Calls Tryz.prog 69 #[.int .i64 ri, vo, vw] w fun e w' => e = .returned (wErr (roomE ws ri c)) ∧ Below w.heap.size w w' := by
  obtain ⟨oa, oc, rfl⟩ := ho.form
  obtain ⟨wa, wc, rfl⟩ := hw.form
  obtain ⟨W0, hW0⟩ : ∃ W0, (w.alloc (.cells #[.int .i64 ri] 3)).alloc (.cells #[.slice wa ws.length wc] 24) = W0 := ⟨_, rfl⟩
  have b0 : Below w.heap.size w W0 := by rw [← hW0]; exact ((Below.refl _ w).alloc (Nat.le_refl _) _).alloc (by simp) _
  have hr : W0.cell? ⟨w.heap.size, 0, none⟩ = some (.int .i64 ri) := by rw [← hW0]; simp
  have hv : W0.cell? ⟨w.heap.size + 1, 0, none⟩ = some (.slice wa ws.length wc) := by rw [← hW0]; simp
  have hrl := lt_of_cell hr
  have hvl := lt_of_cell hv
  by_cases h0 : (chk c).2 = 0
  · have q1 := wires_good _ c W0 (hf.all b0) (ho.all b0) h0
    have HR : Hid (roomE ws ri c = if portsB ws ri c = true then 3 else 0) := by show _ = _; unfold roomE; rw [if_neg (by simpa using h0)]
    have H1 : Hid (∀ W1 x, Below W0.heap.size W0 W1 → Ints W1 x (wiresB 8 c) → Calls Tryz.prog 20 #[x, .func (.func 90) #[] #[.pointer (some ⟨w.heap.size + 1, 0, none⟩), .pointer (some ⟨w.heap.size, 0, none⟩)]] W1 fun e w' => e = .returned (.bool ((wiresB 8 c).any (portB (·.1) ws ri))) ∧ Below W1.heap.size W1 w') := fun W1 x hb1 hx => con_room1 _ _ x _ _ W1 (wiresB_len 8 c) (stp_of_ints hx) (fun W hb o hom => room1_any ws ri o (wires_mem hom) _ _ _ W (((hw.all b0).all hb1).all hb) ((hb.cell (p := ⟨w.heap.size + 1, 0, none⟩) (Nat.lt_of_lt_of_le hvl hb1.size)).trans ((hb1.cell (p := ⟨w.heap.size + 1, 0, none⟩) hvl).trans hv)) ((hb.cell (p := ⟨w.heap.size, 0, none⟩) (Nat.lt_of_lt_of_le hrl hb1.size)).trans ((hb1.cell (p := ⟨w.heap.size, 0, none⟩) hrl).trans hr)))
    have H2 : Hid (∀ W1 x, Below W0.heap.size W0 W1 → Ints W1 x (wiresB 9 c) → Calls Tryz.prog 20 #[x, .func (.func 91) #[] #[.pointer (some ⟨w.heap.size + 1, 0, none⟩), .pointer (some ⟨w.heap.size, 0, none⟩)]] W1 fun e w' => e = .returned (.bool ((wiresB 9 c).any (portB (·.2.1) ws ri))) ∧ Below W1.heap.size W1 w') := fun W1 x hb1 hx => con_room2 _ _ x _ _ W1 (wiresB_len 9 c) (stp_of_ints hx) (fun W hb o hom => room2_any ws ri o (wires_mem hom) _ _ _ W (((hw.all b0).all hb1).all hb) ((hb.cell (p := ⟨w.heap.size + 1, 0, none⟩) (Nat.lt_of_lt_of_le hvl hb1.size)).trans ((hb1.cell (p := ⟨w.heap.size + 1, 0, none⟩) hvl).trans hv)) ((hb.cell (p := ⟨w.heap.size, 0, none⟩) (Nat.lt_of_lt_of_le hrl hb1.size)).trans ((hb1.cell (p := ⟨w.heap.size, 0, none⟩) hrl).trans hr)))
    have HB : Hid (portsB ws ri c = ((wiresB 8 c).any (portB (·.1) ws ri) || (wiresB 9 c).any (portB (·.2.1) ws ri))) := rfl
    clear hf ho hw hr hv h0
    generalize (wiresB 8 c).any (portB (·.1) ws ri) = A at H1 HB
    generalize (wiresB 9 c).any (portB (·.2.1) ws ri) = B at H2 HB
    subst hW0
    cases A with
    | true =>
      have HF : Hid (roomE ws ri c = 3) := by show _ = _; rw [HR.out, HB.out]; rfl
      go_enter Tryz.func69, Tryz.ntmps69
      go_wp2_with (first
        | (go_at_call 89; refine q1.mono ?_; rintro e w1 ⟨x, y, rfl, ix, iy, b1⟩; clear q1; have q2 := H1.out w1 x b1 ix)
        | (go_at_call 20; refine q2.mono ?_; rintro e w2 ⟨rfl, b2⟩; clear q2))
      go_ret
      rw [HF.out]
      have hb1 := b0.trans (b1.mono b0.size)
      exact ⟨rfl, hb1.trans (b2.mono hb1.size)⟩
    | false =>
      cases B with
      | true =>
        have HF : Hid (roomE ws ri c = 3) := by show _ = _; rw [HR.out, HB.out]; rfl
        go_enter Tryz.func69, Tryz.ntmps69
        go_wp2_with (first
          | (go_at_call 89; refine q1.mono ?_; rintro e w1 ⟨x, y, rfl, ix, iy, b1⟩; clear q1; have q2 := H1.out w1 x b1 ix)
          | (go_at_call 20; refine q2.mono ?_; rintro e w2 ⟨rfl, b2⟩; clear q2; have q3 := H2.out w2 y (b1.trans (b2.mono b1.size)) (ints_all iy b2))
          | (go_at_call 20; refine q3.mono ?_; rintro e w3 ⟨rfl, b3⟩; clear q3))
        go_ret
        rw [HF.out]
        have hb1 := b0.trans (b1.mono b0.size)
        have hb2 := hb1.trans (b2.mono hb1.size)
        exact ⟨rfl, hb2.trans (b3.mono hb2.size)⟩
      | false =>
        have HF : Hid (roomE ws ri c = 0) := by show _ = _; rw [HR.out, HB.out]; rfl
        go_enter Tryz.func69, Tryz.ntmps69
        go_wp2_with (first
          | (go_at_call 89; refine q1.mono ?_; rintro e w1 ⟨x, y, rfl, ix, iy, b1⟩; clear q1; have q2 := H1.out w1 x b1 ix)
          | (go_at_call 20; refine q2.mono ?_; rintro e w2 ⟨rfl, b2⟩; clear q2; have q3 := H2.out w2 y (b1.trans (b2.mono b1.size)) (ints_all iy b2))
          | (go_at_call 20; refine q3.mono ?_; rintro e w3 ⟨rfl, b3⟩; clear q3))
        go_ret
        rw [HF.out]
        have hb1 := b0.trans (b1.mono b0.size)
        have hb2 := hb1.trans (b2.mono hb1.size)
        exact ⟨rfl, hb2.trans (b3.mono hb2.size)⟩
  · have q1 := wires_fault _ c W0 (hf.all b0) (ho.all b0) h0
    have HF : Hid (roomE ws ri c = (chk c).2) := by show _ = _; unfold roomE; rw [if_pos h0]
    have he : errV (chk c).2 = .iface 70 (.int .i64 (chk c).2) := by unfold errV; rw [if_neg h0]
    have HE : Hid (wErr (chk c).2 = .iface 70 (.int .i64 (chk c).2)) := wErr_not h0
    rw [he] at q1
    clear he hf ho hw hr hv h0
    subst hW0
    go_enter Tryz.func69, Tryz.ntmps69
    go_wp2_with (go_at_call 89; refine q1.mono ?_; rintro e w1 ⟨rfl, b1⟩; clear q1)
    go_ret
    rw [HF.out, HE.out]
    exact ⟨rfl, b0.trans (b1.mono b0.size)⟩
end Go.Proofs.YtajfgmlockjmhafGreatDoor
namespace Go.Proofs.YtajfgmlockjmhafGreatDoor
open Go.RowKit

theorem fErr_w (e : Int) : fErr e = wErr e := rfl
theorem errV_w (e : Int) : errV e = wErr e := rfl
section
variable (p : PD) (ca sa wa : Option Addr) (cc sc wc : Nat) (w : World)
set_option maxRecDepth 100000 in
set_option maxHeartbeats 2000000 in
theorem plcheck_long (h : 5 < p.code.length) : Calls Tryz.prog 31 #[.agg #[.slice ca p.code.length cc, .int .i64 p.ticks, .slice sa p.spans.length sc, .slice wa p.wires.length wc]] w fun e w' => e = .returned (wErr 4) ∧ Below w.heap.size w w' := by
  have h5i : (5 : Int) < (p.code.length : Int) := by omega
  go_enter Tryz.func31, Tryz.ntmps31
  go_wp2
  go_ret
  exact ⟨rfl, (Below.refl _ _).alloc (Nat.le_refl _) _⟩
set_option maxRecDepth 100000 in
set_option maxHeartbeats 2000000 in
theorem plcheck_none (h : p.code.length = 0) : Calls Tryz.prog 31 #[.agg #[.slice ca p.code.length cc, .int .i64 p.ticks, .slice sa p.spans.length sc, .slice wa p.wires.length wc]] w fun e w' => e = .returned (wErr 5) ∧ Below w.heap.size w w' := by
  rw [h]
  go_enter Tryz.func31, Tryz.ntmps31
  go_wp2
  go_ret
  exact ⟨rfl, (Below.refl _ _).alloc (Nat.le_refl _) _⟩
set_option maxRecDepth 100000 in
set_option maxHeartbeats 2000000 in
theorem plcheck_frame (hp : Pln w (.slice ca p.code.length cc) (.slice sa p.spans.length sc) (.slice wa p.wires.length wc) p) (h1 : p.code.length ≤ 5) (h2 : p.code.length ≠ 0) (h3 : (fchk p.ticks p.spans).2 ≠ 0) : Calls Tryz.prog 31 #[.agg #[.slice ca p.code.length cc, .int .i64 p.ticks, .slice sa p.spans.length sc, .slice wa p.wires.length wc]] w fun e w' => e = .returned (wErr (fchk p.ticks p.spans).2) ∧ Below w.heap.size w w' := by
  have h5i : decide ((5 : Int) < (p.code.length : Int)) = false := decide_eq_false (by omega)
  have h5n : decide (5 < p.code.length) = false := decide_eq_false (by omega)
  have h0i : ¬ ((p.code.length : Int) = 0) := by omega
  have hx0 := Bx.first w (.slice ca p.code.length cc) p.ticks (.slice sa p.spans.length sc) (.slice wa p.wires.length wc)
  have q1 := fcheck_any p.ticks p.spans _ _ (hp.spans.all hx0.below)
  rw [fErr_w, wErr_not h3] at q1
  rw [wErr_not h3]
  generalize (fchk p.ticks p.spans).2 = z at q1
  generalize (fchk p.ticks p.spans).1 = y at q1
  clear hp h1 h2 h3
  go_enter Tryz.func31, Tryz.ntmps31
  go_wp2_with (go_at_call 44; refine q1.mono ?_; rintro e w1 ⟨rfl, b1⟩; clear q1)
  go_ret
  exact ⟨rfl, hx0.below.trans (b1.mono hx0.below.size)⟩
set_option maxRecDepth 100000 in
set_option maxHeartbeats 2000000 in
theorem plcheck_wires (hp : Pln w (.slice ca p.code.length cc) (.slice sa p.spans.length sc) (.slice wa p.wires.length wc) p) (h1 : p.code.length ≤ 5) (h2 : p.code.length ≠ 0) (h3 : (fchk p.ticks p.spans).2 = 0) (h4 : (wschk p.wires).2 ≠ 0) : Calls Tryz.prog 31 #[.agg #[.slice ca p.code.length cc, .int .i64 p.ticks, .slice sa p.spans.length sc, .slice wa p.wires.length wc]] w fun e w' => e = .returned (wErr (wschk p.wires).2) ∧ Below w.heap.size w w' := by
  have h5i : decide ((5 : Int) < (p.code.length : Int)) = false := decide_eq_false (by omega)
  have h5n : decide (5 < p.code.length) = false := decide_eq_false (by omega)
  have h0i : ¬ ((p.code.length : Int) = 0) := by omega
  have hx0 := Bx.first w (.slice ca p.code.length cc) p.ticks (.slice sa p.spans.length sc) (.slice wa p.wires.length wc)
  have q1 := fcheck_any p.ticks p.spans _ _ (hp.spans.all hx0.below)
  rw [h3, show fErr 0 = .nilIface from rfl] at q1
  have HQ : Hid (∀ W, Below w.heap.size w W → Calls Tryz.prog 45 #[.slice wa p.wires.length wc] W fun e w' => e = .returned (.tuple #[.int .i64 (wschk p.wires).1, .iface 70 (.int .i64 (wschk p.wires).2)]) ∧ Below W.heap.size W w') := fun W hb => by
    have := flcheck_any p.wires _ W (hp.wires.all hb)
    rw [wErr_not h4] at this
    exact this
  rw [wErr_not h4]
  generalize (wschk p.wires).2 = z at HQ
  generalize (wschk p.wires).1 = y at HQ
  generalize (fchk p.ticks p.spans).1 = x at q1
  clear hp h1 h2 h3 h4
  go_enter Tryz.func31, Tryz.ntmps31
  go_wp2_with (first
    | (go_at_call 44; refine q1.mono ?_; rintro e w1 ⟨rfl, b1⟩; clear q1; have hx1 := hx0.step b1; have k3 := hx1.c3; have q2 := HQ.out w1 hx1.below)
    | (go_at_call 45; refine q2.mono ?_; rintro e w2 ⟨rfl, b2⟩; clear q2))
  go_ret
  exact ⟨rfl, hx1.below.trans (b2.mono hx1.below.size)⟩
/-- Frame and wires are right: what namesMore answers. -/
theorem more_of (hp : Pln w (.slice ca p.code.length cc) (.slice sa p.spans.length sc) (.slice wa p.wires.length wc) p) (h3 : (fchk p.ticks p.spans).2 = 0) (h4 : (wschk p.wires).2 = 0) :
    (∀ W, Below w.heap.size w W → Calls Tryz.prog 44 #[.int .i64 p.ticks, .slice sa p.spans.length sc] W fun e w' => ∃ y : Int, e = .returned (.tuple #[.int .i64 y, .nilIface]) ∧ Below W.heap.size W w') ∧
    (∀ W, Below w.heap.size w W → Calls Tryz.prog 45 #[.slice wa p.wires.length wc] W fun e w' => ∃ y : Int, e = .returned (.tuple #[.int .i64 y, .nilIface]) ∧ Below W.heap.size W w') ∧
    ∀ W, Below w.heap.size w W → Calls Tryz.prog 46 #[.agg #[.slice ca p.code.length cc, .int .i64 p.ticks, .slice sa p.spans.length sc, .slice wa p.wires.length wc]] W fun e w' => e = .returned (.bool (p.spans.any (spanOut p.code.length) || p.wires.any (wireOut p.code.length))) ∧ Below W.heap.size W w' := by
  refine ⟨fun W hb => ?_, fun W hb => ?_, fun W hb => namesmore_any p _ _ _ W (hp.all hb) (fchk_zero h3).2.2.1 (wschk_ok h4).1⟩
  · refine (fcheck_any p.ticks p.spans _ W (hp.spans.all hb)).mono ?_
    rintro e w' ⟨rfl, h⟩
    exact ⟨_, by rw [h3]; rfl, h⟩
  · refine (flcheck_any p.wires _ W (hp.wires.all hb)).mono ?_
    rintro e w' ⟨rfl, h⟩
    exact ⟨_, by rw [h4]; rfl, h⟩
set_option maxRecDepth 100000 in
set_option maxHeartbeats 2000000 in
theorem plcheck_more (hp : Pln w (.slice ca p.code.length cc) (.slice sa p.spans.length sc) (.slice wa p.wires.length wc) p) (h1 : p.code.length ≤ 5) (h2 : p.code.length ≠ 0) (h3 : (fchk p.ticks p.spans).2 = 0) (h4 : (wschk p.wires).2 = 0) (h5 : (p.spans.any (spanOut p.code.length) || p.wires.any (wireOut p.code.length)) = true) : Calls Tryz.prog 31 #[.agg #[.slice ca p.code.length cc, .int .i64 p.ticks, .slice sa p.spans.length sc, .slice wa p.wires.length wc]] w fun e w' => e = .returned (wErr 1) ∧ Below w.heap.size w w' := by
  have h5i : decide ((5 : Int) < (p.code.length : Int)) = false := decide_eq_false (by omega)
  have h5n : decide (5 < p.code.length) = false := decide_eq_false (by omega)
  have h0i : ¬ ((p.code.length : Int) = 0) := by omega
  have hx0 := Bx.first w (.slice ca p.code.length cc) p.ticks (.slice sa p.spans.length sc) (.slice wa p.wires.length wc)
  obtain ⟨m1, m2, m3⟩ := more_of p ca sa wa cc sc wc w hp h3 h4
  rw [h5] at m3
  have q1 := m1 _ hx0.below
  have M2 : Hid (∀ W, Below w.heap.size w W → Calls Tryz.prog 45 #[.slice wa p.wires.length wc] W fun e w' => ∃ y : Int, e = .returned (.tuple #[.int .i64 y, .nilIface]) ∧ Below W.heap.size W w') := m2
  have M3 : Hid (∀ W, Below w.heap.size w W → Calls Tryz.prog 46 #[.agg #[.slice ca p.code.length cc, .int .i64 p.ticks, .slice sa p.spans.length sc, .slice wa p.wires.length wc]] W fun e w' => e = .returned (.bool true) ∧ Below W.heap.size W w') := m3
  clear hp h1 h2 h3 h4 h5 m1 m2 m3
  go_enter Tryz.func31, Tryz.ntmps31
  go_wp2_with (first
    | (go_at_call 44; refine q1.mono ?_; rintro e w1 ⟨y1, rfl, b1⟩; clear q1; have hx1 := hx0.step b1; have k3 := hx1.c3; have q2 := M2.out w1 hx1.below)
    | (go_at_call 45; refine q2.mono ?_; rintro e w2 ⟨y2, rfl, b2⟩; clear q2 k3; have hx2 := hx1.step b2; have j0 := hx2.c0; have j1 := hx2.c1; have j2 := hx2.c2; have j3 := hx2.c3; have q3 := M3.out w2 hx2.below)
    | (go_at_call 46; refine q3.mono ?_; rintro e w3 ⟨rfl, b3⟩; clear q3))
  go_ret
  exact ⟨rfl, hx2.below.trans (b3.mono hx2.below.size)⟩
end
theorem roomE_ok {ws : List W4} {i : Nat} {c : List O3} (h : (chk c).2 = 0) : roomE ws i c = if portsB ws i c = true then 3 else 0 := by
  unfold roomE
  rw [if_neg (by simpa using h)]
set_option maxRecDepth 100000 in
set_option maxHeartbeats 8000000 in
/-- checkCodes: first each code by itself, then each with the wires. -/
theorem codes_any (p : PD) (ca sa wa : Option Addr) (cc sc wc : Nat) (w : World) (hf : Forms w) (hp : Pln w (.slice ca p.code.length cc) (.slice sa p.spans.length sc) (.slice wa p.wires.length wc) p) (h1 : p.code.length ≤ 5) : Calls Tryz.prog 47 #[.agg #[.slice ca p.code.length cc, .int .i64 p.ticks, .slice sa p.spans.length sc, .slice wa p.wires.length wc]] w fun e w' => e = .returned (wErr (if codesE p.code ≠ 0 then codesE p.code else if portsAny p.wires 0 p.code = true then 3 else 0)) ∧ Below w.heap.size w w' := by
  have hx0 := Bx.first w (.slice ca p.code.length cc) p.ticks (.slice sa p.spans.length sc) (.slice wa p.wires.length wc)
  have i0 := hx0.c0
  have HP : Hid (Pln w (.slice ca p.code.length cc) (.slice sa p.spans.length sc) (.slice wa p.wires.length wc) p) := hp
  have HF : Hid (Forms w) := hf
  obtain ⟨E, hE⟩ : ∃ E, E = if codesE p.code ≠ 0 then codesE p.code else if portsAny p.wires 0 p.code = true then 3 else 0 := ⟨_, rfl⟩
  have HE : Hid (E = if codesE p.code ≠ 0 then codesE p.code else if portsAny p.wires 0 p.code = true then 3 else 0) := hE
  rw [← hE]
  clear hp hf hE
  go_enter Tryz.func47, Tryz.ntmps47
  go_wp2
  go_loopw [13] (fun i wr => ∃ k : Nat, k ≤ p.code.length ∧ i = .int .i64 k ∧ Hid (∀ (j : Nat) c, j < k → p.code[j]? = some c → (chk c).2 = 0) ∧ Bx w wr (.slice ca p.code.length cc) p.ticks (.slice sa p.spans.length sc) (.slice wa p.wires.length wc)) (fun i _ => p.code.length - (intOf i).toNat)
  case atStart => exact ⟨0, Nat.zero_le _, rfl, fun j c hj => by omega, hx0⟩
  case round =>
  clear hx0 i0
  obtain ⟨k, hk, rfl, HS, hx⟩ := hrel
  by_cases hkl : k < p.code.length
  · have hki : (k : Int) < (p.code.length : Int) := by omega
    obtain ⟨b, off, u, n, g, c, rfl, hlt, hy, d0, rfl, hops⟩ := HP.out.code.at hkl
    replace d0 := (hx.below.cell (p := ⟨b, _, none⟩) hlt).trans d0
    have HY : Hid (p.code[k]? = some c) := hy
    clear hy
    have qc := check_any _ c wr (HF.out.all hx.below) (hops.all hx.below)
    rw [errV_w] at qc
    by_cases hc0 : (chk c).2 = 0
    · rw [hc0, show wErr 0 = .nilIface from rfl] at qc
      have HC : Hid ((chk c).2 = 0) := hc0
      clear hc0 hops
      generalize (chk c).1 = y at qc
      go_wp2_with (go_at_call 68; refine qc.mono ?_; rintro e w4 ⟨rfl, b4⟩; clear qc)
      go_roundw
      case rel => exact ⟨k + 1, by omega, by go_num, fun j c' hj hc' => by
        by_cases hjk : j < k
        · exact HS.out j c' hjk hc'
        · obtain rfl : j = k := by omega
          rw [HY.out] at hc'
          obtain rfl := Option.some.inj hc'
          exact HC.out, hx.step b4⟩
      case measure => simp [intOf]; omega
    · have HX : Hid (E = (chk c).2) := by
        show _ = _
        have e := codesE_hit HS.out HY.out hc0
        rw [HE.out, e, if_pos hc0]
      have HZ : Hid (wErr (chk c).2 = .iface 70 (.int .i64 (chk c).2)) := wErr_not hc0
      rw [wErr_not hc0] at qc
      clear hc0 hops
      generalize (chk c).1 = y at qc
      generalize (chk c).2 = z at qc HX HZ
      go_wp2_with (go_at_call 68; refine qc.mono ?_; rintro e w4 ⟨rfl, b4⟩; clear qc)
      go_ret
      rw [HX.out, HZ.out]
      exact ⟨rfl, (hx.step b4).below⟩
  have hki : decide ((k : Int) < (p.code.length : Int)) = false := decide_eq_false (by omega)
  have hkn : decide (k < p.code.length) = false := decide_eq_false (by omega)
  have HE2 : Hid (E = if portsAny p.wires 0 p.code = true then 3 else 0) := by
    show _ = _
    have e := codesE_ok (l := p.code) (fun j c hj hc => HS.out j c (by omega) hc)
    rw [HE.out, e]
    rfl
  have HCK : Hid (∀ (j : Nat) c, p.code[j]? = some c → (chk c).2 = 0) := fun j c hc => HS.out j c (by have := (List.getElem?_eq_some_iff.1 hc).1; omega) hc
  have k0 := hx.c0
  clear HS HE hkl hk
  go_wp2
  rename World => wo
  go_loopw [29] (fun i wr => ∃ k : Nat, k ≤ p.code.length ∧ i = .int .i64 k ∧ Hid (∀ (j : Nat) c, j < k → p.code[j]? = some c → portsB p.wires j c = false) ∧ Bx w wr (.slice ca p.code.length cc) p.ticks (.slice sa p.spans.length sc) (.slice wa p.wires.length wc)) (fun i _ => p.code.length - (intOf i).toNat)
  case atStart => exact ⟨0, Nat.zero_le _, rfl, fun j c hj => by omega, hx⟩
  case round =>
  clear hx k0 hki hkn
  obtain ⟨k, hk, rfl, HS, hx⟩ := hrel
  have k3 := hx.c3
  by_cases hkl : k < p.code.length
  · have hki : (k : Int) < (p.code.length : Int) := by omega
    obtain ⟨b, off, u, n, g, c, rfl, hlt, hy, d0, rfl, hops⟩ := HP.out.code.at hkl
    replace d0 := (hx.below.cell (p := ⟨b, _, none⟩) hlt).trans d0
    have HY : Hid (p.code[k]? = some c) := hy
    have hck := HCK.out k c hy
    clear hy
    have qc := checkroom_any p.wires c k _ _ wr (HF.out.all hx.below) (hops.all hx.below) (HP.out.wires.all hx.below)
    rw [roomE_ok hck] at qc
    clear hck hops
    cases hpb : portsB p.wires k c with
    | false =>
      rw [hpb, if_neg (by decide), show wErr 0 = .nilIface from rfl] at qc
      have HN : Hid (portsB p.wires k c = false) := hpb
      clear hpb
      go_wp2_with (go_at_call 69; refine qc.mono ?_; rintro e w4 ⟨rfl, b4⟩; clear qc)
      go_roundw
      case rel => exact ⟨k + 1, by omega, by go_num, ports_next HS.out HY.out HN.out, hx.step b4⟩
      case measure => simp [intOf]; omega
    | true =>
      rw [hpb, if_pos rfl, show wErr 3 = .iface 70 (.int .i64 3) from rfl] at qc
      have HX : Hid (E = 3) := by show _ = _; rw [HE2.out, portsAny_hit HS.out HY.out hpb, if_pos rfl]
      clear hpb
      go_wp2_with (go_at_call 69; refine qc.mono ?_; rintro e w4 ⟨rfl, b4⟩; clear qc)
      go_ret
      rw [HX.out]
      exact ⟨rfl, (hx.step b4).below⟩
  have hki : decide ((k : Int) < (p.code.length : Int)) = false := decide_eq_false (by omega)
  have hkn : decide (k < p.code.length) = false := decide_eq_false (by omega)
  have HX : Hid (E = 0) := by
    show _ = _
    have e := portsAny_ok (ws := p.wires) (l := p.code) (fun j c hj hc => HS.out j c (by omega) hc)
    rw [HE2.out, e]
    rfl
  clear HS
  go_wp2
  go_ret
  rw [HX.out]
  exact ⟨rfl, hx.below⟩
set_option maxRecDepth 100000 in
set_option maxHeartbeats 2000000 in
theorem plcheck_codes (p : PD) (ca sa wa : Option Addr) (cc sc wc : Nat) (w : World) (hf : Forms w) (hp : Pln w (.slice ca p.code.length cc) (.slice sa p.spans.length sc) (.slice wa p.wires.length wc) p) (h1 : p.code.length ≤ 5) (h2 : p.code.length ≠ 0) (h3 : (fchk p.ticks p.spans).2 = 0) (h4 : (wschk p.wires).2 = 0) (h5 : (p.spans.any (spanOut p.code.length) || p.wires.any (wireOut p.code.length)) = false) : Calls Tryz.prog 31 #[.agg #[.slice ca p.code.length cc, .int .i64 p.ticks, .slice sa p.spans.length sc, .slice wa p.wires.length wc]] w fun e w' => e = .returned (wErr (if codesE p.code ≠ 0 then codesE p.code else if portsAny p.wires 0 p.code = true then 3 else 0)) ∧ Below w.heap.size w w' := by
  have h5i : decide ((5 : Int) < (p.code.length : Int)) = false := decide_eq_false (by omega)
  have h5n : decide (5 < p.code.length) = false := decide_eq_false (by omega)
  have h0i : ¬ ((p.code.length : Int) = 0) := by omega
  have hx0 := Bx.first w (.slice ca p.code.length cc) p.ticks (.slice sa p.spans.length sc) (.slice wa p.wires.length wc)
  obtain ⟨m1, m2, m3⟩ := more_of p ca sa wa cc sc wc w hp h3 h4
  rw [h5] at m3
  have q1 := m1 _ hx0.below
  have M2 : Hid (∀ W, Below w.heap.size w W → Calls Tryz.prog 45 #[.slice wa p.wires.length wc] W fun e w' => ∃ y : Int, e = .returned (.tuple #[.int .i64 y, .nilIface]) ∧ Below W.heap.size W w') := m2
  have M3 : Hid (∀ W, Below w.heap.size w W → Calls Tryz.prog 46 #[.agg #[.slice ca p.code.length cc, .int .i64 p.ticks, .slice sa p.spans.length sc, .slice wa p.wires.length wc]] W fun e w' => e = .returned (.bool false) ∧ Below W.heap.size W w') := m3
  have M4 : Hid (∀ W, Below w.heap.size w W → Calls Tryz.prog 47 #[.agg #[.slice ca p.code.length cc, .int .i64 p.ticks, .slice sa p.spans.length sc, .slice wa p.wires.length wc]] W fun e w' => e = .returned (wErr (if codesE p.code ≠ 0 then codesE p.code else if portsAny p.wires 0 p.code = true then 3 else 0)) ∧ Below W.heap.size W w') := fun W hb => codes_any p ca sa wa cc sc wc W (hf.all hb) (hp.all hb) h1
  generalize (if codesE p.code ≠ 0 then codesE p.code else if portsAny p.wires 0 p.code = true then 3 else 0) = E at M4 ⊢
  generalize wErr E = V at M4 ⊢
  clear hp hf h2 h3 h4 h5 m1 m2 m3
  go_enter Tryz.func31, Tryz.ntmps31
  go_wp2_with (first
    | (go_at_call 44; refine q1.mono ?_; rintro e w1 ⟨y1, rfl, b1⟩; clear q1; have hx1 := hx0.step b1; have k3 := hx1.c3; have q2 := M2.out w1 hx1.below)
    | (go_at_call 45; refine q2.mono ?_; rintro e w2 ⟨y2, rfl, b2⟩; clear q2 k3; have hx2 := hx1.step b2; have j0 := hx2.c0; have j1 := hx2.c1; have j2 := hx2.c2; have j3 := hx2.c3; have q3 := M3.out w2 hx2.below)
    | (go_at_call 46; refine q3.mono ?_; rintro e w3 ⟨rfl, b3⟩; clear q3 j0 j1 j2 j3; have hx3 := hx2.step b3; have i0 := hx3.c0; have i1 := hx3.c1; have i2 := hx3.c2; have i3 := hx3.c3; have q4 := M4.out w3 hx3.below)
    | (go_at_call 47; refine q4.mono ?_; rintro e w4 ⟨rfl, b4⟩; clear q4))
  go_ret
  exact ⟨rfl, hx3.below.trans (b4.mono hx3.below.size)⟩
theorem plcheck_any (p : PD) (vc vs vw : Value) (w : World) (hf : Forms w) (hp : Pln w vc vs vw p) :
    Calls Tryz.prog 31 #[plV vc p.ticks vs vw] w fun e w' => e = .returned (wErr (plchk p)) ∧ Below w.heap.size w w' := by
  obtain ⟨ca, cc, rfl⟩ := hp.code.form
  obtain ⟨sa, sc, rfl⟩ := hp.spans.form
  obtain ⟨wa, wc, rfl⟩ := hp.wires.form
  by_cases h1 : 5 < p.code.length
  · rw [plchk_long h1]
    exact plcheck_long p ca sa wa cc sc wc w h1
  by_cases h2 : p.code.length = 0
  · rw [plchk_none h2]
    exact plcheck_none p ca sa wa cc sc wc w h2
  have h1' : p.code.length ≤ 5 := by omega
  by_cases h3 : (fchk p.ticks p.spans).2 = 0
  · by_cases h4 : (wschk p.wires).2 = 0
    · cases h5 : p.spans.any (spanOut p.code.length) with
      | true =>
        rw [plchk_span h1' h2 h3 h4 h5]
        exact plcheck_more p ca sa wa cc sc wc w hp h1' h2 h3 h4 (by rw [h5]; rfl)
      | false =>
        cases h6 : p.wires.any (wireOut p.code.length) with
        | true =>
          rw [plchk_wire h1' h2 h3 h4 h5 h6]
          exact plcheck_more p ca sa wa cc sc wc w hp h1' h2 h3 h4 (by rw [h5, h6]; rfl)
        | false =>
          rw [plchk_tail h1' h2 h3 h4 h5 h6]
          exact plcheck_codes p ca sa wa cc sc wc w hf hp h1' h2 h3 h4 (by rw [h5, h6]; rfl)
    · rw [plchk_wires h1' h2 h3 h4]
      exact plcheck_wires p ca sa wa cc sc wc w hp h1' h2 h3 h4
  · rw [plchk_frame h1' h2 h3]
    exact plcheck_frame p ca sa wa cc sc wc w hp h1' h2 h3
end Go.Proofs.YtajfgmlockjmhafGreatDoor
namespace Go.Proofs.YtajfgmlockjmhafGreatDoor
open Go.RowKit

set_option maxRecDepth 100000 in
set_option maxHeartbeats 4000000 in
theorem gnew_no (p : PD) (vc vs vw : Value) (w : World) (hfm : Forms w) (hP : Pln w vc vs vw p) (hp : plchk p ≠ 0) :
    Calls Tryz.prog 18 #[plV vc p.ticks vs vw] w fun e w' => ∃ x, e = .returned (.tuple #[.pointer x, wErr (plchk p)]) ∧ Below w.heap.size w w' := by
  obtain ⟨ca, cc, rfl⟩ := hP.code.form
  obtain ⟨sa, sc, rfl⟩ := hP.spans.form
  obtain ⟨wa, wc', rfl⟩ := hP.wires.form
  have hA : Below w.heap.size w (w.alloc (.cells #[.slice ca p.code.length cc, .int .i64 p.ticks, .slice sa p.spans.length sc, .slice wa p.wires.length wc'] 26)) := (Below.refl _ _).alloc (Nat.le_refl _) _
  have hc := plcheck_any p _ _ _ _ (hfm.all hA) (hP.all hA)
  unfold plV at hc ⊢
  rw [wErr_not hp] at hc ⊢
  generalize plchk p = ec at hc hp ⊢
  clear hP hfm
  go_enter Tryz.func18, Tryz.ntmps18
  go_wp2_with (go_at_call 31; refine hc.mono ?_; rintro e w1 ⟨rfl, b1⟩; clear hc)
  go_ret2
  exact ⟨none, rfl, hA.trans (b1.mono hA.size)⟩
theorem N1.box {w W0 W : World} {kb m : Nat} {p : PD} {sv cv rv vc vs vw : Value} {us : List Value} (h : N1 W0 W kb p sv cv rv us m) (hx : Bx w W0 vc p.ticks vs vw) (hk : w.heap.size + 1 ≤ kb) : Bx w W vc p.ticks vs vw := Below.trans hx (h.tk.below (fun b hb => by rw [List.mem_singleton] at hb; omega) hx.size)
theorem N2.box {w W0 W : World} {kb : Nat} {p : PD} {sv cv rv lv vc vs vw : Value} {bs : List Nat} (h : N2 W0 W kb p cv sv rv lv bs) (hx : Bx w W0 vc p.ticks vs vw) (hk : w.heap.size + 1 ≤ kb) : Bx w W vc p.ticks vs vw := Below.trans hx (h.tk.below (fun b hb => by rw [List.mem_singleton] at hb; omega) hx.size)
set_option maxRecDepth 100000 in
set_option maxHeartbeats 16000000 in
theorem gnew_ok (p : PD) (vc vs vw : Value) (w : World) (hfm : Forms w) (hP : Pln w vc vs vw p) (hp : plchk p = 0) :
    Calls Tryz.prog 18 #[plV vc p.ticks vs vw] w fun e w' => ∃ kb a, e = .returned (.tuple #[.pointer (some ⟨kb, 0, none⟩), .nilIface]) ∧ GK w' w.heap.size p (newK p) kb a ∧ Below w.heap.size w w' := by
  obtain ⟨ca, cc, rfl⟩ := hP.code.form
  obtain ⟨sa, sc, rfl⟩ := hP.spans.form
  obtain ⟨wa, wc', rfl⟩ := hP.wires.form
  obtain ⟨hc5, hc0, hfz, hwz, _, _, hcz, _⟩ := plchk_zero hp
  have hsl : p.spans.length ≤ 12 := (fchk_zero hfz).2.2.1
  have hx0 := Bx.first w (.slice ca p.code.length cc) p.ticks (.slice sa p.spans.length sc) (.slice wa p.wires.length wc')
  have HP : Hid (Pln w (.slice ca p.code.length cc) (.slice sa p.spans.length sc) (.slice wa p.wires.length wc') p) := hP
  have HCk : Hid (Calls Tryz.prog 31 #[.agg #[.slice ca p.code.length cc, .int .i64 p.ticks, .slice sa p.spans.length sc, .slice wa p.wires.length wc']] (w.alloc (.cells #[.slice ca p.code.length cc, .int .i64 p.ticks, .slice sa p.spans.length sc, .slice wa p.wires.length wc'] 26)) fun e w' => e = .returned .nilIface ∧ Below (w.heap.size + 1) (w.alloc (.cells #[.slice ca p.code.length cc, .int .i64 p.ticks, .slice sa p.spans.length sc, .slice wa p.wires.length wc'] 26)) w') := by
    have := plcheck_any p _ _ _ _ (hfm.all hx0.below) (hP.all hx0.below)
    rw [hp, World.size_alloc] at this
    exact this
  unfold plV
  clear hP hx0
  go_enter Tryz.func18, Tryz.ntmps18
  go_upto_region 4 with (go_at_call 31; refine HCk.out.mono ?_; rintro e w1 ⟨rfl, b1⟩)
  have hx1 : Bx w w1 (.slice ca p.code.length cc) p.ticks (.slice sa p.spans.length sc) (.slice wa p.wires.length wc') := b1
  clear HCk b1
  go_cut [5] from 17 to 23 (fun s5 wx => ∃ kb sv, s5 = .pointer (some ⟨kb, 0, none⟩) ∧ Bx w wx (.slice ca p.code.length cc) p.ticks (.slice sa p.spans.length sc) (.slice wa p.wires.length wc') ∧ w.heap.size + 1 ≤ kb ∧ kb < wx.heap.size ∧ GB wx kb (.slice none 0 0) p.ticks sv (.slice none 0 0) (.slice none 0 0) ∧ wx.ownsRow (w.heap.size + 1) 61 3 sv p.spans.length (spCells p.spans) ∧ ∀ g, sv.ownBlock = some g → g ≠ kb)
  case first =>
    have HCl : Hid (∀ W, Bx w W (.slice ca p.code.length cc) p.ticks (.slice sa p.spans.length sc) (.slice wa p.wires.length wc') → Calls Tryz.prog 32 #[.slice sa p.spans.length sc] W fun e w' => ∃ ao n cap, e = .returned (.slice ao n cap) ∧ w'.ownsRow W.heap.size 61 3 (.slice ao n cap) p.spans.length (spCells p.spans) ∧ Below W.heap.size W w') := fun W hb => by
      refine (clone_sps p.spans _ W (HP.out.spans.all hb.below) (by omega)).mono ?_
      rintro e w' ⟨v, rfl, h1, h2⟩
      obtain ⟨ao, n, cap, rfl⟩ := own_form h1
      exact ⟨ao, n, cap, rfl, h1, h2⟩
    have k1 := hx1.c1
    have k2 := hx1.c2
    have hq : ∀ W, Bx w W (.slice ca p.code.length cc) p.ticks (.slice sa p.spans.length sc) (.slice wa p.wires.length wc') → W.cell? ⟨w.heap.size, 1, none⟩ = some (.int .i64 p.ticks) ∧ W.cell? ⟨w.heap.size, 2, none⟩ = some (.slice sa p.spans.length sc) := fun W hb => ⟨hb.c1, hb.c2⟩
    have hx2 : Bx w w1.drew (.slice ca p.code.length cc) p.ticks (.slice sa p.spans.length sc) (.slice wa p.wires.length wc') := hx1.step (Below.refl _ _).drew
    go_region_held3 (fun w' => w'.cell? ⟨w.heap.size, 1, none⟩ = some (.int .i64 p.ticks) ∧ w'.cell? ⟨w.heap.size, 2, none⟩ = some (.slice sa p.spans.length sc))
      (first | exact ⟨k1, k2⟩ | exact hq _ hx3 | exact hq _ (hx3.step ((Below.refl _ _).alloc (Nat.le_refl _) _)) | go_keep)
      (first
        | (go_at_call 32; refine (HCl.out _ hx2).mono ?_; rintro e w3 ⟨ao, n, cap, rfl, hown, b3⟩; have hx3 : Bx w w3 (.slice ca p.code.length cc) p.ticks (.slice sa p.spans.length sc) (.slice wa p.wires.length wc') := hx2.step b3))
    go_wp2_with fail
    go_meet
    case rel =>
      have hs1 := hx1.size
      have hs3 := hx3.size
      have hd : w1.drew.heap.size = w1.heap.size := rfl
      rw [hd] at hown
      have hb4 : Below w3.heap.size w3 (w3.alloc (.cells #[.slice none 0 0, .int .i64 p.ticks, .slice ao n cap, .slice none 0 0, .slice none 0 0, .int .i64 0] 95)) := (Below.refl _ _).alloc (Nat.le_refl _) _
      refine ⟨w3.heap.size, .slice ao n cap, rfl, hx3.step hb4, hs3, by simp, World.alloc_heap_new _ _, own_base (own_below hown hb4 (Nat.le_refl _)) hs1, fun g hg => ?_⟩
      have := (hown.lt g hg).2
      omega
  case rest =>
  obtain ⟨kb, sv, rfl, hxc, hkb0, hkb1, hgb, hsp, hspk⟩ := hcut
  clear hx1
  generalize wc = W0 at *
  have HSP : Hid (W0.ownsRow (w.heap.size + 1) 61 3 sv p.spans.length (spCells p.spans) ∧ ∀ g, sv.ownBlock = some g → g ≠ kb) := ⟨hsp, hspk⟩
  clear hsp hspk
  have k0 := hxc.c0
  go_upto_region 6 with fail
  go_loopw [27] (fun i wr => ∃ us cv rv, i = .int .i64 (us.length : Nat) ∧ N1 W0 wr kb p sv cv rv us us.length) (fun i _ => p.code.length - (intOf i).toNat)
  case atStart => exact ⟨[], _, _, rfl, N1.first hkb1 hgb⟩
  case round =>
    clear hgb k0
    obtain ⟨us, cv, rv, rfl, hn1⟩ := hrel
    have hlen := hn1.len
    by_cases hkl : us.length < p.code.length
    · have hki : (us.length : Int) < (p.code.length : Int) := by omega
      have hbx := hn1.box hxc hkb0
      obtain ⟨cb, co, ua, un, ug, c, rfl, hclt, hcy, hcd, rfl, hops⟩ := HP.out.code.at hkl
      replace hcd := (hbx.below.cell (p := ⟨cb, _, none⟩) hclt).trans hcd
      have HCY : Hid (p.code[us.length]? = some c) := hcy
      have hcl : c.length ≤ 20 := (chk_zero (codesE_zero hcz c (List.mem_of_getElem? hcy))).2.1
      have HCl : Hid (∀ W, Below wr.heap.size wr W → Calls Tryz.prog 33 #[.slice ua c.length ug] W fun e w' => ∃ ao n cap, e = .returned (.slice ao n cap) ∧ w'.ownsRow W.heap.size 89 3 (.slice ao n cap) c.length (spCells c) ∧ Below W.heap.size W w') := fun W hb => by
        refine (clone_ops c _ W (hops.all (hbx.below.trans (hb.mono (Nat.le_trans (Nat.le_succ _) hbx.size)))) (by omega)).mono ?_
        rintro e w' ⟨v, rfl, h1, h2⟩
        obtain ⟨ao, n, cap, rfl⟩ := own_form h1
        exact ⟨ao, n, cap, rfl, h1, h2⟩
      have HN : Hid (N1 W0 wr kb p sv cv rv us us.length) := hn1
      have c0 := hn1.blk.cs.1
      have hkr : kb < wr.heap.size := Nat.lt_of_lt_of_le hn1.kl hn1.tk.size
      clear hn1 hops hcy hbx
      have bQ : Below wr.heap.size wr wr.drew := (Below.refl _ _).drew
      go_upto_region 8 with fail
      refine wp_region_popped (fun W => W.cell? ⟨kb, 0, none⟩ = some cv) (by kernel_rfl) rfl (by decide +kernel) c0 (fun hHeld => ?_)
      simp only [List.pop_toArray, List.dropLast_cons_cons, List.dropLast_singleton, List.size_toArray, List.length_cons, List.length_nil, Nat.reduceAdd, Array.replicate_succ, Array.replicate_zero, List.push_toArray, List.nil_append, List.cons_append]
      refine wpAnyH_take (i := 0) (v := ?_) rfl (by decide +kernel) (by decide +kernel) (by decide +kernel) (fun _ _ _ h => h) (Or.inl ⟨by rfl, ?_⟩) (by assumption) ?_
      rotate_left
      · intro W hSw
        try dsimp only at hSw
        go_simp
        try with_reducible rfl
      simp only [Act.put, List.setIfInBounds_toArray, List.set_cons_zero]
      refine wpAnyH_take (i := 1) (v := ?_) rfl (by decide +kernel) (by decide +kernel) (by decide +kernel) (fun _ _ _ h => h) (Or.inl ⟨by rfl, ?_⟩) (by assumption) ?_
      rotate_left
      · intro W hSw
        try dsimp only at hSw
        go_simp
        try with_reducible rfl
      simp only [Act.put, List.setIfInBounds_toArray, List.set_cons_zero, List.set_cons_succ]
      refine wpAnyH_take (i := 2) (v := ?_) rfl (by decide +kernel) (by decide +kernel) (by decide +kernel) (fun _ _ _ h => h) (Or.inl ⟨by rfl, ?_⟩) (by assumption) ?_
      rotate_left
      · intro W hSw
        try dsimp only at hSw
        go_simp
        try with_reducible rfl
      simp only [Act.put, List.setIfInBounds_toArray, List.set_cons_zero, List.set_cons_succ]
      refine wpAnyH_take (i := 3) (v := ?_) rfl (by decide +kernel) (by decide +kernel) (by decide +kernel) (fun _ _ _ h => h) (Or.inl ⟨by rfl, ?_⟩) (by assumption) ?_
      rotate_left
      · intro W hSw
        try dsimp only at hSw
        go_simp
        try with_reducible rfl
      simp only [Act.put, List.setIfInBounds_toArray, List.set_cons_zero, List.set_cons_succ]
      refine wpAnyH_take (i := 4) (v := ?_) rfl (by decide +kernel) (by decide +kernel) (by decide +kernel) (fun _ _ _ h => h) (Or.inl ⟨by rfl, ?_⟩) (by assumption) ?_
      rotate_left
      · intro W hSw
        try dsimp only at hSw
        go_simp
        try with_reducible rfl
      simp only [Act.put, List.setIfInBounds_toArray, List.set_cons_zero, List.set_cons_succ]
      refine wpAnyH_take (i := 5) (v := ?_) rfl (by decide +kernel) (by decide +kernel) (by decide +kernel) (fun _ _ _ h => h) (Or.inl ⟨by rfl, ?_⟩) (by assumption) ?_
      rotate_left
      · intro W hSw
        try dsimp only at hSw
        go_simp
        try with_reducible rfl
      simp only [Act.put, List.setIfInBounds_toArray, List.set_cons_zero, List.set_cons_succ]
      refine wpAnyH_ready (rs := [6]) (by decide +kernel) (by simp) ?_
      refine AllReadyH.cons (o := _) rfl (fun K hK => ?_) AllReadyH.nil
      go_simp
      go_at_call 33
      refine (HCl.out _ bQ).mono ?_
      rintro e w8 ⟨vo, vn, vk, rfl, hown8, b8⟩
      replace b8 := bQ.trans (b8.mono (Nat.le_refl _))
      have s8 : w8.cell? ⟨kb, 0, none⟩ = some cv := (b8.cell (p := ⟨kb, 0, none⟩) hkr).trans c0
      go_wp2_with fail
      refine hK.out _ _ s8 (fun hHeld => ?_)
      clear hK K
      simp only [List.setIfInBounds_toArray, List.set_cons_zero, List.set_cons_succ]
      refine wpAnyH_ready (rs := [7]) (by decide +kernel) (by simp) ?_
      refine AllReadyH.cons (o := _) rfl (fun K hK => ?_) AllReadyH.nil
      go_simp
      have b9 : Below wr.heap.size wr (w8.alloc (.cells #[.slice vo vn vk] 65)) := b8.alloc b8.size _
      have s9 : (w8.alloc (.cells #[.slice vo vn vk] 65)).cell? ⟨kb, 0, none⟩ = some cv := (b9.cell (p := ⟨kb, 0, none⟩) hkr).trans c0
      refine hK.out _ _ s9 (fun hHeld => ?_)
      clear hK K
      simp only [List.setIfInBounds_toArray, List.set_cons_zero, List.set_cons_succ]
      refine wpAnyH_ready (rs := [8]) (by decide +kernel) (by simp) ?_
      refine AllReadyH.cons (o := _) rfl (fun K hK => ?_) AllReadyH.nil
      obtain ⟨iT, hiT, hz1, hz2, hz3⟩ := info3 infoOps
      have hro9 := own_below HN.out.code b9 (Nat.le_refl _)
      have hs09 : W0.heap.size ≤ (w8.alloc (.cells #[.slice vo vn vk] 65)).heap.size := Nat.le_trans HN.out.tk.size b9.size
      obtain ⟨cv2, wa9, hra, hown9, hgr9, hnw9⟩ := run_append_at (P := Tryz.prog) (w8.alloc (.cells #[.slice vo vn vk] 65)) 22 22 W0.heap.size 65 iT _ 1 24 (by kernel_rfl) hiT hz1 hz2 hz3 rfl (by decide) cv us.length us hro9 ⟨w8.heap.size, 0, none⟩ 1 1 [.slice vo vn vk] rfl (one_new_at rfl _ _) (by simp [Value.oneCell']) (by have : maxLen = 9223372036854775807 := rfl; omega) (by omega) hs09
      clear hiT hz1 hz2 hz3
      obtain ⟨gv, ck, rfl⟩ : ∃ g cap, cv2 = .slice (some ⟨g, 0, none⟩) (us.length + 1) cap := own_succ hown9
      have hcr : ∀ k, cv.ownBlock = some k → W0.heap.size ≤ k := fun k hk => (HN.out.code.lt k hk).1
      have hblk9 : wa9.heap[kb]? = wr.heap[kb]? := (hgr9.block kb (Nat.lt_of_lt_of_le hkr b9.size) (fun e => by have := hcr kb e.symm; have := HN.out.kl; omega)).trans (b9.block kb hkr)
      have s10 : wa9.cell? ⟨kb, 0, none⟩ = some cv := (World.cell?_of_block (w := wr) (a := ⟨kb, 0, none⟩) hblk9).trans c0
      have f10 : wa9.frozen? ⟨kb, 0, none⟩ = false := (World.frozen?_of_block (w := wr) (a := ⟨kb, 0, none⟩) hblk9).trans (HN.out.blk.free 0)
      have HN9 := HN.out.more HCY.out b8 hown8 hgr9 hown9
      refine step_append_eq rfl (.tmp 35) (.tmp 38) 22 rfl cv (.slice (some ⟨w8.heap.size, 0, none⟩) 1 1) rfl rfl (.slice (some ⟨gv, 0, none⟩) (us.length + 1) ck) wa9 hra ?_
      refine hK.out _ _ s10 (fun hHeld => ?_)
      clear hK K
      simp only [Act.put, List.setIfInBounds_toArray, List.set_cons_zero, List.set_cons_succ]
      refine wpAnyH_take (i := 9) (v := ?_) rfl (by decide +kernel) (by decide +kernel) (by decide +kernel) (fun _ _ _ h => h) (Or.inl ⟨by rfl, ?_⟩) (by assumption) ?_
      rotate_left
      · intro W hSw
        try dsimp only at hSw
        go_simp
        try with_reducible rfl
      simp only [Act.put, List.setIfInBounds_toArray, List.set_cons_zero, List.set_cons_succ]
      refine wpAnyH_take (i := 10) (v := ?_) rfl (by decide +kernel) (by decide +kernel) (by decide +kernel) (fun _ _ _ h => h) (Or.inl ⟨by rfl, ?_⟩) (by assumption) ?_
      rotate_left
      · intro W hSw
        try dsimp only at hSw
        go_simp
        try with_reducible rfl
      simp only [Act.put, List.setIfInBounds_toArray, List.set_cons_zero, List.set_cons_succ]
      refine wpAnyH_done (by decide +kernel) ?_ _
      show Oper.wp _ _ _ _ _ _
      go_simp
      clear hra hown9 hgr9 hnw9 s8 s9 s10 f10 hHeld b8 b9 hown8 hro9 hs09 hblk9 c0 hcd HCl hcr
      generalize wa9.setCell ⟨kb, 0, none⟩ (.slice (some ⟨gv, 0, none⟩) (us.length + 1) ck) = W9 at HN9 ⊢
      have HM : Hid (N1 W0 W9 kb p sv (.slice (some ⟨gv, 0, none⟩) (us.length + 1) ck) rv (us ++ [.slice vo vn vk]) us.length) := HN9
      have c3 := HN9.blk.cs.2.2.2.1
      have hkr9 : kb < W9.heap.size := Nat.lt_of_lt_of_le HN9.kl HN9.tk.size
      clear HN9 HN bQ
      have HRn : Hid (∀ W, Calls Tryz.prog 34 #[] W fun e w' => e = .returned (.agg #[.int .i64 0, .int .i64 0, .int .i64 0, .int .i64 0, .int .i64 0, .int .i64 0, .int .i64 0, .bool false]) ∧ Below W.heap.size W w') := fun W => new_any W
      have bQ : Below W9.heap.size W9 W9.drew := (Below.refl _ _).drew
      go_upto_region 9 with fail
      refine wp_region_popped (fun W => W.cell? ⟨kb, 3, none⟩ = some rv) (by kernel_rfl) rfl (by decide +kernel) c3 (fun hHeld => ?_)
      simp only [List.pop_toArray, List.dropLast_cons_cons, List.dropLast_singleton, List.size_toArray, List.length_cons, List.length_nil, Nat.reduceAdd, Array.replicate_succ, Array.replicate_zero, List.push_toArray, List.nil_append, List.cons_append]
      refine wpAnyH_take (i := 0) (v := ?_) rfl (by decide +kernel) (by decide +kernel) (by decide +kernel) (fun _ _ _ h => h) (Or.inl ⟨by rfl, ?_⟩) (by assumption) ?_
      rotate_left
      · intro W hSw
        try dsimp only at hSw
        go_simp
        try with_reducible rfl
      simp only [Act.put, List.setIfInBounds_toArray, List.set_cons_zero]
      refine wpAnyH_take (i := 1) (v := ?_) rfl (by decide +kernel) (by decide +kernel) (by decide +kernel) (fun _ _ _ h => h) (Or.inl ⟨by rfl, ?_⟩) (by assumption) ?_
      rotate_left
      · intro W hSw
        try dsimp only at hSw
        go_simp
        try with_reducible rfl
      simp only [Act.put, List.setIfInBounds_toArray, List.set_cons_zero, List.set_cons_succ]
      refine wpAnyH_take (i := 2) (v := ?_) rfl (by decide +kernel) (by decide +kernel) (by decide +kernel) (fun _ _ _ h => h) (Or.inl ⟨by rfl, ?_⟩) (by assumption) ?_
      rotate_left
      · intro W hSw
        try dsimp only at hSw
        go_simp
        try with_reducible rfl
      simp only [Act.put, List.setIfInBounds_toArray, List.set_cons_zero, List.set_cons_succ]
      refine wpAnyH_take (i := 3) (v := ?_) rfl (by decide +kernel) (by decide +kernel) (by decide +kernel) (fun _ _ _ h => h) (Or.inl ⟨by rfl, ?_⟩) (by assumption) ?_
      rotate_left
      · intro W hSw
        try dsimp only at hSw
        go_simp
        try with_reducible rfl
      simp only [Act.put, List.setIfInBounds_toArray, List.set_cons_zero, List.set_cons_succ]
      refine wpAnyH_take (i := 4) (v := ?_) rfl (by decide +kernel) (by decide +kernel) (by decide +kernel) (fun _ _ _ h => h) (Or.inl ⟨by rfl, ?_⟩) (by assumption) ?_
      rotate_left
      · intro W hSw
        try dsimp only at hSw
        go_simp
        try with_reducible rfl
      simp only [Act.put, List.setIfInBounds_toArray, List.set_cons_zero, List.set_cons_succ]
      refine wpAnyH_ready (rs := [5]) (by decide +kernel) (by simp) ?_
      refine AllReadyH.cons (o := _) rfl (fun K hK => ?_) AllReadyH.nil
      go_simp
      go_at_call 34
      refine (HRn.out _).mono ?_
      rintro e w8 ⟨rfl, b8⟩
      replace b8 := bQ.trans (b8.mono (Nat.le_refl _))
      have s8 : w8.cell? ⟨kb, 3, none⟩ = some rv := (b8.cell (p := ⟨kb, 3, none⟩) hkr9).trans c3
      go_wp2_with fail
      refine hK.out _ _ s8 (fun hHeld => ?_)
      clear hK K
      simp only [List.setIfInBounds_toArray, List.set_cons_zero, List.set_cons_succ]
      refine wpAnyH_ready (rs := [6]) (by decide +kernel) (by simp) ?_
      refine AllReadyH.cons (o := _) rfl (fun K hK => ?_) AllReadyH.nil
      go_simp
      have b9 : Below W9.heap.size W9 (w8.alloc (.cells #[.int .i64 0, .int .i64 0, .int .i64 0, .int .i64 0, .int .i64 0, .int .i64 0, .int .i64 0, .bool false] 47)) := b8.alloc b8.size _
      have s9 : (w8.alloc (.cells #[.int .i64 0, .int .i64 0, .int .i64 0, .int .i64 0, .int .i64 0, .int .i64 0, .int .i64 0, .bool false] 47)).cell? ⟨kb, 3, none⟩ = some rv := (b9.cell (p := ⟨kb, 3, none⟩) hkr9).trans c3
      refine hK.out _ _ s9 (fun hHeld => ?_)
      clear hK K
      simp only [List.setIfInBounds_toArray, List.set_cons_zero, List.set_cons_succ]
      refine wpAnyH_ready (rs := [7]) (by decide +kernel) (by simp) ?_
      refine AllReadyH.cons (o := _) rfl (fun K hK => ?_) AllReadyH.nil
      obtain ⟨iT, hiT, hz1, hz2, hz3⟩ := info3 infoSt
      have hro9 := own_below HM.out.rooms b9 (Nat.le_refl _)
      have hs09 : W0.heap.size ≤ (w8.alloc (.cells #[.int .i64 0, .int .i64 0, .int .i64 0, .int .i64 0, .int .i64 0, .int .i64 0, .int .i64 0, .bool false] 47)).heap.size := Nat.le_trans HM.out.tk.size b9.size
      obtain ⟨rv2, wa9, hra, hown9, hgr9, hnw9⟩ := run_append_at (P := Tryz.prog) (w8.alloc (.cells #[.int .i64 0, .int .i64 0, .int .i64 0, .int .i64 0, .int .i64 0, .int .i64 0, .int .i64 0, .bool false] 47)) 48 48 W0.heap.size 47 iT _ 8 64 (by kernel_rfl) hiT hz1 hz2 hz3 rfl (by decide) rv us.length (stCells (List.replicate us.length stNew)) hro9 ⟨w8.heap.size, 0, none⟩ 1 1 [.int .i64 0, .int .i64 0, .int .i64 0, .int .i64 0, .int .i64 0, .int .i64 0, .int .i64 0, .bool false] rfl (st_new rfl stNew _) (st_one stNew) (by have : maxLen = 9223372036854775807 := rfl; omega) (by omega) hs09
      clear hiT hz1 hz2 hz3
      obtain ⟨rg, rk, rfl⟩ : ∃ g cap, rv2 = .slice (some ⟨g, 0, none⟩) (us.length + 1) cap := own_succ hown9
      have hcr : ∀ k, rv.ownBlock = some k → W0.heap.size ≤ k := fun k hk => (HM.out.rooms.lt k hk).1
      have hblk9 : wa9.heap[kb]? = W9.heap[kb]? := (hgr9.block kb (Nat.lt_of_lt_of_le hkr9 b9.size) (fun e => by have := hcr kb e.symm; have := HM.out.kl; omega)).trans (b9.block kb hkr9)
      have s10 : wa9.cell? ⟨kb, 3, none⟩ = some rv := (World.cell?_of_block (w := W9) (a := ⟨kb, 3, none⟩) hblk9).trans c3
      have f10 : wa9.frozen? ⟨kb, 3, none⟩ = false := (World.frozen?_of_block (w := W9) (a := ⟨kb, 3, none⟩) hblk9).trans (HM.out.blk.free 3)
      have HR9 : Hid _ := HM.out.room b8 hgr9 hown9
      refine step_append_eq rfl (.tmp 46) (.tmp 48) 48 rfl rv (.slice (some ⟨w8.heap.size, 0, none⟩) 1 1) rfl rfl (.slice (some ⟨rg, 0, none⟩) (us.length + 1) rk) wa9 hra ?_
      refine hK.out _ _ s10 (fun hHeld => ?_)
      clear hK K
      simp only [Act.put, List.setIfInBounds_toArray, List.set_cons_zero, List.set_cons_succ]
      refine wpAnyH_take (i := 8) (v := ?_) rfl (by decide +kernel) (by decide +kernel) (by decide +kernel) (fun _ _ _ h => h) (Or.inl ⟨by rfl, ?_⟩) (by assumption) ?_
      rotate_left
      · intro W hSw
        try dsimp only at hSw
        go_simp
        try with_reducible rfl
      simp only [Act.put, List.setIfInBounds_toArray, List.set_cons_zero, List.set_cons_succ]
      refine wpAnyH_take (i := 9) (v := ?_) rfl (by decide +kernel) (by decide +kernel) (by decide +kernel) (fun _ _ _ h => h) (Or.inl ⟨by rfl, ?_⟩) (by assumption) ?_
      rotate_left
      · intro W hSw
        try dsimp only at hSw
        go_simp
        try with_reducible rfl
      simp only [Act.put, List.setIfInBounds_toArray, List.set_cons_zero, List.set_cons_succ]
      refine wpAnyH_done (by decide +kernel) ?_ _
      show Oper.wp _ _ _ _ _ _
      go_simp
      clear hra hown9 hgr9 hnw9 s8 s9 hHeld b8 b9 hro9 hs09 hblk9 HRn
      go_wp2
      go_roundw
      case rel => exact ⟨us ++ [.slice vo vn vk], _, _, by rw [List.length_append]; go_num, by rw [List.length_append]; exact HR9.out⟩
      case measure => simp [intOf]; omega
    · have hki : decide ((us.length : Int) < (p.code.length : Int)) = false := decide_eq_false (by omega)
      have hkn : decide (us.length < p.code.length) = false := decide_eq_false (by omega)
      have hul : Hid (us.length = p.code.length) := by show _ = _; omega
      have HN : Hid (N1 W0 wr kb p sv cv rv us us.length) := hn1
      have hbx := hn1.box hxc hkb0
      have k3 := hbx.c3
      have hkr : kb < wr.heap.size := Nat.lt_of_lt_of_le hn1.kl hn1.tk.size
      have hgb1 := hn1.blk
      clear hn1
      generalize wr = W1 at *
      go_upto_region 12 with fail
      go_loopw [56] (fun i wr => ∃ lv bs, i = .int .i64 (bs.length : Nat) ∧ N2 W1 wr kb p cv sv rv lv bs) (fun i _ => p.wires.length - (intOf i).toNat)
      case atStart => exact ⟨_, [], rfl, N2.first hkr hgb1⟩
      case round =>
        clear hgb1 k3
        obtain ⟨lv, bs, rfl, hn2⟩ := hrel
        have hlen2 := hn2.len
        by_cases hwl : bs.length < p.wires.length
        · have hwi : (bs.length : Int) < (p.wires.length : Int) := by omega
          have hbx2 := hn2.box hbx hkb0
          obtain ⟨wb, wo, x1, x2, x3, x4, rfl, hwlt, hy, d0, d1, d2, d3⟩ := HP.out.wires.at hwl
          replace d0 := (hbx2.below.cell (p := ⟨wb, _, none⟩) hwlt).trans d0
          replace d1 := (hbx2.below.cell (p := ⟨wb, _, none⟩) hwlt).trans d1
          replace d2 := (hbx2.below.cell (p := ⟨wb, _, none⟩) hwlt).trans d2
          replace d3 := (hbx2.below.cell (p := ⟨wb, _, none⟩) hwlt).trans d3
          have HY : Hid (p.wires[bs.length]? = some (x1, x2, x3, x4)) := hy
          have hw4 : wchk x1 x2 x3 x4 = 0 := (wschk_ok hwz).2 (x1, x2, x3, x4) (List.mem_of_getElem? hy)
          have hw12 : p.wires.length ≤ 12 := (wschk_ok hwz).1
          have HWn : Hid (∀ W, Calls Tryz.prog 35 #[.agg #[.int .i64 x1, .int .i64 x2, .int .i64 x3, .int .i64 x4]] W fun e w' => ∃ b, e = .returned (.tuple #[.pointer (some ⟨b, 0, none⟩), .nilIface]) ∧ LnC w' b x3 x4 0 (.slice none 0 0) ∧ W.heap.size ≤ b ∧ b < w'.heap.size ∧ Below W.heap.size W w') := fun W => wnew_ok x1 x2 x3 x4 W hw4
          have HM : Hid (N2 W1 wr kb p cv sv rv lv bs) := hn2
          have hkr2 : kb < wr.heap.size := Nat.lt_of_lt_of_le hn2.kl hn2.tk.size
          have c4 := hn2.blk.cs.2.2.2.2.1
          clear hn2 hy hw4 hbx2
          have bW : Below wr.heap.size wr (wr.alloc (.cells #[.int .i64 x1, .int .i64 x2, .int .i64 x3, .int .i64 x4] 63)) := (Below.refl _ _).alloc (Nat.le_refl _) _
          go_upto_region 17 with (go_at_call 35; refine (HWn.out _).mono ?_; rintro e w8 ⟨b, rfl, hlc, hb0, hb1, b8⟩)
          replace b8 := bW.trans (b8.mono (by simp))
          replace hb0 : wr.heap.size ≤ b := by simp at hb0; omega
          have s8 : w8.cell? ⟨kb, 4, none⟩ = some lv := (b8.cell (p := ⟨kb, 4, none⟩) hkr2).trans c4
          have b9 : Below wr.heap.size wr (w8.alloc (.cells #[glP b] 98)) := b8.alloc b8.size _
          obtain ⟨iT, hiT, hz1, hz2, hz3⟩ := info3 infoGL
          have hro9 := own_below HM.out.row b9 (Nat.le_refl _)
          have hs09 : W1.heap.size ≤ (w8.alloc (.cells #[glP b] 98)).heap.size := Nat.le_trans HM.out.tk.size b9.size
          obtain ⟨lv2, wa9, hra, hown9, hgr9, hnw9⟩ := run_append_at (P := Tryz.prog) (w8.alloc (.cells #[glP b] 98)) 93 93 W1.heap.size 98 iT _ 1 8 (by kernel_rfl) hiT hz1 hz2 hz3 rfl (by decide) lv bs.length (bs.map glP) hro9 ⟨w8.heap.size, 0, none⟩ 1 1 [glP b] rfl (one_new_at rfl _ _) (by simp [glP, Value.oneCell']) (by have : maxLen = 9223372036854775807 := rfl; omega) (by omega) hs09
          clear hiT hz1 hz2 hz3
          obtain ⟨lg, lk, rfl⟩ : ∃ g cap, lv2 = .slice (some ⟨g, 0, none⟩) (bs.length + 1) cap := own_succ hown9
          have hcr : ∀ k, lv.ownBlock = some k → W1.heap.size ≤ k := fun k hk => (HM.out.row.lt k hk).1
          have hblk9 : wa9.heap[kb]? = wr.heap[kb]? := (hgr9.block kb (Nat.lt_of_lt_of_le hkr2 b9.size) (fun e => by have := hcr kb e.symm; have := HM.out.kl; omega)).trans (b9.block kb hkr2)
          have s10 : wa9.cell? ⟨kb, 4, none⟩ = some lv := (World.cell?_of_block (w := wr) (a := ⟨kb, 4, none⟩) hblk9).trans c4
          have f10 : wa9.frozen? ⟨kb, 4, none⟩ = false := (World.frozen?_of_block (w := wr) (a := ⟨kb, 4, none⟩) hblk9).trans (HM.out.blk.free 4)
          have HR9 : Hid _ := HM.out.more HY.out b8 ⟨hb0, hb1⟩ hlc hgr9 hown9 (fun k hk => by
            rcases hnw9 k hk with h1 | h1
            · exact Or.inl h1
            · simp at h1; exact Or.inr h1)
          clear hown9 hgr9 hnw9 b9 hro9 hs09 hblk9 HWn d0 d1 d2 d3 c4 b8 bW hlc
          go_wp2_with (at_builtin; refine wpList_append_eq rfl _ _ 93 rfl lv (.slice (some ⟨w8.heap.size, 0, none⟩) 1 1) rfl rfl (.slice (some ⟨lg, 0, none⟩) (bs.length + 1) lk) wa9 hra ?_)
          go_roundw
          case rel => exact ⟨_, bs ++ [b], by rw [List.length_append]; go_num, HR9.out⟩
          case measure => simp [intOf]; omega
        · have hwi : decide ((bs.length : Int) < (p.wires.length : Int)) = false := decide_eq_false (by omega)
          have hwn : decide (bs.length < p.wires.length) = false := decide_eq_false (by omega)
          have HD : Hid (∃ a : GW, GK wr w.heap.size p (newK p) kb a) := N2.done hkb0 HSP.out.1 HSP.out.2 HN.out hn2 hp hul.out (by omega)
          have HB : Hid (Below w.heap.size w wr) := (hn2.box hbx hkb0).below
          clear hn2
          go_wp2
          go_ret2
          obtain ⟨a, ha⟩ := HD.out
          exact ⟨kb, a, rfl, ha, HB.out⟩
end Go.Proofs.YtajfgmlockjmhafGreatDoor
namespace Go.Proofs.YtajfgmlockjmhafGreatDoor
open Go.RowKit

set_option maxRecDepth 100000 in
set_option maxHeartbeats 1000000 in
theorem crnone_any (n : Int) (w : World) : Calls Tryz.prog 19 #[.int .i64 n] w fun e w' => e = .returned (.bool (ruleOut n)) ∧ Below w.heap.size w w' := by
  by_cases h0 : n = 0
  · subst h0
    go_enter Tryz.func19, Tryz.ntmps19
    go_wp2
    go_ret
    exact ⟨rfl, Below.refl _ _⟩
  · have h0' : (n != 0) = true := by simpa using h0
    by_cases h1 : n = 1
    · subst h1
      go_enter Tryz.func19, Tryz.ntmps19
      go_wp2
      go_ret
      exact ⟨rfl, Below.refl _ _⟩
    · have h1' : (n != 1) = true := by simpa using h1
      by_cases h2 : n = 2
      · subst h2
        go_enter Tryz.func19, Tryz.ntmps19
        go_wp2
        go_ret
        exact ⟨rfl, Below.refl _ _⟩
      · have h2' : (n != 2) = true := by simpa using h2
        have HX : Hid (ruleOut n = true) := by
          show _ = _
          unfold ruleOut
          rw [Bool.or_eq_true, decide_eq_true_eq, decide_eq_true_eq]
          omega
        go_enter Tryz.func19, Tryz.ntmps19
        go_wp2
        go_ret
        exact ⟨by rw [HX.out]; rfl, Below.refl _ _⟩
set_option maxRecDepth 100000 in
set_option maxHeartbeats 2000000 in
theorem indexRule (l : List Int) (ao : Option Addr) (cap : Nat) (w : World) (hl : Stp w (.slice ao l.length cap) l) (h5 : l.length ≤ 5) :
    Calls Tryz.prog 36 #[.slice ao l.length cap, .func (.func 19) #[] #[]] w fun e w' =>
      (∃ r : Int, e = .returned (.int .i64 r) ∧ decide (0 ≤ r) = l.any ruleOut) ∧ Below w.heap.size w w' := by
  have HL : Hid (Stp w (.slice ao l.length cap) l) := hl
  clear hl
  go_enter Tryz.func36, Tryz.ntmps36
  go_wp2
  go_loopw [8] (fun i wr => ∃ k : Nat, k ≤ l.length ∧ i = .int .i64 k ∧ (∀ (j : Nat) x, j < k → l[j]? = some x → ruleOut x = false) ∧ Below w.heap.size w wr) (fun i _ => l.length - (intOf i).toNat)
  case atStart => exact ⟨0, Nat.zero_le _, rfl, fun j _ hj => by omega, Below.refl _ _⟩
  case round =>
    obtain ⟨k, hk, rfl, hall, hb⟩ := hrel
    have Hall : Hid (∀ (j : Nat) x, j < k → l[j]? = some x → ruleOut x = false) := hall
    clear hall
    by_cases hkl : k < l.length
    · obtain ⟨b, off, x, rfl, d0, hx⟩ := HL.out.at hb hkl
      have HX : Hid (l[k]? = some x) := hx
      clear hx
      have hki : (k : Int) < (l.length : Int) := by omega
      go_wp2_with (go_at_call 19; refine (crnone_any x _).mono ?_)
      rintro e w1 ⟨rfl, b1⟩
      have hb1 := hb.trans (b1.mono hb.size)
      cases hok : ruleOut x with
      | false =>
        have HO : Hid (ruleOut x = false) := hok
        clear hok
        go_wp2
        go_roundw
        case rel =>
          refine ⟨k + 1, by omega, by go_num, fun j y hj hy => ?_, hb1⟩
          by_cases hjk : j < k
          · exact Hall.out j y hjk hy
          · obtain rfl : j = k := by omega
            rw [HX.out] at hy
            obtain rfl := Option.some.inj hy
            exact HO.out
        case measure => simp [intOf]; omega
      | true =>
        have HF : Hid (l.any ruleOut = true) := by
          show _ = _
          rw [List.any_eq_true]
          exact ⟨x, List.mem_of_getElem? HX.out, hok⟩
        clear hok
        go_wp2
        go_ret
        exact ⟨⟨_, rfl, by rw [HF.out]; simp⟩, hb1⟩
    · have HF : Hid (l.any ruleOut = false) := by
        show _ = _
        rw [List.any_eq_false]
        intro x hx
        obtain ⟨i, hi⟩ := List.mem_iff_getElem?.1 hx
        have := (List.getElem?_eq_some_iff.1 hi).1
        rw [Hall.out i x (by omega) hi]
        decide
      have hki : decide ((k : Int) < (l.length : Int)) = false := decide_eq_false (by omega)
      have hkn : decide (k < l.length) = false := decide_eq_false (by omega)
      go_wp2
      go_ret
      exact ⟨⟨_, rfl, by rw [HF.out]; simp⟩, hb⟩
set_option maxRecDepth 100000 in
set_option maxHeartbeats 2000000 in
theorem containsRule (l : List Int) (ao : Option Addr) (cap : Nat) (w : World) (hl : Stp w (.slice ao l.length cap) l) (h5 : l.length ≤ 5) :
    Calls Tryz.prog 20 #[.slice ao l.length cap, .func (.func 19) #[] #[]] w fun e w' =>
      e = .returned (.bool (l.any ruleOut)) ∧ Below w.heap.size w w' := by
  have h := indexRule l ao cap w hl h5
  clear hl
  go_enter Tryz.func20, Tryz.ntmps20
  go_wp2_with (go_at_call 36; refine h.mono ?_; rintro e w1 ⟨⟨r, rfl, hr⟩, bb⟩; clear h; have HR : Hid (decide (0 ≤ r) = l.any ruleOut) := hr; clear hr)
  go_ret
  exact ⟨ret_bool HR.out, bb⟩
set_option maxRecDepth 100000 in
set_option maxHeartbeats 4000000 in
theorem crnew_no (p : PD) (vc vs vw wv : Value) (most : Int) (w : World) (hfm : Forms w) (hP : Pln w vc vs vw p) (hp : plchk p ≠ 0) :
    Calls Tryz.prog 5 #[plV vc p.ticks vs vw, wv, .int .i64 most] w fun e w' => ∃ x, e = .returned (.tuple #[.pointer x, wErr (plchk p)]) ∧ Below w.heap.size w w' := by
  obtain ⟨ca, cc, rfl⟩ := hP.code.form
  obtain ⟨sa, sc, rfl⟩ := hP.spans.form
  obtain ⟨wa, wc', rfl⟩ := hP.wires.form
  have hA : Below w.heap.size w (w.alloc (.cells #[.slice ca p.code.length cc, .int .i64 p.ticks, .slice sa p.spans.length sc, .slice wa p.wires.length wc'] 26)) := (Below.refl _ _).alloc (Nat.le_refl _) _
  have hc := gnew_no p _ _ _ _ (hfm.all hA) (hP.all hA) hp
  unfold plV at hc ⊢
  rw [wErr_not hp] at hc ⊢
  generalize plchk p = ec at hc hp ⊢
  clear hP hfm
  go_enter Tryz.func5, Tryz.ntmps5
  go_wp2_with (go_at_call 18; refine hc.mono ?_; rintro e w1 ⟨x0, rfl, b1⟩; clear hc)
  go_ret2
  exact ⟨none, rfl, hA.trans (b1.mono hA.size)⟩
set_option maxRecDepth 100000 in
set_option maxHeartbeats 4000000 in
theorem crnew_few (p : PD) (vc vs vw wv : Value) (what : List Int) (most : Int) (w : World) (hfm : Forms w) (hP : Pln w vc vs vw p) (hwv : Stp w wv what) (hp : plchk p = 0) (hl : what.length ≠ p.code.length) :
    Calls Tryz.prog 5 #[plV vc p.ticks vs vw, wv, .int .i64 most] w fun e w' => ∃ x, e = .returned (.tuple #[.pointer x, wErr 3]) ∧ Below w.heap.size w w' := by
  obtain ⟨ca, cc, rfl⟩ := hP.code.form
  obtain ⟨sa, sc, rfl⟩ := hP.spans.form
  obtain ⟨wa, wc', rfl⟩ := hP.wires.form
  obtain ⟨ta, tc, rfl⟩ := hwv.form
  have hx0 := Bx.first w (.slice ca p.code.length cc) p.ticks (.slice sa p.spans.length sc) (.slice wa p.wires.length wc')
  have hc := gnew_ok p _ _ _ _ (hfm.all hx0.below) (hP.all hx0.below) hp
  unfold plV at hc ⊢
  have hlI : (what.length : Int) ≠ (p.code.length : Int) := by omega
  have hne : ((what.length : Int) != (p.code.length : Int)) = true := bne_iff_ne.2 hlI
  have hne2 : ((what.length : Int) == (p.code.length : Int)) = false := beq_eq_false_iff_ne.2 hlI
  have hne3 : (what.length == p.code.length) = false := by simpa using hl
  have hne4 : (what.length != p.code.length) = true := by simpa using hl
  clear hP hfm hp hwv hl hlI
  go_enter Tryz.func5, Tryz.ntmps5
  go_wp2_with (go_at_call 18; refine hc.mono ?_; rintro e w1 ⟨kb, a, rfl, hgk, b1⟩; clear hc hgk; have hx1 := hx0.step b1; have k0 := hx1.c0)
  go_ret2
  first | exact ⟨none, rfl, hx1.below⟩ | exact ⟨⟨none, rfl⟩, hx1.below⟩
/-- A rule is none, or most is out of bounds. -/
theorem rule_cases {what : List Int} {most : Int} (h : ¬ (what.any ruleOut = false ∧ 0 ≤ most ∧ most ≤ 100)) : what.any ruleOut = true ∨ (what.any ruleOut = false ∧ most < 0) ∨ (what.any ruleOut = false ∧ ¬ most < 0 ∧ 100 < most) := by
  cases hq : what.any ruleOut with
  | true => exact Or.inl rfl
  | false =>
    by_cases h0 : most < 0
    · exact Or.inr (Or.inl ⟨rfl, h0⟩)
    · exact Or.inr (Or.inr ⟨rfl, h0, by
        by_cases h1 : 100 < most
        · exact h1
        · exact absurd ⟨hq, by omega, by omega⟩ h⟩)
set_option maxRecDepth 100000 in
set_option maxHeartbeats 4000000 in
theorem crnew_out (p : PD) (vc vs vw wv : Value) (what : List Int) (most : Int) (w : World) (hfm : Forms w) (hP : Pln w vc vs vw p) (hwv : Stp w wv what) (hp : plchk p = 0) (hl : what.length = p.code.length) (ho : ¬ (what.any ruleOut = false ∧ 0 ≤ most ∧ most ≤ 100)) :
    Calls Tryz.prog 5 #[plV vc p.ticks vs vw, wv, .int .i64 most] w fun e w' => ∃ x, e = .returned (.tuple #[.pointer x, wErr 1]) ∧ Below w.heap.size w w' := by
  obtain ⟨ca, cc, rfl⟩ := hP.code.form
  obtain ⟨sa, sc, rfl⟩ := hP.spans.form
  obtain ⟨wa, wc', rfl⟩ := hP.wires.form
  obtain ⟨ta, tc, rfl⟩ := hwv.form
  have hx0 := Bx.first w (.slice ca p.code.length cc) p.ticks (.slice sa p.spans.length sc) (.slice wa p.wires.length wc')
  have hc := gnew_ok p _ _ _ _ (hfm.all hx0.below) (hP.all hx0.below) hp
  have hc5 := (plchk_zero hp).1
  have HCo : Hid (∀ W, Below w.heap.size w W → Calls Tryz.prog 20 #[.slice ta p.code.length tc, .func (.func 19) #[] #[]] W fun e w' => e = .returned (.bool (what.any ruleOut)) ∧ Below W.heap.size W w') := fun W hb => by
    have := containsRule what ta tc W (hwv.every hb) (by omega)
    rw [hl] at this
    exact this
  unfold plV at hc ⊢
  rw [hl]
  have hcs := rule_cases ho
  clear hP hfm hp hwv hl ho
  generalize what.any ruleOut = q at HCo hcs
  rcases hcs with rfl | ⟨rfl, h1⟩ | ⟨rfl, h1, h2⟩
  · go_enter Tryz.func5, Tryz.ntmps5
    go_wp2_with (first | (go_at_call 18; refine hc.mono ?_; rintro e w1 ⟨kb, a, rfl, hgk, b1⟩; clear hc hgk; have hx1 := hx0.step b1; have k0 := hx1.c0) | (go_at_call 20; refine (HCo.out w1 hx1.below).mono ?_; rintro e w2 ⟨rfl, b2⟩; clear HCo))
    go_ret2
    have hb2 := hx1.below.trans (b2.mono hx1.below.size)
    first | exact ⟨none, rfl, hb2⟩ | exact ⟨⟨none, rfl⟩, hb2⟩
  · have h1' : decide (most < 0) = true := decide_eq_true h1
    go_enter Tryz.func5, Tryz.ntmps5
    go_wp2_with (first | (go_at_call 18; refine hc.mono ?_; rintro e w1 ⟨kb, a, rfl, hgk, b1⟩; clear hc hgk; have hx1 := hx0.step b1; have k0 := hx1.c0) | (go_at_call 20; refine (HCo.out w1 hx1.below).mono ?_; rintro e w2 ⟨rfl, b2⟩; clear HCo))
    go_ret2
    have hb2 := hx1.below.trans (b2.mono hx1.below.size)
    first | exact ⟨none, rfl, hb2⟩ | exact ⟨⟨none, rfl⟩, hb2⟩
  · have h1' : decide (most < 0) = false := decide_eq_false h1
    have h2' : decide (100 < most) = true := decide_eq_true h2
    go_enter Tryz.func5, Tryz.ntmps5
    go_wp2_with (first | (go_at_call 18; refine hc.mono ?_; rintro e w1 ⟨kb, a, rfl, hgk, b1⟩; clear hc hgk; have hx1 := hx0.step b1; have k0 := hx1.c0) | (go_at_call 20; refine (HCo.out w1 hx1.below).mono ?_; rintro e w2 ⟨rfl, b2⟩; clear HCo))
    go_ret2
    have hb2 := hx1.below.trans (b2.mono hx1.below.size)
    first | exact ⟨none, rfl, hb2⟩ | exact ⟨⟨none, rfl⟩, hb2⟩
/-- The rooms' numbers, so far. -/
def keptL (what : List Int) (p : PD) (j : Nat) : List (Int × Int × Int) := (List.range j).map fun i => (what.getD i 0, ((p.code.getD i []).length : Int), 0)
theorem keptL_succ (what : List Int) (p : PD) (j : Nat) : keptL what p (j + 1) = keptL what p j ++ [(what.getD j 0, ((p.code.getD j []).length : Int), 0)] := by
  unfold keptL
  rw [List.range_succ, List.map_append]
  rfl
theorem keptL_at (what : List Int) (p : PD) {j i : Nat} (h : i < j) : (keptL what p j)[i]? = some (what.getD i 0, ((p.code.getD i []).length : Int), 0) := by
  unfold keptL
  rw [List.getElem?_map, List.getElem?_range h]
  rfl
/-- Its block. -/
def CB (W : World) (b kb : Nat) (qv : Value) (most : Int) : Prop := W.heap[b]? = some (.cells #[.pointer (some ⟨kb, 0, none⟩), qv, .int .i64 most] 75 (0, 0))
theorem CB.cs {W : World} {b kb : Nat} {qv : Value} {most : Int} (h : CB W b kb qv most) : W.cell? ⟨b, 0, none⟩ = some (.pointer (some ⟨kb, 0, none⟩)) ∧ W.cell? ⟨b, 1, none⟩ = some qv ∧ W.cell? ⟨b, 2, none⟩ = some (.int .i64 most) := by
  have e : W.heap[b]? = _ := h
  simp [World.cell?, e]
theorem CB.free {W : World} {b kb : Nat} {qv : Value} {most : Int} (h : CB W b kb qv most) (o : Nat) : W.frozen? ⟨b, o, none⟩ = false := by
  have e : W.heap[b]? = _ := h
  simp [World.frozen?, e]
theorem CB.rooms {W : World} {b kb : Nat} {qv : Value} {most : Int} (h : CB W b kb qv most) (v : Value) : CB (W.setCell ⟨b, 1, none⟩ v) b kb v most := by
  have e : W.heap[b]? = _ := h
  unfold CB
  simp [World.setCell, Array.getElem?_modify, e]
theorem infoKept : (Tryz.prog.info? 77).map (fun i => (i.zero, i.size, i.bytes)) = some (some (.agg #[.int .i64 0, .int .i64 0, .int .i64 0]), 3, 24) := by kernel_rfl
theorem three_new {w : World} {k : Nat} (hk : k = w.heap.size) (x y z : Int) (t : TypeId) : ∀ j u, [Value.int .i64 x, .int .i64 y, .int .i64 z][j]? = some u → (w.alloc (.cells #[.int .i64 x, .int .i64 y, .int .i64 z] t)).cell? ((⟨k, 0, none⟩ : Addr).add j) = some u := by
  intro j u hj
  subst hk
  rw [Addr.add_lit, Nat.zero_add]
  match j, hj with
  | 0, hj => simp at hj; subst hj; simp
  | 1, hj => simp at hj; subst hj; simp
  | 2, hj => simp at hj; subst hj; simp
  | j + 3, hj => simp at hj
/-- A care that is being made: the numbers of so many rooms. -/
structure NC (W0 W : World) (cb kb : Nat) (p : PD) (what : List Int) (most : Int) (qv : Value) (j : Nat) : Prop where
  tk : KTouch [cb] W0 W
  cl : cb < W0.heap.size
  blk : CB W cb kb qv most
  row : W.ownsRow W0.heap.size 77 3 qv j (spCells (keptL what p j))
theorem NC.first {W0 : World} {cb kb : Nat} {p : PD} {what : List Int} {most : Int} (hc : cb < W0.heap.size) (h : CB W0 cb kb (.slice none 0 0) most) : NC W0 W0 cb kb p what most (.slice none 0 0) 0 :=
  ⟨KTouch.refl _ _, hc, h, World.ownsRow_nil _ _ _ _⟩
/-- One room more. -/
theorem NC.more {W0 W w1 wa : World} {cb kb j : Nat} {p : PD} {what : List Int} {most : Int} {qv qv' : Value} (h : NC W0 W cb kb p what most qv j) (b1 : Below W.heap.size W w1) (hg : w1.grownBy wa qv.ownBlock)
    (hown : wa.ownsRow W0.heap.size 77 3 qv' (j + 1) (spCells (keptL what p j) ++ [.int .i64 (what.getD j 0), .int .i64 ((p.code.getD j []).length : Nat), .int .i64 0])) : NC W0 (wa.setCell ⟨cb, 1, none⟩ qv') cb kb p what most qv' (j + 1) := by
  have hcr : ∀ k, qv.ownBlock = some k → W0.heap.size ≤ k := fun k hk => (h.row.lt k hk).1
  have hs := h.tk.size
  have h1 := b1.size
  refine ⟨(h.tk.grow b1 hg hcr).trans (KTouch.set _ (by simp) 1 _), h.cl, CB.rooms (qv := qv) ?_ qv', ?_⟩
  · have hlt : cb < W.heap.size := Nat.lt_of_lt_of_le h.cl hs
    exact (hg.block cb (by omega) (fun e => by have := hcr cb e.symm; have := h.cl; omega)).trans ((b1.block cb hlt).trans h.blk)
  · rw [keptL_succ, spCells_snoc]
    exact ownsRow_setCell_below hown (a := ⟨cb, 1, none⟩) h.cl qv'
/-- All is there: a care. -/
theorem NC.done {w W1 W0 W : World} {cb kb : Nat} {p : PD} {what : List Int} {most : Int} {qv : Value} {a : GW} (hw : w.heap.size ≤ W1.heap.size) (hcb : cb = W1.heap.size) (hk : GK W1 w.heap.size p (newK p) kb a) (hb : Below W1.heap.size W1 W0) (h : NC W0 W cb kb p what most qv p.code.length) (hp : plchk p = 0) : ∃ x : CW, GC W w.heap.size p what most (newC p) cb x := by
  have hne0 := (plchk_zero hp).2.1
  have hk0 := hk.all hb
  have hcn : cb ∉ a.F kb := fun hm => by have := hk.flt cb hm; omega
  have hk1 := hk0.frame h.tk (fun m hm => by rw [List.mem_singleton] at hm; subst hm; exact hcn)
  have hs0 := hb.size
  have hcl := h.cl
  have hs := h.tk.size
  obtain ⟨c0, c1, c2⟩ := h.blk.cs
  have hrow := h.row
  have hcs := @World.ownsRow.cells _ _ _ _ _ _ _ hrow
  rcases hrow.2 with ⟨_, h0⟩ | ⟨qb, qcap, cur, rfl, hq0, hq1, _⟩
  · exact absurd h0 hne0
  · have hqlt : qb < W.heap.size := (Array.getElem?_eq_some_iff.1 hq1).1
    refine ⟨⟨kb, a, qb, qcap⟩, c0, ?_, c2, hk1, fun i t ht => ?_, fun o => ?_, ⟨by omega, by show _ ≤ qb; omega⟩, ⟨by omega, hqlt⟩, ⟨by show cb ≠ qb; omega, hcn, fun hm => ?_⟩⟩
    · have : (newC p).ts.length = p.code.length := by simp [newC]
      rw [this]
      exact c1
    · have hil : i < p.code.length := by
        have := (List.getElem?_eq_some_iff.1 ht).1
        simpa [newC] using this
      have ht0 : t = 0 := by
        unfold newC at ht
        simp only [List.getElem?_map] at ht
        obtain ⟨_, _, rfl⟩ := Option.map_eq_some_iff.1 ht
        rfl
      subst ht0
      obtain ⟨h1, h2, h3⟩ := spCells_at _ i _ (keptL_at what p hil)
      have hat : ∀ j u, (spCells (keptL what p p.code.length))[j]? = some u → W.cell? ⟨qb, j, none⟩ = some u := fun j u hu => by
        have := hcs rfl j u hu
        rwa [Addr.add_lit, Nat.zero_add] at this
      exact ⟨hat _ _ h1, hat _ _ h2, hat _ _ h3⟩
    · simp [World.frozen?, hq1]
    · have := hk.flt qb hm
      omega
set_option maxRecDepth 100000 in
set_option maxHeartbeats 16000000 in
theorem crnew_ok (p : PD) (vc vs vw wv : Value) (what : List Int) (most : Int) (w : World) (hfm : Forms w) (hP : Pln w vc vs vw p) (hwv : Stp w wv what) (hcE : carE p what most = 0) :
    Calls Tryz.prog 5 #[plV vc p.ticks vs vw, wv, .int .i64 most] w fun e w' => ∃ cb x, e = .returned (.tuple #[.pointer (some ⟨cb, 0, none⟩), .nilIface]) ∧ GC w' w.heap.size p what most (newC p) cb x ∧ Below w.heap.size w w' := by
  obtain ⟨hp, hwl, hwr, hm0, hm1⟩ := carE_zero hcE
  obtain ⟨ca, cc, rfl⟩ := hP.code.form
  obtain ⟨sa, sc, rfl⟩ := hP.spans.form
  obtain ⟨wa, wc', rfl⟩ := hP.wires.form
  obtain ⟨ta, tc, rfl⟩ := hwv.form
  have hx0 := Bx.first w (.slice ca p.code.length cc) p.ticks (.slice sa p.spans.length sc) (.slice wa p.wires.length wc')
  have hc := gnew_ok p _ _ _ _ (hfm.all hx0.below) (hP.all hx0.below) hp
  have hc5 := (plchk_zero hp).1
  have hany : what.any ruleOut = false := by
    rw [List.any_eq_false]
    intro n hn
    have := hwr n hn
    unfold ruleOut
    rw [Bool.not_eq_true, Bool.or_eq_false_iff, decide_eq_false_iff_not, decide_eq_false_iff_not]
    omega
  have HCo : Hid (∀ W, Below w.heap.size w W → Calls Tryz.prog 20 #[.slice ta p.code.length tc, .func (.func 19) #[] #[]] W fun e w' => e = .returned (.bool false) ∧ Below W.heap.size W w') := fun W hb => by
    have := containsRule what ta tc W (hwv.every hb) (by omega)
    rw [hwl, hany] at this
    exact this
  unfold plV at hc ⊢
  have HP : Hid (Pln w (.slice ca p.code.length cc) (.slice sa p.spans.length sc) (.slice wa p.wires.length wc') p) := hP
  have HWV : Hid (Stp w (.slice ta what.length tc) what) := hwv
  have HWL : Hid (what.length = p.code.length) := hwl
  have HPZ : Hid (plchk p = 0) := hp
  have h1' : decide (most < 0) = false := decide_eq_false (by omega)
  have h2' : decide (100 < most) = false := decide_eq_false (by omega)
  rw [hwl]
  clear hP hfm hp hwv hwl hcE hwr hany
  go_enter Tryz.func5, Tryz.ntmps5
  go_upto_region 9 with (first | (go_at_call 18; refine hc.mono ?_; rintro e w1 ⟨kb, a, rfl, hgk, b1⟩; clear hc; have hx1 := hx0.step b1; have k0 := hx1.c0; have HGK : Hid (GK w1 _ p (newK p) kb a) := hgk; clear hgk) | (go_at_call 20; refine (HCo.out w1 hx1.below).mono ?_; rintro e w2 ⟨rfl, b2⟩; clear HCo))
  have hx2 := hx1.step b2
  have HG2 : Hid (GK w2 w.heap.size p (newK p) kb a) := (HGK.out.all b2).lower (by simp)
  have hs2 := hx2.size
  clear k0 HGK hx1 b1 b2
  go_upto_region 10 with fail
  have hB0 : Below w2.heap.size w2 (w2.alloc (.cells #[.pointer (some ⟨kb, 0, none⟩), .slice none 0 0, .int .i64 most] 75)) := (Below.refl _ _).alloc (Nat.le_refl _) _
  have hCB : CB (w2.alloc (.cells #[.pointer (some ⟨kb, 0, none⟩), .slice none 0 0, .int .i64 most] 75)) w2.heap.size kb (.slice none 0 0) most := World.alloc_heap_new _ _
  have hclt : w2.heap.size < (w2.alloc (.cells #[.pointer (some ⟨kb, 0, none⟩), .slice none 0 0, .int .i64 most] 75)).heap.size := by simp
  generalize w2.alloc (.cells #[.pointer (some ⟨kb, 0, none⟩), .slice none 0 0, .int .i64 most] 75) = W0 at hB0 hCB hclt ⊢
  have hxW := hx2.step hB0
  have HB0 : Hid (Below w2.heap.size w2 W0) := hB0
  obtain ⟨cb, hcb⟩ : ∃ cb, cb = w2.heap.size := ⟨_, rfl⟩
  have HCBE : Hid (cb = w2.heap.size) := hcb
  have hcbw : w.heap.size + 1 ≤ cb := by omega
  rw [← hcb] at hCB hclt ⊢
  clear hcb hB0
  go_upto_region 11 with fail
  go_loopw [47] (fun i wr => ∃ (j : Nat) (qv : Value), j ≤ p.code.length ∧ i = .int .i64 j ∧ NC W0 wr cb kb p what most qv j) (fun i _ => p.code.length - (intOf i).toNat)
  case atStart => exact ⟨0, _, Nat.zero_le _, rfl, NC.first hclt hCB⟩
  case round =>
    clear hCB
    obtain ⟨j, qv, hjl, rfl, hn⟩ := hrel
    have hbx : Bx w wr (.slice ca p.code.length cc) p.ticks (.slice sa p.spans.length sc) (.slice wa p.wires.length wc') := Below.trans hxW (hn.tk.below (fun b hb => by rw [List.mem_singleton] at hb; omega) hxW.size)
    by_cases hj : j < p.code.length
    · have hji : (j : Int) < (p.code.length : Int) := by omega
      obtain ⟨tb, tq, wn, rfl, hwc, hwx⟩ := HWV.out.at hbx.below (show j < what.length by have := HWL.out; omega)
      obtain ⟨kc, ko, ua, un, ug, c, rfl, hkl, hcy, hcd, rfl, _⟩ := HP.out.code.at hj
      replace hcd := (hbx.below.cell (p := ⟨kc, _, none⟩) hkl).trans hcd
      have HWN : Hid (what.getD j 0 = wn ∧ p.code.getD j [] = c) := ⟨by simp [List.getD, hwx], by simp [List.getD, hcy]⟩
      have HN : Hid (NC W0 wr cb kb p what most qv j) := hn
      have k0 := hbx.c0
      have c1 := hn.blk.cs.2.1
      have hcr9 : cb < wr.heap.size := Nat.lt_of_lt_of_le hn.cl hn.tk.size
      have hw9 : w.heap.size < wr.heap.size := hbx.size
      clear hn hcy hwx hbx
      go_upto_region 13 with fail
      have bQ : Below wr.heap.size wr wr.drew := (Below.refl _ _).drew
      refine wp_region_popped (fun W => W.cell? ⟨cb, 1, none⟩ = some qv ∧ W.cell? ⟨w.heap.size, 0, none⟩ = some (.slice (some ⟨kc, ko, none⟩) p.code.length cc) ∧ W.cell? ⟨kc, ko + j, none⟩ = some (.slice ua c.length ug)) (by kernel_rfl) rfl (by decide +kernel) ⟨c1, k0, hcd⟩ (fun hHeld => ?_)
      simp only [List.pop_toArray, List.dropLast_cons_cons, List.dropLast_singleton, List.size_toArray, List.length_cons, List.length_nil, Nat.reduceAdd, Array.replicate_succ, Array.replicate_zero, List.push_toArray, List.nil_append, List.cons_append]
      refine wpAnyH_take (i := 0) (v := ?_) rfl (by decide +kernel) (by decide +kernel) (by decide +kernel) (fun _ _ _ h => h) (Or.inl ⟨by rfl, ?_⟩) (by assumption) ?_
      rotate_left
      · intro W hSw
        try dsimp only at hSw
        obtain ⟨hS1, hS2, hS3⟩ := hSw
        go_simp
        try with_reducible rfl
      simp only [Act.put, List.setIfInBounds_toArray, List.set_cons_zero]
      refine wpAnyH_take (i := 1) (v := ?_) rfl (by decide +kernel) (by decide +kernel) (by decide +kernel) (fun _ _ _ h => h) (Or.inl ⟨by rfl, ?_⟩) (by assumption) ?_
      rotate_left
      · intro W hSw
        try dsimp only at hSw
        obtain ⟨hS1, hS2, hS3⟩ := hSw
        go_simp
        try with_reducible rfl
      simp only [Act.put, List.setIfInBounds_toArray, List.set_cons_zero, List.set_cons_succ]
      refine wpAnyH_take (i := 2) (v := ?_) rfl (by decide +kernel) (by decide +kernel) (by decide +kernel) (fun _ _ _ h => h) (Or.inl ⟨by rfl, ?_⟩) (by assumption) ?_
      rotate_left
      · intro W hSw
        try dsimp only at hSw
        obtain ⟨hS1, hS2, hS3⟩ := hSw
        go_simp
        try with_reducible rfl
      simp only [Act.put, List.setIfInBounds_toArray, List.set_cons_zero, List.set_cons_succ]
      refine wpAnyH_take (i := 3) (v := ?_) rfl (by decide +kernel) (by decide +kernel) (by decide +kernel) (fun _ _ _ h => h) (Or.inl ⟨by rfl, ?_⟩) (by assumption) ?_
      rotate_left
      · intro W hSw
        try dsimp only at hSw
        obtain ⟨hS1, hS2, hS3⟩ := hSw
        go_simp
        try with_reducible rfl
      simp only [Act.put, List.setIfInBounds_toArray, List.set_cons_zero, List.set_cons_succ]
      refine wpAnyH_take (i := 4) (v := ?_) rfl (by decide +kernel) (by decide +kernel) (by decide +kernel) (fun _ _ _ h => h) (Or.inl ⟨by rfl, ?_⟩) (by assumption) ?_
      rotate_left
      · intro W hSw
        try dsimp only at hSw
        obtain ⟨hS1, hS2, hS3⟩ := hSw
        go_simp
        try with_reducible rfl
      simp only [Act.put, List.setIfInBounds_toArray, List.set_cons_zero, List.set_cons_succ]
      refine wpAnyH_take (i := 5) (v := ?_) rfl (by decide +kernel) (by decide +kernel) (by decide +kernel) (fun _ _ _ h => h) (Or.inl ⟨by rfl, ?_⟩) (by assumption) ?_
      rotate_left
      · intro W hSw
        try dsimp only at hSw
        obtain ⟨hS1, hS2, hS3⟩ := hSw
        go_simp
        try with_reducible rfl
      simp only [Act.put, List.setIfInBounds_toArray, List.set_cons_zero, List.set_cons_succ]
      refine wpAnyH_take (i := 6) (v := ?_) rfl (by decide +kernel) (by decide +kernel) (by decide +kernel) (fun _ _ _ h => h) (Or.inl ⟨by rfl, ?_⟩) (by assumption) ?_
      rotate_left
      · intro W hSw
        try dsimp only at hSw
        obtain ⟨hS1, hS2, hS3⟩ := hSw
        go_simp
        try with_reducible rfl
      simp only [Act.put, List.setIfInBounds_toArray, List.set_cons_zero, List.set_cons_succ]
      refine wpAnyH_take (i := 7) (v := ?_) rfl (by decide +kernel) (by decide +kernel) (by decide +kernel) (fun _ _ _ h => h) (Or.inl ⟨by rfl, ?_⟩) (by assumption) ?_
      rotate_left
      · intro W hSw
        try dsimp only at hSw
        obtain ⟨hS1, hS2, hS3⟩ := hSw
        go_simp
        try with_reducible rfl
      simp only [Act.put, List.setIfInBounds_toArray, List.set_cons_zero, List.set_cons_succ]
      refine wpAnyH_take (i := 8) (v := ?_) rfl (by decide +kernel) (by decide +kernel) (by decide +kernel) (fun _ _ _ h => h) (Or.inl ⟨by rfl, ?_⟩) (by assumption) ?_
      rotate_left
      · intro W hSw
        try dsimp only at hSw
        obtain ⟨hS1, hS2, hS3⟩ := hSw
        go_simp
        try with_reducible rfl
      simp only [Act.put, List.setIfInBounds_toArray, List.set_cons_zero, List.set_cons_succ]
      refine wpAnyH_take (i := 9) (v := ?_) rfl (by decide +kernel) (by decide +kernel) (by decide +kernel) (fun _ _ _ h => h) (Or.inl ⟨by rfl, ?_⟩) (by assumption) ?_
      rotate_left
      · intro W hSw
        try dsimp only at hSw
        obtain ⟨hS1, hS2, hS3⟩ := hSw
        go_simp
        try with_reducible rfl
      simp only [Act.put, List.setIfInBounds_toArray, List.set_cons_zero, List.set_cons_succ]
      refine wpAnyH_take (i := 10) (v := ?_) rfl (by decide +kernel) (by decide +kernel) (by decide +kernel) (fun _ _ _ h => h) (Or.inl ⟨by rfl, ?_⟩) (by assumption) ?_
      rotate_left
      · intro W hSw
        try dsimp only at hSw
        obtain ⟨hS1, hS2, hS3⟩ := hSw
        go_simp
        try with_reducible rfl
      simp only [Act.put, List.setIfInBounds_toArray, List.set_cons_zero, List.set_cons_succ]
      refine wpAnyH_take (i := 11) (v := ?_) rfl (by decide +kernel) (by decide +kernel) (by decide +kernel) (fun _ _ _ h => h) (Or.inl ⟨by rfl, ?_⟩) (by assumption) ?_
      rotate_left
      · intro W hSw
        try dsimp only at hSw
        obtain ⟨hS1, hS2, hS3⟩ := hSw
        go_simp
        try with_reducible rfl
      simp only [Act.put, List.setIfInBounds_toArray, List.set_cons_zero, List.set_cons_succ]
      refine wpAnyH_take (i := 12) (v := ?_) rfl (by decide +kernel) (by decide +kernel) (by decide +kernel) (fun _ _ _ h => h) (Or.inl ⟨by rfl, ?_⟩) (by assumption) ?_
      rotate_left
      · intro W hSw
        try dsimp only at hSw
        obtain ⟨hS1, hS2, hS3⟩ := hSw
        go_simp
        try with_reducible rfl
      simp only [Act.put, List.setIfInBounds_toArray, List.set_cons_zero, List.set_cons_succ]
      refine wpAnyH_ready (rs := [13]) (by decide +kernel) (by simp) ?_
      refine AllReadyH.cons (o := _) rfl (fun K hK => ?_) AllReadyH.nil
      go_simp
      have b9 : Below wr.heap.size wr (wr.drew.alloc (.cells #[.int .i64 wn, .int .i64 (c.length : Nat), .int .i64 0] 77)) := bQ.alloc (Nat.le_refl _) _
      have hq9 : ∀ W, Below wr.heap.size wr W → W.cell? ⟨cb, 1, none⟩ = some qv ∧ W.cell? ⟨w.heap.size, 0, none⟩ = some (.slice (some ⟨kc, ko, none⟩) p.code.length cc) ∧ W.cell? ⟨kc, ko + j, none⟩ = some (.slice ua c.length ug) := fun W hb => ⟨(hb.cell (p := ⟨cb, 1, none⟩) hcr9).trans c1, (hb.cell (p := ⟨w.heap.size, 0, none⟩) hw9).trans k0, (hb.cell (p := ⟨kc, ko + j, none⟩) (wlt hcd)).trans hcd⟩
      refine hK.out _ _ (hq9 _ b9) (fun hHeld => ?_)
      clear hK K
      simp only [List.setIfInBounds_toArray, List.set_cons_zero, List.set_cons_succ]
      refine wpAnyH_ready (rs := [14]) (by decide +kernel) (by simp) ?_
      refine AllReadyH.cons (o := _) rfl (fun K hK => ?_) AllReadyH.nil
      obtain ⟨iT, hiT, hz1, hz2, hz3⟩ := info3 infoKept
      have hro9 := own_below HN.out.row b9 (Nat.le_refl _)
      have hs09 : W0.heap.size ≤ (wr.drew.alloc (.cells #[.int .i64 wn, .int .i64 (c.length : Nat), .int .i64 0] 77)).heap.size := Nat.le_trans HN.out.tk.size b9.size
      obtain ⟨qv2, wa9, hra, hown9, hgr9, hnw9⟩ := run_append_at (P := Tryz.prog) (wr.drew.alloc (.cells #[.int .i64 wn, .int .i64 (c.length : Nat), .int .i64 0] 77)) 73 73 W0.heap.size 77 iT _ 3 24 (by kernel_rfl) hiT hz1 hz2 hz3 rfl (by decide) qv j (spCells (keptL what p j)) hro9 ⟨wr.drew.heap.size, 0, none⟩ 1 1 [.int .i64 wn, .int .i64 (c.length : Nat), .int .i64 0] rfl (three_new rfl _ _ _ _) (by simp [Value.oneCell']) (by have : maxLen = 9223372036854775807 := rfl; omega) (by omega) hs09
      clear hiT hz1 hz2 hz3
      obtain ⟨gv, ck, rfl⟩ : ∃ g cap, qv2 = .slice (some ⟨g, 0, none⟩) (j + 1) cap := own_succ hown9
      have hcr : ∀ k, qv.ownBlock = some k → W0.heap.size ≤ k := fun k hk => (HN.out.row.lt k hk).1
      have hblk9 : wa9.heap[cb]? = wr.heap[cb]? := (hgr9.block cb (Nat.lt_of_lt_of_le hcr9 b9.size) (fun e => by have := hcr cb e.symm; have := HN.out.cl; omega)).trans (b9.block cb hcr9)
      have s10 : wa9.cell? ⟨cb, 1, none⟩ = some qv := (World.cell?_of_block (w := wr) (a := ⟨cb, 1, none⟩) hblk9).trans c1
      have f10 : wa9.frozen? ⟨cb, 1, none⟩ = false := (World.frozen?_of_block (w := wr) (a := ⟨cb, 1, none⟩) hblk9).trans (HN.out.blk.free 1)
      have hold9 : ∀ k, k < W0.heap.size → k < wr.heap.size → wa9.heap[k]? = wr.heap[k]? := fun k h1 h2 => (hgr9.block k (Nat.lt_of_lt_of_le h2 b9.size) (fun e => by have := hcr k e.symm; omega)).trans (b9.block k h2)
      have hw0 : w.heap.size < W0.heap.size := by have := HN.out.cl; omega
      have hk0 : kc < W0.heap.size := by omega
      have s11 : wa9.cell? ⟨w.heap.size, 0, none⟩ = some (.slice (some ⟨kc, ko, none⟩) p.code.length cc) := (World.cell?_of_block (w := wr) (a := ⟨w.heap.size, 0, none⟩) (hold9 _ hw0 hw9)).trans k0
      have s12 : wa9.cell? ⟨kc, ko + j, none⟩ = some (.slice ua c.length ug) := (World.cell?_of_block (w := wr) (a := ⟨kc, ko + j, none⟩) (hold9 _ hk0 (wlt hcd))).trans hcd
      have HR9 : Hid (NC W0 (wa9.setCell ⟨cb, 1, none⟩ (.slice (some ⟨gv, 0, none⟩) (j + 1) ck)) cb kb p what most (.slice (some ⟨gv, 0, none⟩) (j + 1) ck) (j + 1)) := HN.out.more b9 hgr9 (by rw [HWN.out.1, HWN.out.2]; exact hown9)
      refine step_append_eq rfl (.tmp 56) (.tmp 65) 73 rfl qv (.slice (some ⟨wr.drew.heap.size, 0, none⟩) 1 1) rfl rfl (.slice (some ⟨gv, 0, none⟩) (j + 1) ck) wa9 hra ?_
      refine hK.out _ _ ⟨s10, s11, s12⟩ (fun hHeld => ?_)
      clear hK K
      simp only [Act.put, List.setIfInBounds_toArray, List.set_cons_zero, List.set_cons_succ]
      refine wpAnyH_take (i := 15) (v := ?_) rfl (by decide +kernel) (by decide +kernel) (by decide +kernel) (fun _ _ _ h => h) (Or.inl ⟨by rfl, ?_⟩) (by assumption) ?_
      rotate_left
      · intro W hSw
        try dsimp only at hSw
        obtain ⟨hS1, hS2, hS3⟩ := hSw
        go_simp
        try with_reducible rfl
      simp only [Act.put, List.setIfInBounds_toArray, List.set_cons_zero, List.set_cons_succ]
      refine wpAnyH_take (i := 16) (v := ?_) rfl (by decide +kernel) (by decide +kernel) (by decide +kernel) (fun _ _ _ h => h) (Or.inl ⟨by rfl, ?_⟩) (by assumption) ?_
      rotate_left
      · intro W hSw
        try dsimp only at hSw
        obtain ⟨hS1, hS2, hS3⟩ := hSw
        go_simp
        try with_reducible rfl
      simp only [Act.put, List.setIfInBounds_toArray, List.set_cons_zero, List.set_cons_succ]
      refine wpAnyH_done (by decide +kernel) ?_ _
      show Oper.wp _ _ _ _ _ _
      go_simp
      clear hra hown9 hgr9 hnw9 s11 s12 hHeld b9 hro9 hs09 hblk9 hq9 hold9 bQ
      go_wp2
      go_roundw
      case rel => exact ⟨j + 1, _, hj, by go_num, HR9.out⟩
      case measure => simp [intOf]; omega
    · have hji : decide ((j : Int) < (p.code.length : Int)) = false := decide_eq_false (by omega)
      have hjn : decide (j < p.code.length) = false := decide_eq_false (by omega)
      obtain rfl : j = p.code.length := by omega
      have HD : Hid (∃ x : CW, GC wr w.heap.size p what most (newC p) cb x) := NC.done (by omega) HCBE.out HG2.out HB0.out hn HPZ.out
      have HB : Hid (Below w.heap.size w wr) := hbx.below
      clear hn
      go_wp2
      go_ret2
      obtain ⟨x, hx⟩ := HD.out
      exact ⟨cb, x, rfl, hx, HB.out⟩
end Go.Proofs.YtajfgmlockjmhafGreatDoor
namespace Go.Proofs.YtajfgmlockjmhafGreatDoor
open Go.RowKit

/-- A care of package care, made since w0, and all its blocks. -/
def KC (w0 w : World) (p : PD) (what : List Int) (most : Int) (d : CD) (cb : Nat) (F : List Nat) : Prop := ∃ x : CW, GC w w0.heap.size p what most d cb x ∧ F = x.F cb ∧ Below w0.heap.size w0 w
def gcar {G : World → Prop} (hG : ∀ w, G w → Forms w) (hall : ∀ w w', G w → Below w.heap.size w w' → G w') : CarC G where
  K := KC
  all := hall
  since := fun ⟨_, _, _, hb⟩ => hb
  ge := fun ⟨_, h, hF, _⟩ g hg => by
    subst hF
    exact ⟨h.fge g hg, h.flt g hg⟩
  lower := fun h1 ⟨x, h, hF, hb⟩ => ⟨x, h.lower h1.size, hF, h1.trans (hb.mono h1.size)⟩
  frame := fun ⟨x, h, hF, hb⟩ ht hM => by
    subst hF
    exact ⟨x, h.frame ht (fun m hm => (hM m hm).1), rfl, hb.trans (ht.below (fun m hm => (hM m hm).2) hb.size)⟩
  new := fun p vc vs vw wv what most W hg hP hwv hc => by
    refine (crnew_ok p vc vs vw wv what most W (hG W hg) hP hwv hc).mono ?_
    rintro e w' ⟨cb, x, rfl, h, hb⟩
    exact ⟨cb, _, rfl, x, h, rfl, hb⟩
  no := fun p vc vs vw wv what most W hg hP hwv hc => by
    by_cases h1 : plchk p = 0
    · by_cases h2 : what.length = p.code.length
      · have hno : ¬ (what.any ruleOut = false ∧ 0 ≤ most ∧ most ≤ 100) := fun ⟨a1, a2, a3⟩ => hc (by
          unfold carE
          rw [if_pos h1, if_pos h2, if_neg (by rw [a1]; decide), if_neg (by omega)])
        have he : carE p what most = 1 := by
          unfold carE
          rw [if_pos h1, if_pos h2]
          by_cases h3 : what.any ruleOut = true
          · rw [if_pos h3]
          · rw [if_neg h3]
            by_cases h4 : most < 0 ∨ 100 < most
            · rw [if_pos h4]
            · exact absurd ⟨by simpa using h3, by omega, by omega⟩ hno
        rw [he]
        exact crnew_out p vc vs vw wv what most W (hG W hg) hP hwv h1 h2 hno
      · have he : carE p what most = 3 := by
          unfold carE
          rw [if_pos h1, if_neg h2]
        rw [he]
        exact crnew_few p vc vs vw wv what most W (hG W hg) hP hwv h1 h2
    · have he : carE p what most = plchk p := by
        unfold carE
        rw [if_neg h1]
      rw [he]
      exact crnew_no p vc vs vw wv most W (hG W hg) hP h1
  tick := fun {w0 W p what most d cb F} hg ⟨x, h, hF, hb⟩ hc hok ht => by
    subst hF
    refine (crtick_any p what most d cb w0.heap.size x W ((hG w0 hg).all hb) h hb.size (fun W2 hb2 => (hG w0 hg).all (hb.trans hb2)) hc hok ht).mono ?_
    rintro e w' ⟨rfl, x', h1, h2, h3⟩
    exact ⟨rfl, _, ⟨x', h1, rfl, hb.trans (h2.below h.fge hb.size)⟩, h2, h3⟩
  state := fun {w0 W p what most d cb F} r ⟨x, h, _, _⟩ _ _ => crstate_any p what most d cb _ x r W h
  times := fun {w0 W p what most d cb F} r ⟨x, h, _, _⟩ hok _ => crtimes_any p what most d cb _ x r W h (by rw [hok.tl, hok.k.rl])
end Go.Proofs.YtajfgmlockjmhafGreatDoor

/-
  PlRoom, PlRoom2: joined into one text.
-/
import Derived.Test.YtajfgmlockjmhaiGreatDoorPlAny
import Derived.Test.YtajfgmlockjmhaiGreatDoorJt2
import Derived.Test.YtajfgmlockjmhaiGreatDoorJt12
import Derived.BigQuiet
namespace Go.Proofs.YtajfgmlockjmhaiGreatDoor
open Go.RowKit

set_option maxRecDepth 100000 in
set_option maxHeartbeats 1000000 in
theorem more1_any (s : S3) (rb n : Nat) (w : World) (h : w.cell? ⟨rb, 0, none⟩ = some (.int .i64 n)) :
    Calls Tryz.prog 95 #[.agg #[.int .i64 s.1, .int .i64 s.2.1, .int .i64 s.2.2], .pointer (some ⟨rb, 0, none⟩)] w fun e w' => e = .returned (.bool (spanOut n s)) ∧ Below w.heap.size w w' := by
  have hlt := lt_of_cell h
  have hne : rb ≠ w.heap.size := by omega
  obtain ⟨a, b, r⟩ := s
  simp only
  go_enter Tryz.func95, Tryz.ntmps95
  go_wp2
  go_ret
  exact ⟨rfl, (Below.refl _ _).alloc (Nat.le_refl _) _⟩
set_option maxRecDepth 100000 in
set_option maxHeartbeats 1000000 in
theorem more2_any (s : W4) (rb n : Nat) (w : World) (h : w.cell? ⟨rb, 0, none⟩ = some (.int .i64 n)) :
    Calls Tryz.prog 97 #[.agg #[.int .i64 s.1, .int .i64 s.2.1, .int .i64 s.2.2.1, .int .i64 s.2.2.2], .pointer (some ⟨rb, 0, none⟩)] w fun e w' => e = .returned (.bool (wireOut n s)) ∧ Below w.heap.size w w' := by
  have hlt := lt_of_cell h
  have hne : rb ≠ w.heap.size := by omega
  obtain ⟨a, b, r, d⟩ := s
  simp only
  by_cases h1 : (n : Int) ≤ a
  · have HF : Hid (wireOut n (a, b, r, d) = true) := by show _ = _; simp [wireOut, h1]
    go_enter Tryz.func97, Tryz.ntmps97
    go_wp2
    go_ret
    exact ⟨ret_bool HF.out.symm, (Below.refl _ _).alloc (Nat.le_refl _) _⟩
  · have h1' : decide ((n : Int) ≤ a) = false := decide_eq_false h1
    have HF : Hid (wireOut n (a, b, r, d) = decide ((n : Int) ≤ b)) := by show _ = _; simp [wireOut, h1']
    go_enter Tryz.func97, Tryz.ntmps97
    go_wp2
    go_ret
    exact ⟨ret_bool HF.out.symm, (Below.refl _ _).alloc (Nat.le_refl _) _⟩
set_option maxRecDepth 100000 in
set_option maxHeartbeats 2000000 in
theorem namesmore_any (p : PD) (vc vs vw : Value) (w : World) (hp : Pln w vc vs vw p) (h1 : p.spans.length ≤ 12) (h2 : p.wires.length ≤ 12) :
    Calls Tryz.prog 63 #[plV vc p.ticks vs vw] w fun e w' => e = .returned (.bool (p.spans.any (spanOut p.code.length) || p.wires.any (wireOut p.code.length))) ∧ Below w.heap.size w w' := by
  obtain ⟨ca, cc, rfl⟩ := hp.code.form
  obtain ⟨sa, sc, rfl⟩ := hp.spans.form
  obtain ⟨wa, wc, rfl⟩ := hp.wires.form
  unfold plV
  have hx0 := Bx.first w (.slice ca p.code.length cc) p.ticks (.slice sa p.spans.length sc) (.slice wa p.wires.length wc)
  obtain ⟨W0, hW0⟩ : ∃ W0, (w.alloc (.cells #[.slice ca p.code.length cc, .int .i64 p.ticks, .slice sa p.spans.length sc, .slice wa p.wires.length wc] 26)).alloc (.cells #[.int .i64 p.code.length] 3) = W0 := ⟨_, rfl⟩
  have hx1 : Bx w W0 (.slice ca p.code.length cc) p.ticks (.slice sa p.spans.length sc) (.slice wa p.wires.length wc) := by rw [← hW0]; exact hx0.step ((Below.refl _ _).alloc (Nat.le_refl _) _)
  have hr : W0.cell? ⟨w.heap.size + 1, 0, none⟩ = some (.int .i64 p.code.length) := by rw [← hW0]; simp
  have hrl := lt_of_cell hr
  have q1 := con_more1 p.spans (spanOut p.code.length) _ (w.heap.size + 1) W0 h1 (hp.spans.all hx1.below) (fun W hb o _ => more1_any o _ _ W ((hb.cell (p := ⟨w.heap.size + 1, 0, none⟩) hrl).trans hr))
  have HQ : Hid (∀ W1, Below W0.heap.size W0 W1 → Calls Tryz.prog 96 #[.slice wa p.wires.length wc, .func (.func 97) #[] #[.pointer (some ⟨w.heap.size + 1, 0, none⟩)]] W1 fun e w' => e = .returned (.bool (p.wires.any (wireOut p.code.length))) ∧ Below W1.heap.size W1 w') := fun W1 hb1 => con_more2 p.wires (wireOut p.code.length) _ (w.heap.size + 1) W1 h2 ((hp.wires.all hx1.below).all hb1) (fun W hb o _ => more2_any o _ _ W ((hb.cell (p := ⟨w.heap.size + 1, 0, none⟩) (Nat.lt_of_lt_of_le hrl hb1.size)).trans ((hb1.cell (p := ⟨w.heap.size + 1, 0, none⟩) hrl).trans hr)))
  have k3 : ∀ W1, Below W0.heap.size W0 W1 → W1.cell? ⟨w.heap.size, 3, none⟩ = some (.slice wa p.wires.length wc) := fun W1 hb => (hx1.step hb).c3
  have K3 : Hid (∀ W1, Below W0.heap.size W0 W1 → W1.cell? ⟨w.heap.size, 3, none⟩ = some (.slice wa p.wires.length wc)) := k3
  clear hp k3 hr
  subst hW0
  cases ha : p.spans.any (spanOut p.code.length) with
  | true =>
    rw [ha] at q1
    go_enter Tryz.func63, Tryz.ntmps63
    go_wp2_with (go_at_call 94; refine q1.mono ?_; rintro e w1 ⟨rfl, b1⟩)
    go_ret
    exact ⟨rfl, hx1.below.trans (b1.mono hx1.below.size)⟩
  | false =>
    rw [ha] at q1
    go_enter Tryz.func63, Tryz.ntmps63
    go_wp2_with (first
      | (go_at_call 94; refine q1.mono ?_; rintro e w1 ⟨rfl, b1⟩; have c3 := K3.out w1 b1; have q2 := HQ.out w1 b1)
      | (go_at_call 96; refine q2.mono ?_; rintro e w2 ⟨rfl, b2⟩))
    go_ret
    have hb1 := hx1.below.trans (b1.mono hx1.below.size)
    exact ⟨rfl, hb1.trans (b2.mono hb1.size)⟩
end Go.Proofs.YtajfgmlockjmhaiGreatDoor
namespace Go.Proofs.YtajfgmlockjmhaiGreatDoor
open Go.RowKit

set_option maxRecDepth 100000 in
set_option maxHeartbeats 2000000 in
theorem room1_any (ws : List W4) (ri : Nat) (i : Int) (hi : 0 ≤ i ∧ i < 12) (v : Value) (vb rb : Nat) (w : World) (hw : Wrs w v ws) (hv : w.cell? ⟨vb, 0, none⟩ = some v) (hr : w.cell? ⟨rb, 0, none⟩ = some (.int .i64 ri)) :
    Calls Tryz.prog 141 #[.int .i64 i, .pointer (some ⟨vb, 0, none⟩), .pointer (some ⟨rb, 0, none⟩)] w fun e w' => e = .returned (.bool (portB (·.1) ws ri i)) ∧ Below w.heap.size w w' := by
  obtain ⟨wa, wc, rfl⟩ := hw.form
  obtain ⟨j, rfl⟩ : ∃ j : Nat, i = j := ⟨i.toNat, by omega⟩
  by_cases hj : j < ws.length
  · obtain ⟨b, off, f, t, kd, dp, rfl, hlt, hy, d0, d1, _, _⟩ := hw.at hj
    have hji : decide ((ws.length : Int) ≤ (j : Int)) = false := decide_eq_false (by omega)
    have hjn : decide (ws.length ≤ j) = false := decide_eq_false (by omega)
    have hjl : (j : Int) < (ws.length : Int) := by omega
    have hP : portB (·.1) ws ri (j : Int) = !decide (f = (ri : Int)) := by
      unfold portB
      rw [Int.toNat_natCast, hy]
    clear hy hw
    by_cases he : f = (ri : Int)
    · have HP : Hid (portB (·.1) ws ri (j : Int) = false) := by show _ = _; rw [hP]; simp [he]
      clear hP
      subst he
      go_enter Tryz.func141, Tryz.ntmps141
      go_wp2
      go_quiet (fail)
      go_wp2
      go_ret
      exact ⟨ret_bool HP.out.symm, below_dN (Below.refl _ _) _⟩
    · have HP : Hid (portB (·.1) ws ri (j : Int) = true) := by show _ = _; rw [hP]; simp [he]
      have HE : Hid ((f != (ri : Int)) = true) := by show _ = _; simpa using he
      clear hP he
      go_enter Tryz.func141, Tryz.ntmps141
      go_wp2
      go_quiet (fail)
      go_wp2
      go_ret
      exact ⟨ret_bool (HE.out.trans HP.out.symm), below_dN (Below.refl _ _) _⟩
  · have hji : (ws.length : Int) ≤ (j : Int) := by omega
    have HP : Hid (portB (·.1) ws ri (j : Int) = true) := by
      show _ = _
      unfold portB
      rw [Int.toNat_natCast, List.getElem?_eq_none (by omega)]
    clear hw
    go_enter Tryz.func141, Tryz.ntmps141
    go_wp2
    go_quiet (fail)
    go_wp2
    go_ret
    exact ⟨ret_bool HP.out.symm, below_dN (Below.refl _ _) _⟩
set_option maxRecDepth 100000 in
set_option maxHeartbeats 2000000 in
theorem room2_any (ws : List W4) (ri : Nat) (i : Int) (hi : 0 ≤ i ∧ i < 12) (v : Value) (vb rb : Nat) (w : World) (hw : Wrs w v ws) (hv : w.cell? ⟨vb, 0, none⟩ = some v) (hr : w.cell? ⟨rb, 0, none⟩ = some (.int .i64 ri)) :
    Calls Tryz.prog 142 #[.int .i64 i, .pointer (some ⟨vb, 0, none⟩), .pointer (some ⟨rb, 0, none⟩)] w fun e w' => e = .returned (.bool (portB (·.2.1) ws ri i)) ∧ Below w.heap.size w w' := by
  obtain ⟨wa, wc, rfl⟩ := hw.form
  obtain ⟨j, rfl⟩ : ∃ j : Nat, i = j := ⟨i.toNat, by omega⟩
  by_cases hj : j < ws.length
  · obtain ⟨b, off, f, t, kd, dp, rfl, hlt, hy, d0, d1, _, _⟩ := hw.at hj
    have hji : decide ((ws.length : Int) ≤ (j : Int)) = false := decide_eq_false (by omega)
    have hjn : decide (ws.length ≤ j) = false := decide_eq_false (by omega)
    have hjl : (j : Int) < (ws.length : Int) := by omega
    have hP : portB (·.2.1) ws ri (j : Int) = !decide (t = (ri : Int)) := by
      unfold portB
      rw [Int.toNat_natCast, hy]
    clear hy hw
    by_cases he : t = (ri : Int)
    · have HP : Hid (portB (·.2.1) ws ri (j : Int) = false) := by show _ = _; rw [hP]; simp [he]
      clear hP
      subst he
      go_enter Tryz.func142, Tryz.ntmps142
      go_wp2
      go_quiet (fail)
      go_wp2
      go_ret
      exact ⟨ret_bool HP.out.symm, below_dN (Below.refl _ _) _⟩
    · have HP : Hid (portB (·.2.1) ws ri (j : Int) = true) := by show _ = _; rw [hP]; simp [he]
      have HE : Hid ((t != (ri : Int)) = true) := by show _ = _; simpa using he
      clear hP he
      go_enter Tryz.func142, Tryz.ntmps142
      go_wp2
      go_quiet (fail)
      go_wp2
      go_ret
      exact ⟨ret_bool (HE.out.trans HP.out.symm), below_dN (Below.refl _ _) _⟩
  · have hji : (ws.length : Int) ≤ (j : Int) := by omega
    have HP : Hid (portB (·.2.1) ws ri (j : Int) = true) := by
      show _ = _
      unfold portB
      rw [Int.toNat_natCast, List.getElem?_eq_none (by omega)]
    clear hw
    go_enter Tryz.func142, Tryz.ntmps142
    go_wp2
    go_quiet (fail)
    go_wp2
    go_ret
    exact ⟨ret_bool HP.out.symm, below_dN (Below.refl _ _) _⟩
/-- What is wrong with a room's code. -/
def roomE (ws : List W4) (i : Nat) (c : List O3) : Int := if (chk c).2 ≠ 0 then (chk c).2 else if portsB ws i c = true then 3 else 0
theorem wiresB_len (what : Int) (c : List O3) : (wiresB what c).length ≤ 12 := by
  unfold wiresB pickN
  rw [List.length_map]
  exact Nat.le_trans (List.length_filter_le _ _) (by simp)
set_option maxRecDepth 100000 in
set_option maxHeartbeats 4000000 in
theorem checkroom_any (ws : List W4) (c : List O3) (ri : Nat) (vo vw : Value) (w : World) (hf : Forms w) (ho : Ops w vo c) (hw : Wrs w vw ws) :
    Calls Tryz.prog 99 #[.int .i64 ri, vo, vw] w fun e w' => e = .returned (wErr (roomE ws ri c)) ∧ Below w.heap.size w w' := by
  obtain ⟨oa, oc, rfl⟩ := ho.form
  obtain ⟨wa, wc, rfl⟩ := hw.form
  obtain ⟨W0, hW0⟩ : ∃ W0, (w.alloc (.cells #[.int .i64 ri] 3)).alloc (.cells #[.slice wa ws.length wc] 24) = W0 := ⟨_, rfl⟩
  have b0 : Below w.heap.size w W0 := by rw [← hW0]; exact ((Below.refl _ w).alloc (Nat.le_refl _) _).alloc (by simp) _
  have hr : W0.cell? ⟨w.heap.size, 0, none⟩ = some (.int .i64 ri) := by rw [← hW0]; simp
  have hv : W0.cell? ⟨w.heap.size + 1, 0, none⟩ = some (.slice wa ws.length wc) := by rw [← hW0]; simp
  have hrl := lt_of_cell hr
  have hvl := lt_of_cell hv
  by_cases h0 : (chk c).2 = 0
  · have q1 := wires_good _ c W0 (hf.all b0) (ho.all b0) h0
    have HR : Hid (roomE ws ri c = if portsB ws ri c = true then 3 else 0) := by show _ = _; unfold roomE; rw [if_neg (by simpa using h0)]
    have H1 : Hid (∀ W1 x, Below W0.heap.size W0 W1 → Ints W1 x (wiresB 8 c) → Calls Tryz.prog 143 #[x, .func (.func 141) #[] #[.pointer (some ⟨w.heap.size + 1, 0, none⟩), .pointer (some ⟨w.heap.size, 0, none⟩)]] W1 fun e w' => e = .returned (.bool ((wiresB 8 c).any (portB (·.1) ws ri))) ∧ Below W1.heap.size W1 w') := fun W1 x hb1 hx => con_room1 _ _ x _ _ W1 (wiresB_len 8 c) (stp_of_ints hx) (fun W hb o hom => room1_any ws ri o (wires_mem hom) _ _ _ W (((hw.all b0).all hb1).all hb) ((hb.cell (p := ⟨w.heap.size + 1, 0, none⟩) (Nat.lt_of_lt_of_le hvl hb1.size)).trans ((hb1.cell (p := ⟨w.heap.size + 1, 0, none⟩) hvl).trans hv)) ((hb.cell (p := ⟨w.heap.size, 0, none⟩) (Nat.lt_of_lt_of_le hrl hb1.size)).trans ((hb1.cell (p := ⟨w.heap.size, 0, none⟩) hrl).trans hr)))
    have H2 : Hid (∀ W1 x, Below W0.heap.size W0 W1 → Ints W1 x (wiresB 9 c) → Calls Tryz.prog 143 #[x, .func (.func 142) #[] #[.pointer (some ⟨w.heap.size + 1, 0, none⟩), .pointer (some ⟨w.heap.size, 0, none⟩)]] W1 fun e w' => e = .returned (.bool ((wiresB 9 c).any (portB (·.2.1) ws ri))) ∧ Below W1.heap.size W1 w') := fun W1 x hb1 hx => con_room2 _ _ x _ _ W1 (wiresB_len 9 c) (stp_of_ints hx) (fun W hb o hom => room2_any ws ri o (wires_mem hom) _ _ _ W (((hw.all b0).all hb1).all hb) ((hb.cell (p := ⟨w.heap.size + 1, 0, none⟩) (Nat.lt_of_lt_of_le hvl hb1.size)).trans ((hb1.cell (p := ⟨w.heap.size + 1, 0, none⟩) hvl).trans hv)) ((hb.cell (p := ⟨w.heap.size, 0, none⟩) (Nat.lt_of_lt_of_le hrl hb1.size)).trans ((hb1.cell (p := ⟨w.heap.size, 0, none⟩) hrl).trans hr)))
    have HB : Hid (portsB ws ri c = ((wiresB 8 c).any (portB (·.1) ws ri) || (wiresB 9 c).any (portB (·.2.1) ws ri))) := rfl
    clear hf ho hw hr hv h0
    generalize (wiresB 8 c).any (portB (·.1) ws ri) = A at H1 HB
    generalize (wiresB 9 c).any (portB (·.2.1) ws ri) = B at H2 HB
    subst hW0
    cases A with
    | true =>
      have HF : Hid (roomE ws ri c = 3) := by show _ = _; rw [HR.out, HB.out]; rfl
      go_enter Tryz.func99, Tryz.ntmps99
      go_wp2_with (first
        | (go_at_call 140; refine q1.mono ?_; rintro e w1 ⟨x, y, rfl, ix, iy, b1⟩; clear q1; have q2 := H1.out w1 x b1 ix)
        | (go_at_call 143; refine q2.mono ?_; rintro e w2 ⟨rfl, b2⟩; clear q2))
      go_ret
      rw [HF.out]
      have hb1 := b0.trans (b1.mono b0.size)
      exact ⟨rfl, hb1.trans (b2.mono hb1.size)⟩
    | false =>
      cases B with
      | true =>
        have HF : Hid (roomE ws ri c = 3) := by show _ = _; rw [HR.out, HB.out]; rfl
        go_enter Tryz.func99, Tryz.ntmps99
        go_wp2_with (first
          | (go_at_call 140; refine q1.mono ?_; rintro e w1 ⟨x, y, rfl, ix, iy, b1⟩; clear q1; have q2 := H1.out w1 x b1 ix)
          | (go_at_call 143; refine q2.mono ?_; rintro e w2 ⟨rfl, b2⟩; clear q2; have q3 := H2.out w2 y (b1.trans (b2.mono b1.size)) (ints_all iy b2))
          | (go_at_call 143; refine q3.mono ?_; rintro e w3 ⟨rfl, b3⟩; clear q3))
        go_ret
        rw [HF.out]
        have hb1 := b0.trans (b1.mono b0.size)
        have hb2 := hb1.trans (b2.mono hb1.size)
        exact ⟨rfl, hb2.trans (b3.mono hb2.size)⟩
      | false =>
        have HF : Hid (roomE ws ri c = 0) := by show _ = _; rw [HR.out, HB.out]; rfl
        go_enter Tryz.func99, Tryz.ntmps99
        go_wp2_with (first
          | (go_at_call 140; refine q1.mono ?_; rintro e w1 ⟨x, y, rfl, ix, iy, b1⟩; clear q1; have q2 := H1.out w1 x b1 ix)
          | (go_at_call 143; refine q2.mono ?_; rintro e w2 ⟨rfl, b2⟩; clear q2; have q3 := H2.out w2 y (b1.trans (b2.mono b1.size)) (ints_all iy b2))
          | (go_at_call 143; refine q3.mono ?_; rintro e w3 ⟨rfl, b3⟩; clear q3))
        go_ret
        rw [HF.out]
        have hb1 := b0.trans (b1.mono b0.size)
        have hb2 := hb1.trans (b2.mono hb1.size)
        exact ⟨rfl, hb2.trans (b3.mono hb2.size)⟩
  · have q1 := wires_fault _ c W0 (hf.all b0) (ho.all b0) h0
    have HF : Hid (roomE ws ri c = (chk c).2) := by show _ = _; unfold roomE; rw [if_pos h0]
    have he : errV (chk c).2 = .iface 93 (.int .i64 (chk c).2) := by unfold errV; rw [if_neg h0]
    have HE : Hid (wErr (chk c).2 = .iface 93 (.int .i64 (chk c).2)) := wErr_not h0
    rw [he] at q1
    clear he hf ho hw hr hv h0
    subst hW0
    go_enter Tryz.func99, Tryz.ntmps99
    go_wp2_with (go_at_call 140; refine q1.mono ?_; rintro e w1 ⟨rfl, b1⟩; clear q1)
    go_ret
    rw [HF.out, HE.out]
    exact ⟨rfl, b0.trans (b1.mono b0.size)⟩
end Go.Proofs.YtajfgmlockjmhaiGreatDoor

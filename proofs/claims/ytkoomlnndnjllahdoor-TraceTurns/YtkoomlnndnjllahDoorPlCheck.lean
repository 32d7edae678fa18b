/-
  Check: what is wrong with a plan.
-/
import Derived.Test.YtkoomlnndnjllahDoorJa5
import Derived.Test.YtkoomlnndnjllahDoorFCheck
import Derived.Test.YtkoomlnndnjllahDoorJa6
namespace Go.Proofs.YtkoomlnndnjllahDoor
open Go.RowKit

theorem fErr_w (e : Int) : fErr e = wErr e := rfl
theorem errV_w (e : Int) : errV e = wErr e := rfl
section
variable (p : PD) (ca sa wa : Option Addr) (cc sc wc : Nat) (w : World)
set_option maxRecDepth 100000 in
set_option maxHeartbeats 2000000 in
theorem plcheck_long (h : 5 < p.code.length) : Calls Tryd.prog 31 #[.agg #[.slice ca p.code.length cc, .int .i64 p.ticks, .slice sa p.spans.length sc, .slice wa p.wires.length wc]] w fun e w' => e = .returned (wErr 4) ∧ Below w.heap.size w w' := by
  have h5i : (5 : Int) < (p.code.length : Int) := by omega
  go_enter Tryd.func31, Tryd.ntmps31
  go_wp2
  go_ret
  exact ⟨rfl, (Below.refl _ _).alloc (Nat.le_refl _) _⟩
set_option maxRecDepth 100000 in
set_option maxHeartbeats 2000000 in
theorem plcheck_none (h : p.code.length = 0) : Calls Tryd.prog 31 #[.agg #[.slice ca p.code.length cc, .int .i64 p.ticks, .slice sa p.spans.length sc, .slice wa p.wires.length wc]] w fun e w' => e = .returned (wErr 5) ∧ Below w.heap.size w w' := by
  rw [h]
  go_enter Tryd.func31, Tryd.ntmps31
  go_wp2
  go_ret
  exact ⟨rfl, (Below.refl _ _).alloc (Nat.le_refl _) _⟩
set_option maxRecDepth 100000 in
set_option maxHeartbeats 2000000 in
theorem plcheck_frame (hp : Pln w (.slice ca p.code.length cc) (.slice sa p.spans.length sc) (.slice wa p.wires.length wc) p) (h1 : p.code.length ≤ 5) (h2 : p.code.length ≠ 0) (h3 : (fchk p.ticks p.spans).2 ≠ 0) : Calls Tryd.prog 31 #[.agg #[.slice ca p.code.length cc, .int .i64 p.ticks, .slice sa p.spans.length sc, .slice wa p.wires.length wc]] w fun e w' => e = .returned (wErr (fchk p.ticks p.spans).2) ∧ Below w.heap.size w w' := by
  have h5i : decide ((5 : Int) < (p.code.length : Int)) = false := decide_eq_false (by omega)
  have h5n : decide (5 < p.code.length) = false := decide_eq_false (by omega)
  have h0i : ¬ ((p.code.length : Int) = 0) := by omega
  have hx0 := Bx.first w (.slice ca p.code.length cc) p.ticks (.slice sa p.spans.length sc) (.slice wa p.wires.length wc)
  have q1 := fcheck_any p.ticks p.spans _ _ (hp.spans.all hx0.below)
  rw [fErr_w, wErr_not h3] at q1
  rw [wErr_not h3]
  generalize (fchk p.ticks p.spans).2 = z at q1
  generalize (fchk p.ticks p.spans).1 = y at q1
  clear hp h1 h2 h3
  go_enter Tryd.func31, Tryd.ntmps31
  go_wp2_with (go_at_call 22; refine q1.mono ?_; rintro e w1 ⟨rfl, b1⟩; clear q1)
  go_ret
  exact ⟨rfl, hx0.below.trans (b1.mono hx0.below.size)⟩
set_option maxRecDepth 100000 in
set_option maxHeartbeats 2000000 in
theorem plcheck_wires (hp : Pln w (.slice ca p.code.length cc) (.slice sa p.spans.length sc) (.slice wa p.wires.length wc) p) (h1 : p.code.length ≤ 5) (h2 : p.code.length ≠ 0) (h3 : (fchk p.ticks p.spans).2 = 0) (h4 : (wschk p.wires).2 ≠ 0) : Calls Tryd.prog 31 #[.agg #[.slice ca p.code.length cc, .int .i64 p.ticks, .slice sa p.spans.length sc, .slice wa p.wires.length wc]] w fun e w' => e = .returned (wErr (wschk p.wires).2) ∧ Below w.heap.size w w' := by
  have h5i : decide ((5 : Int) < (p.code.length : Int)) = false := decide_eq_false (by omega)
  have h5n : decide (5 < p.code.length) = false := decide_eq_false (by omega)
  have h0i : ¬ ((p.code.length : Int) = 0) := by omega
  have hx0 := Bx.first w (.slice ca p.code.length cc) p.ticks (.slice sa p.spans.length sc) (.slice wa p.wires.length wc)
  have q1 := fcheck_any p.ticks p.spans _ _ (hp.spans.all hx0.below)
  rw [h3, show fErr 0 = .nilIface from rfl] at q1
  have HQ : Hid (∀ W, Below w.heap.size w W → Calls Tryd.prog 45 #[.slice wa p.wires.length wc] W fun e w' => e = .returned (.tuple #[.int .i64 (wschk p.wires).1, .iface 46 (.int .i64 (wschk p.wires).2)]) ∧ Below W.heap.size W w') := fun W hb => by
    have := flcheck_any p.wires _ W (hp.wires.all hb)
    rw [wErr_not h4] at this
    exact this
  rw [wErr_not h4]
  generalize (wschk p.wires).2 = z at HQ
  generalize (wschk p.wires).1 = y at HQ
  generalize (fchk p.ticks p.spans).1 = x at q1
  clear hp h1 h2 h3 h4
  go_enter Tryd.func31, Tryd.ntmps31
  go_wp2_with (first
    | (go_at_call 22; refine q1.mono ?_; rintro e w1 ⟨rfl, b1⟩; clear q1; have hx1 := hx0.step b1; have k3 := hx1.c3; have q2 := HQ.out w1 hx1.below)
    | (go_at_call 45; refine q2.mono ?_; rintro e w2 ⟨rfl, b2⟩; clear q2))
  go_ret
  exact ⟨rfl, hx1.below.trans (b2.mono hx1.below.size)⟩
/-- Frame and wires are right: what namesMore answers. -/
theorem more_of (hp : Pln w (.slice ca p.code.length cc) (.slice sa p.spans.length sc) (.slice wa p.wires.length wc) p) (h3 : (fchk p.ticks p.spans).2 = 0) (h4 : (wschk p.wires).2 = 0) :
    (∀ W, Below w.heap.size w W → Calls Tryd.prog 22 #[.int .i64 p.ticks, .slice sa p.spans.length sc] W fun e w' => ∃ y : Int, e = .returned (.tuple #[.int .i64 y, .nilIface]) ∧ Below W.heap.size W w') ∧
    (∀ W, Below w.heap.size w W → Calls Tryd.prog 45 #[.slice wa p.wires.length wc] W fun e w' => ∃ y : Int, e = .returned (.tuple #[.int .i64 y, .nilIface]) ∧ Below W.heap.size W w') ∧
    ∀ W, Below w.heap.size w W → Calls Tryd.prog 46 #[.agg #[.slice ca p.code.length cc, .int .i64 p.ticks, .slice sa p.spans.length sc, .slice wa p.wires.length wc]] W fun e w' => e = .returned (.bool (p.spans.any (spanOut p.code.length) || p.wires.any (wireOut p.code.length))) ∧ Below W.heap.size W w' := by
  refine ⟨fun W hb => ?_, fun W hb => ?_, fun W hb => namesmore_any p _ _ _ W (hp.all hb) (fchk_zero h3).2.2.1 (wschk_ok h4).1⟩
  · refine (fcheck_any p.ticks p.spans _ W (hp.spans.all hb)).mono ?_
    rintro e w' ⟨rfl, h⟩
    exact ⟨_, by rw [h3]; rfl, h⟩
  · refine (flcheck_any p.wires _ W (hp.wires.all hb)).mono ?_
    rintro e w' ⟨rfl, h⟩
    exact ⟨_, by rw [h4]; rfl, h⟩
set_option maxRecDepth 100000 in
set_option maxHeartbeats 2000000 in
theorem plcheck_more (hp : Pln w (.slice ca p.code.length cc) (.slice sa p.spans.length sc) (.slice wa p.wires.length wc) p) (h1 : p.code.length ≤ 5) (h2 : p.code.length ≠ 0) (h3 : (fchk p.ticks p.spans).2 = 0) (h4 : (wschk p.wires).2 = 0) (h5 : (p.spans.any (spanOut p.code.length) || p.wires.any (wireOut p.code.length)) = true) : Calls Tryd.prog 31 #[.agg #[.slice ca p.code.length cc, .int .i64 p.ticks, .slice sa p.spans.length sc, .slice wa p.wires.length wc]] w fun e w' => e = .returned (wErr 1) ∧ Below w.heap.size w w' := by
  have h5i : decide ((5 : Int) < (p.code.length : Int)) = false := decide_eq_false (by omega)
  have h5n : decide (5 < p.code.length) = false := decide_eq_false (by omega)
  have h0i : ¬ ((p.code.length : Int) = 0) := by omega
  have hx0 := Bx.first w (.slice ca p.code.length cc) p.ticks (.slice sa p.spans.length sc) (.slice wa p.wires.length wc)
  obtain ⟨m1, m2, m3⟩ := more_of p ca sa wa cc sc wc w hp h3 h4
  rw [h5] at m3
  have q1 := m1 _ hx0.below
  have M2 : Hid (∀ W, Below w.heap.size w W → Calls Tryd.prog 45 #[.slice wa p.wires.length wc] W fun e w' => ∃ y : Int, e = .returned (.tuple #[.int .i64 y, .nilIface]) ∧ Below W.heap.size W w') := m2
  have M3 : Hid (∀ W, Below w.heap.size w W → Calls Tryd.prog 46 #[.agg #[.slice ca p.code.length cc, .int .i64 p.ticks, .slice sa p.spans.length sc, .slice wa p.wires.length wc]] W fun e w' => e = .returned (.bool true) ∧ Below W.heap.size W w') := m3
  clear hp h1 h2 h3 h4 h5 m1 m2 m3
  go_enter Tryd.func31, Tryd.ntmps31
  go_wp2_with (first
    | (go_at_call 22; refine q1.mono ?_; rintro e w1 ⟨y1, rfl, b1⟩; clear q1; have hx1 := hx0.step b1; have k3 := hx1.c3; have q2 := M2.out w1 hx1.below)
    | (go_at_call 45; refine q2.mono ?_; rintro e w2 ⟨y2, rfl, b2⟩; clear q2 k3; have hx2 := hx1.step b2; have j0 := hx2.c0; have j1 := hx2.c1; have j2 := hx2.c2; have j3 := hx2.c3; have q3 := M3.out w2 hx2.below)
    | (go_at_call 46; refine q3.mono ?_; rintro e w3 ⟨rfl, b3⟩; clear q3))
  go_ret
  exact ⟨rfl, hx2.below.trans (b3.mono hx2.below.size)⟩
end
theorem roomE_ok {ws : List W4} {i : Nat} {c : List O3} (h : (chk c).2 = 0) : roomE ws i c = if portsB ws i c = true then 3 else 0 := by
  unfold roomE
  rw [if_neg (by simpa using h)]
set_option maxRecDepth 100000 in
set_option maxHeartbeats 8000000 in
/-- checkCodes: first each code by itself, then each with the wires. -/
theorem codes_any (p : PD) (ca sa wa : Option Addr) (cc sc wc : Nat) (w : World) (hf : Forms w) (hp : Pln w (.slice ca p.code.length cc) (.slice sa p.spans.length sc) (.slice wa p.wires.length wc) p) (h1 : p.code.length ≤ 5) : Calls Tryd.prog 47 #[.agg #[.slice ca p.code.length cc, .int .i64 p.ticks, .slice sa p.spans.length sc, .slice wa p.wires.length wc]] w fun e w' => e = .returned (wErr (if codesE p.code ≠ 0 then codesE p.code else if portsAny p.wires 0 p.code = true then 3 else 0)) ∧ Below w.heap.size w w' := by
  have hx0 := Bx.first w (.slice ca p.code.length cc) p.ticks (.slice sa p.spans.length sc) (.slice wa p.wires.length wc)
  have i0 := hx0.c0
  have HP : Hid (Pln w (.slice ca p.code.length cc) (.slice sa p.spans.length sc) (.slice wa p.wires.length wc) p) := hp
  have HF : Hid (Forms w) := hf
  obtain ⟨E, hE⟩ : ∃ E, E = if codesE p.code ≠ 0 then codesE p.code else if portsAny p.wires 0 p.code = true then 3 else 0 := ⟨_, rfl⟩
  have HE : Hid (E = if codesE p.code ≠ 0 then codesE p.code else if portsAny p.wires 0 p.code = true then 3 else 0) := hE
  rw [← hE]
  clear hp hf hE
  go_enter Tryd.func47, Tryd.ntmps47
  go_wp2
  go_loopw [13] (fun i wr => ∃ k : Nat, k ≤ p.code.length ∧ i = .int .i64 k ∧ Hid (∀ (j : Nat) c, j < k → p.code[j]? = some c → (chk c).2 = 0) ∧ Bx w wr (.slice ca p.code.length cc) p.ticks (.slice sa p.spans.length sc) (.slice wa p.wires.length wc)) (fun i _ => p.code.length - (intOf i).toNat)
  case atStart => exact ⟨0, Nat.zero_le _, rfl, fun j c hj => by omega, hx0⟩
  case round =>
  clear hx0 i0
  obtain ⟨k, hk, rfl, HS, hx⟩ := hrel
  by_cases hkl : k < p.code.length
  · have hki : (k : Int) < (p.code.length : Int) := by omega
    obtain ⟨b, off, u, n, g, c, rfl, hlt, hy, d0, rfl, hops⟩ := HP.out.code.at hkl
    replace d0 := (hx.below.cell (p := ⟨b, _, none⟩) hlt).trans d0
    have HY : Hid (p.code[k]? = some c) := hy
    clear hy
    have qc := check_any _ c wr (HF.out.all hx.below) (hops.all hx.below)
    rw [errV_w] at qc
    by_cases hc0 : (chk c).2 = 0
    · rw [hc0, show wErr 0 = .nilIface from rfl] at qc
      have HC : Hid ((chk c).2 = 0) := hc0
      clear hc0 hops
      generalize (chk c).1 = y at qc
      go_wp2_with (go_at_call 61; refine qc.mono ?_; rintro e w4 ⟨rfl, b4⟩; clear qc)
      go_roundw
      case rel => exact ⟨k + 1, by omega, by go_num, fun j c' hj hc' => by
        by_cases hjk : j < k
        · exact HS.out j c' hjk hc'
        · obtain rfl : j = k := by omega
          rw [HY.out] at hc'
          obtain rfl := Option.some.inj hc'
          exact HC.out, hx.step b4⟩
      case measure => simp [intOf]; omega
    · have HX : Hid (E = (chk c).2) := by
        show _ = _
        have e := codesE_hit HS.out HY.out hc0
        rw [HE.out, e, if_pos hc0]
      have HZ : Hid (wErr (chk c).2 = .iface 46 (.int .i64 (chk c).2)) := wErr_not hc0
      rw [wErr_not hc0] at qc
      clear hc0 hops
      generalize (chk c).1 = y at qc
      generalize (chk c).2 = z at qc HX HZ
      go_wp2_with (go_at_call 61; refine qc.mono ?_; rintro e w4 ⟨rfl, b4⟩; clear qc)
      go_ret
      rw [HX.out, HZ.out]
      exact ⟨rfl, (hx.step b4).below⟩
  have hki : decide ((k : Int) < (p.code.length : Int)) = false := decide_eq_false (by omega)
  have hkn : decide (k < p.code.length) = false := decide_eq_false (by omega)
  have HE2 : Hid (E = if portsAny p.wires 0 p.code = true then 3 else 0) := by
    show _ = _
    have e := codesE_ok (l := p.code) (fun j c hj hc => HS.out j c (by omega) hc)
    rw [HE.out, e]
    rfl
  have HCK : Hid (∀ (j : Nat) c, p.code[j]? = some c → (chk c).2 = 0) := fun j c hc => HS.out j c (by have := (List.getElem?_eq_some_iff.1 hc).1; omega) hc
  have k0 := hx.c0
  clear HS HE hkl hk
  go_wp2
  rename World => wo
  go_loopw [29] (fun i wr => ∃ k : Nat, k ≤ p.code.length ∧ i = .int .i64 k ∧ Hid (∀ (j : Nat) c, j < k → p.code[j]? = some c → portsB p.wires j c = false) ∧ Bx w wr (.slice ca p.code.length cc) p.ticks (.slice sa p.spans.length sc) (.slice wa p.wires.length wc)) (fun i _ => p.code.length - (intOf i).toNat)
  case atStart => exact ⟨0, Nat.zero_le _, rfl, fun j c hj => by omega, hx⟩
  case round =>
  clear hx k0 hki hkn
  obtain ⟨k, hk, rfl, HS, hx⟩ := hrel
  have k3 := hx.c3
  by_cases hkl : k < p.code.length
  · have hki : (k : Int) < (p.code.length : Int) := by omega
    obtain ⟨b, off, u, n, g, c, rfl, hlt, hy, d0, rfl, hops⟩ := HP.out.code.at hkl
    replace d0 := (hx.below.cell (p := ⟨b, _, none⟩) hlt).trans d0
    have HY : Hid (p.code[k]? = some c) := hy
    have hck := HCK.out k c hy
    clear hy
    have qc := checkroom_any p.wires c k _ _ wr (HF.out.all hx.below) (hops.all hx.below) (HP.out.wires.all hx.below)
    rw [roomE_ok hck] at qc
    clear hck hops
    cases hpb : portsB p.wires k c with
    | false =>
      rw [hpb, if_neg (by decide), show wErr 0 = .nilIface from rfl] at qc
      have HN : Hid (portsB p.wires k c = false) := hpb
      clear hpb
      go_wp2_with (go_at_call 62; refine qc.mono ?_; rintro e w4 ⟨rfl, b4⟩; clear qc)
      go_roundw
      case rel => exact ⟨k + 1, by omega, by go_num, ports_next HS.out HY.out HN.out, hx.step b4⟩
      case measure => simp [intOf]; omega
    | true =>
      rw [hpb, if_pos rfl, show wErr 3 = .iface 46 (.int .i64 3) from rfl] at qc
      have HX : Hid (E = 3) := by show _ = _; rw [HE2.out, portsAny_hit HS.out HY.out hpb, if_pos rfl]
      clear hpb
      go_wp2_with (go_at_call 62; refine qc.mono ?_; rintro e w4 ⟨rfl, b4⟩; clear qc)
      go_ret
      rw [HX.out]
      exact ⟨rfl, (hx.step b4).below⟩
  have hki : decide ((k : Int) < (p.code.length : Int)) = false := decide_eq_false (by omega)
  have hkn : decide (k < p.code.length) = false := decide_eq_false (by omega)
  have HX : Hid (E = 0) := by
    show _ = _
    have e := portsAny_ok (ws := p.wires) (l := p.code) (fun j c hj hc => HS.out j c (by omega) hc)
    rw [HE2.out, e]
    rfl
  clear HS
  go_wp2
  go_ret
  rw [HX.out]
  exact ⟨rfl, hx.below⟩
set_option maxRecDepth 100000 in
set_option maxHeartbeats 2000000 in
theorem plcheck_codes (p : PD) (ca sa wa : Option Addr) (cc sc wc : Nat) (w : World) (hf : Forms w) (hp : Pln w (.slice ca p.code.length cc) (.slice sa p.spans.length sc) (.slice wa p.wires.length wc) p) (h1 : p.code.length ≤ 5) (h2 : p.code.length ≠ 0) (h3 : (fchk p.ticks p.spans).2 = 0) (h4 : (wschk p.wires).2 = 0) (h5 : (p.spans.any (spanOut p.code.length) || p.wires.any (wireOut p.code.length)) = false) : Calls Tryd.prog 31 #[.agg #[.slice ca p.code.length cc, .int .i64 p.ticks, .slice sa p.spans.length sc, .slice wa p.wires.length wc]] w fun e w' => e = .returned (wErr (if codesE p.code ≠ 0 then codesE p.code else if portsAny p.wires 0 p.code = true then 3 else 0)) ∧ Below w.heap.size w w' := by
  have h5i : decide ((5 : Int) < (p.code.length : Int)) = false := decide_eq_false (by omega)
  have h5n : decide (5 < p.code.length) = false := decide_eq_false (by omega)
  have h0i : ¬ ((p.code.length : Int) = 0) := by omega
  have hx0 := Bx.first w (.slice ca p.code.length cc) p.ticks (.slice sa p.spans.length sc) (.slice wa p.wires.length wc)
  obtain ⟨m1, m2, m3⟩ := more_of p ca sa wa cc sc wc w hp h3 h4
  rw [h5] at m3
  have q1 := m1 _ hx0.below
  have M2 : Hid (∀ W, Below w.heap.size w W → Calls Tryd.prog 45 #[.slice wa p.wires.length wc] W fun e w' => ∃ y : Int, e = .returned (.tuple #[.int .i64 y, .nilIface]) ∧ Below W.heap.size W w') := m2
  have M3 : Hid (∀ W, Below w.heap.size w W → Calls Tryd.prog 46 #[.agg #[.slice ca p.code.length cc, .int .i64 p.ticks, .slice sa p.spans.length sc, .slice wa p.wires.length wc]] W fun e w' => e = .returned (.bool false) ∧ Below W.heap.size W w') := m3
  have M4 : Hid (∀ W, Below w.heap.size w W → Calls Tryd.prog 47 #[.agg #[.slice ca p.code.length cc, .int .i64 p.ticks, .slice sa p.spans.length sc, .slice wa p.wires.length wc]] W fun e w' => e = .returned (wErr (if codesE p.code ≠ 0 then codesE p.code else if portsAny p.wires 0 p.code = true then 3 else 0)) ∧ Below W.heap.size W w') := fun W hb => codes_any p ca sa wa cc sc wc W (hf.all hb) (hp.all hb) h1
  generalize (if codesE p.code ≠ 0 then codesE p.code else if portsAny p.wires 0 p.code = true then 3 else 0) = E at M4 ⊢
  generalize wErr E = V at M4 ⊢
  clear hp hf h2 h3 h4 h5 m1 m2 m3
  go_enter Tryd.func31, Tryd.ntmps31
  go_wp2_with (first
    | (go_at_call 22; refine q1.mono ?_; rintro e w1 ⟨y1, rfl, b1⟩; clear q1; have hx1 := hx0.step b1; have k3 := hx1.c3; have q2 := M2.out w1 hx1.below)
    | (go_at_call 45; refine q2.mono ?_; rintro e w2 ⟨y2, rfl, b2⟩; clear q2 k3; have hx2 := hx1.step b2; have j0 := hx2.c0; have j1 := hx2.c1; have j2 := hx2.c2; have j3 := hx2.c3; have q3 := M3.out w2 hx2.below)
    | (go_at_call 46; refine q3.mono ?_; rintro e w3 ⟨rfl, b3⟩; clear q3 j0 j1 j2 j3; have hx3 := hx2.step b3; have i0 := hx3.c0; have i1 := hx3.c1; have i2 := hx3.c2; have i3 := hx3.c3; have q4 := M4.out w3 hx3.below)
    | (go_at_call 47; refine q4.mono ?_; rintro e w4 ⟨rfl, b4⟩; clear q4))
  go_ret
  exact ⟨rfl, hx3.below.trans (b4.mono hx3.below.size)⟩
theorem plcheck_any (p : PD) (vc vs vw : Value) (w : World) (hf : Forms w) (hp : Pln w vc vs vw p) :
    Calls Tryd.prog 31 #[plV vc p.ticks vs vw] w fun e w' => e = .returned (wErr (plchk p)) ∧ Below w.heap.size w w' := by
  obtain ⟨ca, cc, rfl⟩ := hp.code.form
  obtain ⟨sa, sc, rfl⟩ := hp.spans.form
  obtain ⟨wa, wc, rfl⟩ := hp.wires.form
  by_cases h1 : 5 < p.code.length
  · rw [plchk_long h1]
    exact plcheck_long p ca sa wa cc sc wc w h1
  by_cases h2 : p.code.length = 0
  · rw [plchk_none h2]
    exact plcheck_none p ca sa wa cc sc wc w h2
  have h1' : p.code.length ≤ 5 := by omega
  by_cases h3 : (fchk p.ticks p.spans).2 = 0
  · by_cases h4 : (wschk p.wires).2 = 0
    · cases h5 : p.spans.any (spanOut p.code.length) with
      | true =>
        rw [plchk_span h1' h2 h3 h4 h5]
        exact plcheck_more p ca sa wa cc sc wc w hp h1' h2 h3 h4 (by rw [h5]; rfl)
      | false =>
        cases h6 : p.wires.any (wireOut p.code.length) with
        | true =>
          rw [plchk_wire h1' h2 h3 h4 h5 h6]
          exact plcheck_more p ca sa wa cc sc wc w hp h1' h2 h3 h4 (by rw [h5, h6]; rfl)
        | false =>
          rw [plchk_tail h1' h2 h3 h4 h5 h6]
          exact plcheck_codes p ca sa wa cc sc wc w hf hp h1' h2 h3 h4 (by rw [h5, h6]; rfl)
    · rw [plchk_wires h1' h2 h3 h4]
      exact plcheck_wires p ca sa wa cc sc wc w hp h1' h2 h3 h4
  · rw [plchk_frame h1' h2 h3]
    exact plcheck_frame p ca sa wa cc sc wc w hp h1' h2 h3
end Go.Proofs.YtkoomlnndnjllahDoor

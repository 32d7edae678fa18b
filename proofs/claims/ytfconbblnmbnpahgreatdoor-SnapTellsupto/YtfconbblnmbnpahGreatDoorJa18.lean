/-
  PlCheck, WHeld, WPut: joined into one text.
-/
import Derived.Test.YtfconbblnmbnpahGreatDoorJa14
import Derived.Test.YtfconbblnmbnpahGreatDoorJa10
import Derived.Test.YtfconbblnmbnpahGreatDoorJa17
import Derived.BigQuiet
import Derived.Deep.CutRange
import Derived.RangeFuncNested
import Derived.Deep.RegionWith
import Derived.Deep.RegionHeld3
namespace Go.Proofs.YtfconbblnmbnpahGreatDoor
open Go.RowKit

theorem fErr_w (e : Int) : fErr e = wErr e := rfl
theorem errV_w (e : Int) : errV e = wErr e := rfl
section
variable (p : PD) (ca sa wa : Option Addr) (cc sc wc : Nat) (w : World)
set_option maxRecDepth 100000 in
set_option maxHeartbeats 2000000 in
theorem plcheck_long (h : 5 < p.code.length) : Calls Tryz.prog 57 #[.agg #[.slice ca p.code.length cc, .int .i64 p.ticks, .slice sa p.spans.length sc, .slice wa p.wires.length wc]] w fun e w' => e = .returned (wErr 4) ∧ Below w.heap.size w w' := by
  have h5i : (5 : Int) < (p.code.length : Int) := by omega
  go_enter Tryz.func57, Tryz.ntmps57
  go_wp2
  go_ret
  exact ⟨rfl, (Below.refl _ _).alloc (Nat.le_refl _) _⟩
set_option maxRecDepth 100000 in
set_option maxHeartbeats 2000000 in
theorem plcheck_none (h : p.code.length = 0) : Calls Tryz.prog 57 #[.agg #[.slice ca p.code.length cc, .int .i64 p.ticks, .slice sa p.spans.length sc, .slice wa p.wires.length wc]] w fun e w' => e = .returned (wErr 5) ∧ Below w.heap.size w w' := by
  rw [h]
  go_enter Tryz.func57, Tryz.ntmps57
  go_wp2
  go_ret
  exact ⟨rfl, (Below.refl _ _).alloc (Nat.le_refl _) _⟩
set_option maxRecDepth 100000 in
set_option maxHeartbeats 2000000 in
theorem plcheck_frame (hp : Pln w (.slice ca p.code.length cc) (.slice sa p.spans.length sc) (.slice wa p.wires.length wc) p) (h1 : p.code.length ≤ 5) (h2 : p.code.length ≠ 0) (h3 : (fchk p.ticks p.spans).2 ≠ 0) : Calls Tryz.prog 57 #[.agg #[.slice ca p.code.length cc, .int .i64 p.ticks, .slice sa p.spans.length sc, .slice wa p.wires.length wc]] w fun e w' => e = .returned (wErr (fchk p.ticks p.spans).2) ∧ Below w.heap.size w w' := by
  have h5i : decide ((5 : Int) < (p.code.length : Int)) = false := decide_eq_false (by omega)
  have h5n : decide (5 < p.code.length) = false := decide_eq_false (by omega)
  have h0i : ¬ ((p.code.length : Int) = 0) := by omega
  have hx0 := Bx.first w (.slice ca p.code.length cc) p.ticks (.slice sa p.spans.length sc) (.slice wa p.wires.length wc)
  have q1 := fcheck_any p.ticks p.spans _ _ (hp.spans.all hx0.below)
  rw [fErr_w, wErr_not h3] at q1
  rw [wErr_not h3]
  generalize (fchk p.ticks p.spans).2 = z at q1
  generalize (fchk p.ticks p.spans).1 = y at q1
  clear hp h1 h2 h3
  go_enter Tryz.func57, Tryz.ntmps57
  go_wp2_with (go_at_call 93; refine q1.mono ?_; rintro e w1 ⟨rfl, b1⟩; clear q1)
  go_ret
  exact ⟨rfl, hx0.below.trans (b1.mono hx0.below.size)⟩
set_option maxRecDepth 100000 in
set_option maxHeartbeats 2000000 in
theorem plcheck_wires (hp : Pln w (.slice ca p.code.length cc) (.slice sa p.spans.length sc) (.slice wa p.wires.length wc) p) (h1 : p.code.length ≤ 5) (h2 : p.code.length ≠ 0) (h3 : (fchk p.ticks p.spans).2 = 0) (h4 : (wschk p.wires).2 ≠ 0) : Calls Tryz.prog 57 #[.agg #[.slice ca p.code.length cc, .int .i64 p.ticks, .slice sa p.spans.length sc, .slice wa p.wires.length wc]] w fun e w' => e = .returned (wErr (wschk p.wires).2) ∧ Below w.heap.size w w' := by
  have h5i : decide ((5 : Int) < (p.code.length : Int)) = false := decide_eq_false (by omega)
  have h5n : decide (5 < p.code.length) = false := decide_eq_false (by omega)
  have h0i : ¬ ((p.code.length : Int) = 0) := by omega
  have hx0 := Bx.first w (.slice ca p.code.length cc) p.ticks (.slice sa p.spans.length sc) (.slice wa p.wires.length wc)
  have q1 := fcheck_any p.ticks p.spans _ _ (hp.spans.all hx0.below)
  rw [h3, show fErr 0 = .nilIface from rfl] at q1
  have HQ : Hid (∀ W, Below w.heap.size w W → Calls Tryz.prog 100 #[.slice wa p.wires.length wc] W fun e w' => e = .returned (.tuple #[.int .i64 (wschk p.wires).1, .iface 91 (.int .i64 (wschk p.wires).2)]) ∧ Below W.heap.size W w') := fun W hb => by
    have := flcheck_any p.wires _ W (hp.wires.all hb)
    rw [wErr_not h4] at this
    exact this
  rw [wErr_not h4]
  generalize (wschk p.wires).2 = z at HQ
  generalize (wschk p.wires).1 = y at HQ
  generalize (fchk p.ticks p.spans).1 = x at q1
  clear hp h1 h2 h3 h4
  go_enter Tryz.func57, Tryz.ntmps57
  go_wp2_with (first
    | (go_at_call 93; refine q1.mono ?_; rintro e w1 ⟨rfl, b1⟩; clear q1; have hx1 := hx0.step b1; have k3 := hx1.c3; have q2 := HQ.out w1 hx1.below)
    | (go_at_call 100; refine q2.mono ?_; rintro e w2 ⟨rfl, b2⟩; clear q2))
  go_ret
  exact ⟨rfl, hx1.below.trans (b2.mono hx1.below.size)⟩
/-- Frame and wires are right: what namesMore answers. -/
theorem more_of (hp : Pln w (.slice ca p.code.length cc) (.slice sa p.spans.length sc) (.slice wa p.wires.length wc) p) (h3 : (fchk p.ticks p.spans).2 = 0) (h4 : (wschk p.wires).2 = 0) :
    (∀ W, Below w.heap.size w W → Calls Tryz.prog 93 #[.int .i64 p.ticks, .slice sa p.spans.length sc] W fun e w' => ∃ y : Int, e = .returned (.tuple #[.int .i64 y, .nilIface]) ∧ Below W.heap.size W w') ∧
    (∀ W, Below w.heap.size w W → Calls Tryz.prog 100 #[.slice wa p.wires.length wc] W fun e w' => ∃ y : Int, e = .returned (.tuple #[.int .i64 y, .nilIface]) ∧ Below W.heap.size W w') ∧
    ∀ W, Below w.heap.size w W → Calls Tryz.prog 101 #[.agg #[.slice ca p.code.length cc, .int .i64 p.ticks, .slice sa p.spans.length sc, .slice wa p.wires.length wc]] W fun e w' => e = .returned (.bool (p.spans.any (spanOut p.code.length) || p.wires.any (wireOut p.code.length))) ∧ Below W.heap.size W w' := by
  refine ⟨fun W hb => ?_, fun W hb => ?_, fun W hb => namesmore_any p _ _ _ W (hp.all hb) (fchk_zero h3).2.2.1 (wschk_ok h4).1⟩
  · refine (fcheck_any p.ticks p.spans _ W (hp.spans.all hb)).mono ?_
    rintro e w' ⟨rfl, h⟩
    exact ⟨_, by rw [h3]; rfl, h⟩
  · refine (flcheck_any p.wires _ W (hp.wires.all hb)).mono ?_
    rintro e w' ⟨rfl, h⟩
    exact ⟨_, by rw [h4]; rfl, h⟩
set_option maxRecDepth 100000 in
set_option maxHeartbeats 2000000 in
theorem plcheck_more (hp : Pln w (.slice ca p.code.length cc) (.slice sa p.spans.length sc) (.slice wa p.wires.length wc) p) (h1 : p.code.length ≤ 5) (h2 : p.code.length ≠ 0) (h3 : (fchk p.ticks p.spans).2 = 0) (h4 : (wschk p.wires).2 = 0) (h5 : (p.spans.any (spanOut p.code.length) || p.wires.any (wireOut p.code.length)) = true) : Calls Tryz.prog 57 #[.agg #[.slice ca p.code.length cc, .int .i64 p.ticks, .slice sa p.spans.length sc, .slice wa p.wires.length wc]] w fun e w' => e = .returned (wErr 1) ∧ Below w.heap.size w w' := by
  have h5i : decide ((5 : Int) < (p.code.length : Int)) = false := decide_eq_false (by omega)
  have h5n : decide (5 < p.code.length) = false := decide_eq_false (by omega)
  have h0i : ¬ ((p.code.length : Int) = 0) := by omega
  have hx0 := Bx.first w (.slice ca p.code.length cc) p.ticks (.slice sa p.spans.length sc) (.slice wa p.wires.length wc)
  obtain ⟨m1, m2, m3⟩ := more_of p ca sa wa cc sc wc w hp h3 h4
  rw [h5] at m3
  have q1 := m1 _ hx0.below
  have M2 : Hid (∀ W, Below w.heap.size w W → Calls Tryz.prog 100 #[.slice wa p.wires.length wc] W fun e w' => ∃ y : Int, e = .returned (.tuple #[.int .i64 y, .nilIface]) ∧ Below W.heap.size W w') := m2
  have M3 : Hid (∀ W, Below w.heap.size w W → Calls Tryz.prog 101 #[.agg #[.slice ca p.code.length cc, .int .i64 p.ticks, .slice sa p.spans.length sc, .slice wa p.wires.length wc]] W fun e w' => e = .returned (.bool true) ∧ Below W.heap.size W w') := m3
  clear hp h1 h2 h3 h4 h5 m1 m2 m3
  go_enter Tryz.func57, Tryz.ntmps57
  go_wp2_with (first
    | (go_at_call 93; refine q1.mono ?_; rintro e w1 ⟨y1, rfl, b1⟩; clear q1; have hx1 := hx0.step b1; have k3 := hx1.c3; have q2 := M2.out w1 hx1.below)
    | (go_at_call 100; refine q2.mono ?_; rintro e w2 ⟨y2, rfl, b2⟩; clear q2 k3; have hx2 := hx1.step b2; have j0 := hx2.c0; have j1 := hx2.c1; have j2 := hx2.c2; have j3 := hx2.c3; have q3 := M3.out w2 hx2.below)
    | (go_at_call 101; refine q3.mono ?_; rintro e w3 ⟨rfl, b3⟩; clear q3))
  go_ret
  exact ⟨rfl, hx2.below.trans (b3.mono hx2.below.size)⟩
end
theorem roomE_ok {ws : List W4} {i : Nat} {c : List O3} (h : (chk c).2 = 0) : roomE ws i c = if portsB ws i c = true then 3 else 0 := by
  unfold roomE
  rw [if_neg (by simpa using h)]
set_option maxRecDepth 100000 in
set_option maxHeartbeats 8000000 in
/-- checkCodes: first each code by itself, then each with the wires. -/
theorem codes_any (p : PD) (ca sa wa : Option Addr) (cc sc wc : Nat) (w : World) (hf : Forms w) (hp : Pln w (.slice ca p.code.length cc) (.slice sa p.spans.length sc) (.slice wa p.wires.length wc) p) (h1 : p.code.length ≤ 5) : Calls Tryz.prog 102 #[.agg #[.slice ca p.code.length cc, .int .i64 p.ticks, .slice sa p.spans.length sc, .slice wa p.wires.length wc]] w fun e w' => e = .returned (wErr (if codesE p.code ≠ 0 then codesE p.code else if portsAny p.wires 0 p.code = true then 3 else 0)) ∧ Below w.heap.size w w' := by
  have hx0 := Bx.first w (.slice ca p.code.length cc) p.ticks (.slice sa p.spans.length sc) (.slice wa p.wires.length wc)
  have i0 := hx0.c0
  have HP : Hid (Pln w (.slice ca p.code.length cc) (.slice sa p.spans.length sc) (.slice wa p.wires.length wc) p) := hp
  have HF : Hid (Forms w) := hf
  obtain ⟨E, hE⟩ : ∃ E, E = if codesE p.code ≠ 0 then codesE p.code else if portsAny p.wires 0 p.code = true then 3 else 0 := ⟨_, rfl⟩
  have HE : Hid (E = if codesE p.code ≠ 0 then codesE p.code else if portsAny p.wires 0 p.code = true then 3 else 0) := hE
  rw [← hE]
  clear hp hf hE
  go_enter Tryz.func102, Tryz.ntmps102
  go_wp2
  go_loopw [13] (fun i wr => ∃ k : Nat, k ≤ p.code.length ∧ i = .int .i64 k ∧ Hid (∀ (j : Nat) c, j < k → p.code[j]? = some c → (chk c).2 = 0) ∧ Bx w wr (.slice ca p.code.length cc) p.ticks (.slice sa p.spans.length sc) (.slice wa p.wires.length wc)) (fun i _ => p.code.length - (intOf i).toNat)
  case atStart => exact ⟨0, Nat.zero_le _, rfl, fun j c hj => by omega, hx0⟩
  case round =>
  clear hx0 i0
  obtain ⟨k, hk, rfl, HS, hx⟩ := hrel
  by_cases hkl : k < p.code.length
  · have hki : (k : Int) < (p.code.length : Int) := by omega
    obtain ⟨b, off, u, n, g, c, rfl, hlt, hy, d0, rfl, hops⟩ := HP.out.code.at hkl
    replace d0 := (hx.below.cell (p := ⟨b, _, none⟩) hlt).trans d0
    have HY : Hid (p.code[k]? = some c) := hy
    clear hy
    have qc := check_any _ c wr (HF.out.all hx.below) (hops.all hx.below)
    rw [errV_w] at qc
    by_cases hc0 : (chk c).2 = 0
    · rw [hc0, show wErr 0 = .nilIface from rfl] at qc
      have HC : Hid ((chk c).2 = 0) := hc0
      clear hc0 hops
      generalize (chk c).1 = y at qc
      go_wp2_with (go_at_call 136; refine qc.mono ?_; rintro e w4 ⟨rfl, b4⟩; clear qc)
      go_roundw
      case rel => exact ⟨k + 1, by omega, by go_num, fun j c' hj hc' => by
        by_cases hjk : j < k
        · exact HS.out j c' hjk hc'
        · obtain rfl : j = k := by omega
          rw [HY.out] at hc'
          obtain rfl := Option.some.inj hc'
          exact HC.out, hx.step b4⟩
      case measure => simp [intOf]; omega
    · have HX : Hid (E = (chk c).2) := by
        show _ = _
        have e := codesE_hit HS.out HY.out hc0
        rw [HE.out, e, if_pos hc0]
      have HZ : Hid (wErr (chk c).2 = .iface 91 (.int .i64 (chk c).2)) := wErr_not hc0
      rw [wErr_not hc0] at qc
      clear hc0 hops
      generalize (chk c).1 = y at qc
      generalize (chk c).2 = z at qc HX HZ
      go_wp2_with (go_at_call 136; refine qc.mono ?_; rintro e w4 ⟨rfl, b4⟩; clear qc)
      go_ret
      rw [HX.out, HZ.out]
      exact ⟨rfl, (hx.step b4).below⟩
  have hki : decide ((k : Int) < (p.code.length : Int)) = false := decide_eq_false (by omega)
  have hkn : decide (k < p.code.length) = false := decide_eq_false (by omega)
  have HE2 : Hid (E = if portsAny p.wires 0 p.code = true then 3 else 0) := by
    show _ = _
    have e := codesE_ok (l := p.code) (fun j c hj hc => HS.out j c (by omega) hc)
    rw [HE.out, e]
    rfl
  have HCK : Hid (∀ (j : Nat) c, p.code[j]? = some c → (chk c).2 = 0) := fun j c hc => HS.out j c (by have := (List.getElem?_eq_some_iff.1 hc).1; omega) hc
  have k0 := hx.c0
  clear HS HE hkl hk
  go_wp2
  rename World => wo
  go_loopw [29] (fun i wr => ∃ k : Nat, k ≤ p.code.length ∧ i = .int .i64 k ∧ Hid (∀ (j : Nat) c, j < k → p.code[j]? = some c → portsB p.wires j c = false) ∧ Bx w wr (.slice ca p.code.length cc) p.ticks (.slice sa p.spans.length sc) (.slice wa p.wires.length wc)) (fun i _ => p.code.length - (intOf i).toNat)
  case atStart => exact ⟨0, Nat.zero_le _, rfl, fun j c hj => by omega, hx⟩
  case round =>
  clear hx k0 hki hkn
  obtain ⟨k, hk, rfl, HS, hx⟩ := hrel
  have k3 := hx.c3
  by_cases hkl : k < p.code.length
  · have hki : (k : Int) < (p.code.length : Int) := by omega
    obtain ⟨b, off, u, n, g, c, rfl, hlt, hy, d0, rfl, hops⟩ := HP.out.code.at hkl
    replace d0 := (hx.below.cell (p := ⟨b, _, none⟩) hlt).trans d0
    have HY : Hid (p.code[k]? = some c) := hy
    have hck := HCK.out k c hy
    clear hy
    have qc := checkroom_any p.wires c k _ _ wr (HF.out.all hx.below) (hops.all hx.below) (HP.out.wires.all hx.below)
    rw [roomE_ok hck] at qc
    clear hck hops
    cases hpb : portsB p.wires k c with
    | false =>
      rw [hpb, if_neg (by decide), show wErr 0 = .nilIface from rfl] at qc
      have HN : Hid (portsB p.wires k c = false) := hpb
      clear hpb
      go_wp2_with (go_at_call 137; refine qc.mono ?_; rintro e w4 ⟨rfl, b4⟩; clear qc)
      go_roundw
      case rel => exact ⟨k + 1, by omega, by go_num, ports_next HS.out HY.out HN.out, hx.step b4⟩
      case measure => simp [intOf]; omega
    | true =>
      rw [hpb, if_pos rfl, show wErr 3 = .iface 91 (.int .i64 3) from rfl] at qc
      have HX : Hid (E = 3) := by show _ = _; rw [HE2.out, portsAny_hit HS.out HY.out hpb, if_pos rfl]
      clear hpb
      go_wp2_with (go_at_call 137; refine qc.mono ?_; rintro e w4 ⟨rfl, b4⟩; clear qc)
      go_ret
      rw [HX.out]
      exact ⟨rfl, (hx.step b4).below⟩
  have hki : decide ((k : Int) < (p.code.length : Int)) = false := decide_eq_false (by omega)
  have hkn : decide (k < p.code.length) = false := decide_eq_false (by omega)
  have HX : Hid (E = 0) := by
    show _ = _
    have e := portsAny_ok (ws := p.wires) (l := p.code) (fun j c hj hc => HS.out j c (by omega) hc)
    rw [HE2.out, e]
    rfl
  clear HS
  go_wp2
  go_ret
  rw [HX.out]
  exact ⟨rfl, hx.below⟩
set_option maxRecDepth 100000 in
set_option maxHeartbeats 2000000 in
theorem plcheck_codes (p : PD) (ca sa wa : Option Addr) (cc sc wc : Nat) (w : World) (hf : Forms w) (hp : Pln w (.slice ca p.code.length cc) (.slice sa p.spans.length sc) (.slice wa p.wires.length wc) p) (h1 : p.code.length ≤ 5) (h2 : p.code.length ≠ 0) (h3 : (fchk p.ticks p.spans).2 = 0) (h4 : (wschk p.wires).2 = 0) (h5 : (p.spans.any (spanOut p.code.length) || p.wires.any (wireOut p.code.length)) = false) : Calls Tryz.prog 57 #[.agg #[.slice ca p.code.length cc, .int .i64 p.ticks, .slice sa p.spans.length sc, .slice wa p.wires.length wc]] w fun e w' => e = .returned (wErr (if codesE p.code ≠ 0 then codesE p.code else if portsAny p.wires 0 p.code = true then 3 else 0)) ∧ Below w.heap.size w w' := by
  have h5i : decide ((5 : Int) < (p.code.length : Int)) = false := decide_eq_false (by omega)
  have h5n : decide (5 < p.code.length) = false := decide_eq_false (by omega)
  have h0i : ¬ ((p.code.length : Int) = 0) := by omega
  have hx0 := Bx.first w (.slice ca p.code.length cc) p.ticks (.slice sa p.spans.length sc) (.slice wa p.wires.length wc)
  obtain ⟨m1, m2, m3⟩ := more_of p ca sa wa cc sc wc w hp h3 h4
  rw [h5] at m3
  have q1 := m1 _ hx0.below
  have M2 : Hid (∀ W, Below w.heap.size w W → Calls Tryz.prog 100 #[.slice wa p.wires.length wc] W fun e w' => ∃ y : Int, e = .returned (.tuple #[.int .i64 y, .nilIface]) ∧ Below W.heap.size W w') := m2
  have M3 : Hid (∀ W, Below w.heap.size w W → Calls Tryz.prog 101 #[.agg #[.slice ca p.code.length cc, .int .i64 p.ticks, .slice sa p.spans.length sc, .slice wa p.wires.length wc]] W fun e w' => e = .returned (.bool false) ∧ Below W.heap.size W w') := m3
  have M4 : Hid (∀ W, Below w.heap.size w W → Calls Tryz.prog 102 #[.agg #[.slice ca p.code.length cc, .int .i64 p.ticks, .slice sa p.spans.length sc, .slice wa p.wires.length wc]] W fun e w' => e = .returned (wErr (if codesE p.code ≠ 0 then codesE p.code else if portsAny p.wires 0 p.code = true then 3 else 0)) ∧ Below W.heap.size W w') := fun W hb => codes_any p ca sa wa cc sc wc W (hf.all hb) (hp.all hb) h1
  generalize (if codesE p.code ≠ 0 then codesE p.code else if portsAny p.wires 0 p.code = true then 3 else 0) = E at M4 ⊢
  generalize wErr E = V at M4 ⊢
  clear hp hf h2 h3 h4 h5 m1 m2 m3
  go_enter Tryz.func57, Tryz.ntmps57
  go_wp2_with (first
    | (go_at_call 93; refine q1.mono ?_; rintro e w1 ⟨y1, rfl, b1⟩; clear q1; have hx1 := hx0.step b1; have k3 := hx1.c3; have q2 := M2.out w1 hx1.below)
    | (go_at_call 100; refine q2.mono ?_; rintro e w2 ⟨y2, rfl, b2⟩; clear q2 k3; have hx2 := hx1.step b2; have j0 := hx2.c0; have j1 := hx2.c1; have j2 := hx2.c2; have j3 := hx2.c3; have q3 := M3.out w2 hx2.below)
    | (go_at_call 101; refine q3.mono ?_; rintro e w3 ⟨rfl, b3⟩; clear q3 j0 j1 j2 j3; have hx3 := hx2.step b3; have i0 := hx3.c0; have i1 := hx3.c1; have i2 := hx3.c2; have i3 := hx3.c3; have q4 := M4.out w3 hx3.below)
    | (go_at_call 102; refine q4.mono ?_; rintro e w4 ⟨rfl, b4⟩; clear q4))
  go_ret
  exact ⟨rfl, hx3.below.trans (b4.mono hx3.below.size)⟩
theorem plcheck_any (p : PD) (vc vs vw : Value) (w : World) (hf : Forms w) (hp : Pln w vc vs vw p) :
    Calls Tryz.prog 57 #[plV vc p.ticks vs vw] w fun e w' => e = .returned (wErr (plchk p)) ∧ Below w.heap.size w w' := by
  obtain ⟨ca, cc, rfl⟩ := hp.code.form
  obtain ⟨sa, sc, rfl⟩ := hp.spans.form
  obtain ⟨wa, wc, rfl⟩ := hp.wires.form
  by_cases h1 : 5 < p.code.length
  · rw [plchk_long h1]
    exact plcheck_long p ca sa wa cc sc wc w h1
  by_cases h2 : p.code.length = 0
  · rw [plchk_none h2]
    exact plcheck_none p ca sa wa cc sc wc w h2
  have h1' : p.code.length ≤ 5 := by omega
  by_cases h3 : (fchk p.ticks p.spans).2 = 0
  · by_cases h4 : (wschk p.wires).2 = 0
    · cases h5 : p.spans.any (spanOut p.code.length) with
      | true =>
        rw [plchk_span h1' h2 h3 h4 h5]
        exact plcheck_more p ca sa wa cc sc wc w hp h1' h2 h3 h4 (by rw [h5]; rfl)
      | false =>
        cases h6 : p.wires.any (wireOut p.code.length) with
        | true =>
          rw [plchk_wire h1' h2 h3 h4 h5 h6]
          exact plcheck_more p ca sa wa cc sc wc w hp h1' h2 h3 h4 (by rw [h5, h6]; rfl)
        | false =>
          rw [plchk_tail h1' h2 h3 h4 h5 h6]
          exact plcheck_codes p ca sa wa cc sc wc w hf hp h1' h2 h3 h4 (by rw [h5, h6]; rfl)
    · rw [plchk_wires h1' h2 h3 h4]
      exact plcheck_wires p ca sa wa cc sc wc w hp h1' h2 h3 h4
  · rw [plchk_frame h1' h2 h3]
    exact plcheck_frame p ca sa wa cc sc wc w hp h1' h2 h3
end Go.Proofs.YtfconbblnmbnpahGreatDoor
namespace Go.Proofs.YtfconbblnmbnpahGreatDoor
open Go.RowKit

theorem own_mono {w : World} {base B : Nat} {e : TypeId} {size : Nat} {v : Value} {n : Nat} {xs : List Value} (h : w.ownsRow base e size v n xs) (hB : B ≤ base) : w.ownsRow B e size v n xs := by
  refine ⟨h.1, ?_⟩
  rcases h.2 with h2 | ⟨g, cap, cur, rfl, h3, r⟩
  · exact Or.inl h2
  · exact Or.inr ⟨g, cap, cur, rfl, Nat.le_trans hB h3, r⟩
set_option maxRecDepth 100000 in
set_option maxHeartbeats 4000000 in
theorem held_any (base b : Nat) (kd dp : Int) (xs : List Int) (ls : Int) (v : Value) (w : World) (hx : xs.length ≤ 1000000) (hL : Ln w base b kd dp xs ls v) :
    Calls Tryz.prog 108 #[.pointer (some ⟨b, 0, none⟩)] w fun e w' => ∃ ao cap, e = .returned (.agg #[.slice ao xs.length cap, .int .i64 ls]) ∧ w'.ownsRow w.heap.size 3 1 (.slice ao xs.length cap) xs.length (ints xs) ∧ Below w.heap.size w w' := by
  have hlt := hL.c.lt
  have hA : Below w.heap.size w (w.alloc (.cells #[.slice none 0 0, .int .i64 0] 86)) := (Below.refl _ _).alloc (Nat.le_refl _) _
  have hcl : Calls Tryz.prog 147 #[v] (w.alloc (.cells #[.slice none 0 0, .int .i64 0] 86)).drew fun e w' => ∃ ao cap, e = .returned (.slice ao xs.length cap) ∧ w'.ownsRow (w.heap.size + 1) 3 1 (.slice ao xs.length cap) xs.length (ints xs) ∧ Below (w.heap.size + 1) (w.alloc (.cells #[.slice none 0 0, .int .i64 0] 86)) w' := by
    rcases hL.form with ⟨rfl, rfl⟩ | ⟨g, cap, rfl⟩
    · refine (clone_nil _).mono fun e w' ⟨he, hw⟩ => ?_
      subst hw
      exact ⟨_, _, he, World.ownsRow_nil _ _ _ _, (Below.refl _ _).drew⟩
    · have hcp := own_cap hL.row
      refine (clone_some g cap xs _ hx (fun i x h => ((hA.drew).cell (p := ⟨g, i, none⟩) hcp.2.1).trans (hcp.2.2.2.2.1 i x h))).mono fun e w' ⟨v', he, hr, hb⟩ => ?_
      have hr' : w'.ownsRow (w.heap.size + 1) 3 1 v' xs.length (ints xs) := by simpa using hr
      rcases row_form hr' with ⟨rfl, h0⟩ | ⟨g', cap', rfl⟩
      · exact ⟨none, 0, by rw [h0]; exact he, by rw [h0] at hr' ⊢; exact hr', (Below.refl _ _).drew.trans (by simpa using hb)⟩
      · exact ⟨_, _, he, hr', (Below.refl _ _).drew.trans (by simpa using hb)⟩
  obtain ⟨sa, sm, sc, rfl⟩ : ∃ sa sm sc, v = .slice sa sm sc := by
    rcases row_form hL.row with ⟨rfl, _⟩ | ⟨g, cap, rfl⟩
    · exact ⟨_, _, _, rfl⟩
    · exact ⟨_, _, _, rfl⟩
  obtain ⟨c0, c1, c2, c3, f2, f3⟩ := hL.c
  clear c0 c1 f2 f3 hL
  go_enter Tryz.func108, Tryz.ntmps108
  go_wp2
  go_region_with (go_at_call 147; refine hcl.mono ?_; rintro e w1 ⟨ao, cap, rfl, own1, b1⟩; have d3 : w1.cell? ⟨b, 3, none⟩ = some (.int .i64 ls) := (b1.cell (p := ⟨b, 3, none⟩) (show b < _ by omega)).trans ((hA.cell (p := ⟨b, 3, none⟩) hlt).trans c3); have e0 : w1.cell? ⟨w.heap.size, 0, none⟩ = some (.slice none 0 0) := (b1.cell (p := ⟨w.heap.size, 0, none⟩) (by simp)).trans (by simp); have e1 : w1.cell? ⟨w.heap.size, 1, none⟩ = some (.int .i64 0) := (b1.cell (p := ⟨w.heap.size, 1, none⟩) (by simp)).trans (by simp); have g0 : w1.frozen? ⟨w.heap.size, 0, none⟩ = false := (b1.frozen (p := ⟨w.heap.size, 0, none⟩) (by simp)).trans (by simp); have g1 : w1.frozen? ⟨w.heap.size, 1, none⟩ = false := (b1.frozen (p := ⟨w.heap.size, 1, none⟩) (by simp)).trans (by simp))
  all_goals (try go_wp2)
  all_goals
    refine bodyPost_ret (v := .agg #[.slice ao xs.length cap, .int .i64 ls]) (by simp [results, Tryz.results108, go_sem, e0, e1]) rfl ⟨_, _, rfl, own_mono (ownsRow_setCell_below (ownsRow_setCell_below own1 (a := ⟨w.heap.size, 0, none⟩) (Nat.lt_succ_self _) _) (a := ⟨w.heap.size, 1, none⟩) (Nat.lt_succ_self _) _) (Nat.le_succ _), ?_⟩
    exact ((hA.trans (b1.mono (Nat.le_succ _))).setCell (p := ⟨w.heap.size, 0, none⟩) (Nat.le_refl _) _).setCell (p := ⟨w.heap.size, 1, none⟩) (Nat.le_refl _) _
end Go.Proofs.YtfconbblnmbnpahGreatDoor
namespace Go.Proofs.YtfconbblnmbnpahGreatDoor
open Go.RowKit

/-- What may not be so on a line. -/
def wputB (kd dp : Int) (ys : List Int) (nl : Int) : Bool := decide (dp < (ys.length : Int)) || ys.any woutB || decide (nl < 0) || (decide (0 < nl) && decide (kd = 1))
theorem wputB_no {kd dp : Int} {ys : List Int} {nl : Int} (h : wputB kd dp ys nl = false) : (ys.length : Int) ≤ dp ∧ ys.any woutB = false ∧ 0 ≤ nl ∧ (kd = 1 → nl = 0) := by
  unfold wputB at h
  rw [Bool.or_eq_false_iff, Bool.or_eq_false_iff, Bool.or_eq_false_iff, Bool.and_eq_false_iff] at h
  obtain ⟨⟨⟨h1, h2⟩, h3⟩, h4⟩ := h
  rw [decide_eq_false_iff_not] at h1 h3
  refine ⟨by omega, h2, by omega, fun hk => ?_⟩
  rcases h4 with h4 | h4
  · rw [decide_eq_false_iff_not] at h4
    omega
  · rw [decide_eq_false_iff_not] at h4
    exact absurd hk h4

/-- A line written: its numbers, and how many were lost. -/
theorem ln_put {base b : Nat} {kd dp ls nl : Int} {xs ys : List Int} {v v' : Value} {w W : World} (hL : Ln w base b kd dp xs ls v) (hb : Below w.heap.size w W) (own : W.ownsRow w.heap.size 3 1 v' ys.length (ints ys)) :
    Ln ((W.setCell ⟨b, 2, none⟩ v').setCell ⟨b, 3, none⟩ (.int .i64 nl)) base b kd dp ys nl v' ∧ Touch w ((W.setCell ⟨b, 2, none⟩ v').setCell ⟨b, 3, none⟩ (.int .i64 nl)) b v v' := by
  have h1 := hL.below hb
  refine ⟨⟨(h1.c.items v').lost nl, ownsRow_setCell_below (ownsRow_setCell_below (own_mono own hL.le) (a := ⟨b, 2, none⟩) hL.lt _) (a := ⟨b, 3, none⟩) hL.lt _, hL.lt, by have := h1.le; simpa using this⟩, ?_⟩
  have ht : Touch w W b v v' := ⟨hb.os, hb.tape, hb.output, hb.size, fun k hk _ _ => hb.block k hk, fun k hk => Or.inr (own.lt k hk).1⟩
  exact (ht.set 2 _).set 3 _
set_option maxRecDepth 100000 in
set_option maxHeartbeats 4000000 in
theorem wput_ok (base b : Nat) (kd dp : Int) (xs : List Int) (ls : Int) (v : Value) (ao : Option Addr) (cap : Nat) (ys : List Int) (nl : Int) (w : World) (hL : Ln w base b kd dp xs ls v) (hr : Rd w (.slice ao ys.length cap) ys) (hy : ys.length ≤ 1000000) (hp : wputB kd dp ys nl = false) :
    Calls Tryz.prog 153 #[.pointer (some ⟨b, 0, none⟩), .agg #[.slice ao ys.length cap, .int .i64 nl]] w fun e w' => ∃ v', e = .returned .nilIface ∧ Ln w' base b kd dp ys nl v' ∧ Touch w w' b v v' := by
  obtain ⟨g1, g2, g3, g4⟩ := wputB_no hp
  clear hp
  have HC : Hid (∀ W, Below w.heap.size w W → Calls Tryz.prog 51 #[.slice ao ys.length cap, .func (.func 175) #[] #[]] W fun e w' => e = .returned (.bool false) ∧ w' = W) := fun W hb => by
    have := wcon_any (.slice ao ys.length cap) ys W (by omega) (hr.all hb)
    rwa [g2] at this
  have HR : Hid (∀ W, Below w.heap.size w W → Calls Tryz.prog 147 #[.slice ao ys.length cap] W fun e w' => ∃ ao' cap', e = .returned (.slice ao' ys.length cap') ∧ w'.ownsRow W.heap.size 3 1 (.slice ao' ys.length cap') ys.length (ints ys) ∧ Below W.heap.size W w') := fun W hb => clone_rd _ ys W hy (hr.all hb)
  have HL : Hid (Ln w base b kd dp xs ls v) := hL
  have hlt := hL.c.lt
  obtain ⟨c0, c1, c2, c3, f2, f3⟩ := hL.c
  have h1 : decide (dp < (ys.length : Int)) = false := decide_eq_false (by omega)
  have h3 : decide (nl < 0) = false := decide_eq_false (by omega)
  have HK : Hid (kd = 1 → nl = 0) := g4
  have HN : Hid (0 ≤ nl) := g3
  clear hL hr g1 g2 g3 g4
  go_enter Tryz.func153, Tryz.ntmps153
  go_upto_region 1 with fail
  have hA : Below w.heap.size w (w.alloc (.cells #[.slice ao ys.length cap, .int .i64 nl] 86)) := (Below.refl _ _).alloc (Nat.le_refl _) _
  have hs : (w.alloc (.cells #[.slice ao ys.length cap, .int .i64 nl] 86)).heap.size = w.heap.size + 1 := by simp
  have d0 : (w.alloc (.cells #[.slice ao ys.length cap, .int .i64 nl] 86)).cell? ⟨w.heap.size, 0, none⟩ = some (.slice ao ys.length cap) := by simp
  have d1 : (w.alloc (.cells #[.slice ao ys.length cap, .int .i64 nl] 86)).cell? ⟨w.heap.size, 1, none⟩ = some (.int .i64 nl) := by simp
  generalize w.alloc (.cells #[.slice ao ys.length cap, .int .i64 nl] 86) = W0 at hA hs d0 d1 ⊢
  have e0 := (hA.cell (p := ⟨b, 0, none⟩) hlt).trans c0
  have e1 := (hA.cell (p := ⟨b, 1, none⟩) hlt).trans c1
  go_quiet ((go_at_call 51; exact Calls.quiet_of_same (HC.out _ (below_dN hA _))))
  have hQ : Below w.heap.size w (W0.drewN nq) := below_dN hA nq
  have hQ1 : Below W0.heap.size W0 (W0.drewN nq) := below_dN (Below.refl _ _) nq
  have HB : Hid (∀ W, Below W0.heap.size W0 W → W.cell? ⟨w.heap.size, 0, none⟩ = some (.slice ao ys.length cap) ∧ W.cell? ⟨w.heap.size, 1, none⟩ = some (.int .i64 nl)) := fun W hb => ⟨(hb.cell (p := ⟨w.heap.size, 0, none⟩) (show w.heap.size < _ by omega)).trans d0, (hb.cell (p := ⟨w.heap.size, 1, none⟩) (show w.heap.size < _ by omega)).trans d1⟩
  obtain ⟨j0, j1⟩ := HB.out _ hQ1
  have k0 := (hQ.cell (p := ⟨b, 0, none⟩) hlt).trans c0
  have k1 := (hQ.cell (p := ⟨b, 2, none⟩) hlt).trans c2
  have k2 := (hQ.cell (p := ⟨b, 3, none⟩) hlt).trans c3
  have k3 := (hQ.frozen (p := ⟨b, 2, none⟩) hlt).trans f2
  have k4 := (hQ.frozen (p := ⟨b, 3, none⟩) hlt).trans f3
  have hqs : w.heap.size + 1 ≤ (W0.drewN nq).heap.size := by have := hQ1.size; omega
  clear d0 d1 e0 e1 c0 c1 c2 c3 f2 f3 hA hs HB hQ1
  generalize W0.drewN nq = W1 at *
  go_upto_region 3 with fail
  go_cut [33] from 19 to 33 (fun s wx => s = .bool false ∧ wx = W1)
  case first =>
    by_cases h0 : 0 < nl
    · have hk : ¬ kd = 1 := fun e => by have := HK.out e; omega
      go_wp2_with fail
      go_meet
      case rel => exact ⟨by simp [hk], rfl⟩
    · have h0' : decide (0 < nl) = false := decide_eq_false h0
      go_wp2_with fail
      go_meet
      case rel => exact ⟨rfl, rfl⟩
  case rest =>
  obtain ⟨rfl, hwc⟩ := hcut
  subst wc
  go_upto_region 5 with fail
  have HS : Hid (∀ W, Below W1.heap.size W1 W → W.cell? ⟨w.heap.size, 0, none⟩ = some (.slice ao ys.length cap) ∧ W.cell? ⟨w.heap.size, 1, none⟩ = some (.int .i64 nl)) := fun W hb => ⟨(hb.cell (p := ⟨w.heap.size, 0, none⟩) (show w.heap.size < _ by omega)).trans j0, (hb.cell (p := ⟨w.heap.size, 1, none⟩) (show w.heap.size < _ by omega)).trans j1⟩
  have S0 := HS.out W1 (Below.refl _ _)
  have hne : b ≠ w.heap.size := by omega
  go_cut [35] from 35 to 45 (fun _ wx => ∃ v', Ln wx base b kd dp ys nl v' ∧ Touch w wx b v v')
  case first =>
    clear j0 j1
    go_region_held3 (fun W => W.cell? ⟨w.heap.size, 0, none⟩ = some (.slice ao ys.length cap) ∧ W.cell? ⟨w.heap.size, 1, none⟩ = some (.int .i64 nl))
      (first | exact S0 | exact S1 | go_keep)
      (first
        | (go_at_call 147; refine (HR.out _ hQ.drew).mono ?_; rintro e w2 ⟨ao', cap', rfl, own, b2⟩; have bq : Below W1.heap.size W1 w2 := (Below.refl _ _).drew.trans b2; have S1 := HS.out w2 bq; have m3 := (bq.frozen (p := ⟨b, 2, none⟩) (show b < _ by omega)).trans k3; have m4 := (bq.frozen (p := ⟨b, 3, none⟩) (show b < _ by omega)).trans k4; have m1 := (bq.cell (p := ⟨b, 2, none⟩) (show b < _ by omega)).trans k1; have m2 := (bq.cell (p := ⟨b, 3, none⟩) (show b < _ by omega)).trans k2))
    have hp := ln_put (nl := nl) HL.out (hQ.trans (bq.mono hQ.size)) (own_mono own (by simp; omega))
    go_wp2_with fail
    go_meet
    case rel => exact ⟨_, hp.1, hp.2⟩
  case rest =>
  obtain ⟨v', h1, h2⟩ := hcut
  go_wp2_with fail
  go_ret
  exact ⟨v', rfl, h1, h2⟩
set_option maxRecDepth 100000 in
set_option maxHeartbeats 4000000 in
theorem wput_no (b : Nat) (kd dp ls : Int) (v : Value) (ao : Option Addr) (cap : Nat) (ys : List Int) (nl : Int) (w : World) (hL : LnC w b kd dp ls v) (hr : Rd w (.slice ao ys.length cap) ys) (hy : ys.length ≤ 2000000000000) (hp : wputB kd dp ys nl = true) :
    Calls Tryz.prog 153 #[.pointer (some ⟨b, 0, none⟩), .agg #[.slice ao ys.length cap, .int .i64 nl]] w fun e w' => e = .returned (.iface 91 (.int .i64 1)) ∧ Below w.heap.size w w' := by
  have HC : Hid (∀ W, Below w.heap.size w W → Calls Tryz.prog 51 #[.slice ao ys.length cap, .func (.func 175) #[] #[]] W fun e w' => e = .returned (.bool (ys.any woutB)) ∧ w' = W) := fun W hb => wcon_any (.slice ao ys.length cap) ys W hy (hr.all hb)
  have hlt := hL.lt
  obtain ⟨c0, c1, c2, c3, f2, f3⟩ := hL
  clear hr c2 c3 f2 f3
  go_enter Tryz.func153, Tryz.ntmps153
  go_upto_region 1 with fail
  have hA : Below w.heap.size w (w.alloc (.cells #[.slice ao ys.length cap, .int .i64 nl] 86)) := (Below.refl _ _).alloc (Nat.le_refl _) _
  have hs : (w.alloc (.cells #[.slice ao ys.length cap, .int .i64 nl] 86)).heap.size = w.heap.size + 1 := by simp
  have d0 : (w.alloc (.cells #[.slice ao ys.length cap, .int .i64 nl] 86)).cell? ⟨w.heap.size, 0, none⟩ = some (.slice ao ys.length cap) := by simp
  have d1 : (w.alloc (.cells #[.slice ao ys.length cap, .int .i64 nl] 86)).cell? ⟨w.heap.size, 1, none⟩ = some (.int .i64 nl) := by simp
  generalize w.alloc (.cells #[.slice ao ys.length cap, .int .i64 nl] 86) = W0 at hA hs d0 d1 ⊢
  have e0 := (hA.cell (p := ⟨b, 0, none⟩) hlt).trans c0
  have e1 := (hA.cell (p := ⟨b, 1, none⟩) hlt).trans c1
  have HP : Hid (wputB kd dp ys nl = true) := hp
  clear hp c0 c1
  by_cases h1 : dp < (ys.length : Int)
  · go_quiet (fail)
    have hQ : Below w.heap.size w (W0.drewN nq) := below_dN hA nq
    go_wp2_with fail
    go_ret
    exact ⟨rfl, hQ⟩
  have h1' : decide (dp < (ys.length : Int)) = false := decide_eq_false h1
  obtain ⟨q, hq⟩ : ∃ q, q = ys.any woutB := ⟨_, rfl⟩
  rw [← hq] at HC
  cases q with
  | true =>
    clear hq
    go_quiet ((go_at_call 51; exact Calls.quiet_of_same (HC.out _ (below_dN hA _))))
    have hQ : Below w.heap.size w (W0.drewN nq) := below_dN hA nq
    go_wp2_with fail
    go_ret
    exact ⟨rfl, hQ⟩
  | false =>
    have HQ : Hid (nl < 0 ∨ (0 < nl ∧ kd = 1)) := by
      show nl < 0 ∨ (0 < nl ∧ kd = 1)
      have h := HP.out
      unfold wputB at h
      rw [h1', ← hq] at h
      simpa using h
    clear hq
    go_quiet ((go_at_call 51; exact Calls.quiet_of_same (HC.out _ (below_dN hA _))))
    have hQ : Below w.heap.size w (W0.drewN nq) := below_dN hA nq
    by_cases h3 : nl < 0
    · go_wp2_with fail
      go_ret
      exact ⟨rfl, hQ⟩
    · have h3' : decide (nl < 0) = false := decide_eq_false h3
      obtain ⟨h4, h5⟩ : 0 < nl ∧ kd = 1 := by rcases HQ.out with h | h; exact absurd h h3; exact h
      have h6 : (kd == 1) = true := by rw [h5]; rfl
      clear h5
      go_wp2_with fail
      go_ret
      exact ⟨rfl, hQ⟩
end Go.Proofs.YtfconbblnmbnpahGreatDoor

/-
  PlCheck, PgPurge, WSend, DLineOps, GSmall: joined into one text.
-/
import Derived.Test.YtajfgmlockjmhafDoorJa7
import Derived.Test.YtajfgmlockjmhafDoorFCheck
import Derived.Test.YtajfgmlockjmhafDoorJa8
import Derived.Test.YtajfgmlockjmhafDoorPlCln
import Derived.Test.YtajfgmlockjmhafDoorJa3
import Derived.Test.YtajfgmlockjmhafDoorJa4
import Derived.Test.YtajfgmlockjmhafDoorJa2
import Derived.Test.YtajfgmlockjmhafDoorJa1
import Derived.Deep.CutRange
import Derived.Deep.RegionWith
import Derived.BigQuiet
import Derived.RangeFuncNested
import Derived.Deep.RegionHeld3
namespace Go.Proofs.YtajfgmlockjmhafDoor
open Go.RowKit

theorem fErr_w (e : Int) : fErr e = wErr e := rfl
theorem errV_w (e : Int) : errV e = wErr e := rfl
section
variable (p : PD) (ca sa wa : Option Addr) (cc sc wc : Nat) (w : World)
set_option maxRecDepth 100000 in
set_option maxHeartbeats 2000000 in
theorem plcheck_long (h : 5 < p.code.length) : Calls Tryd.prog 30 #[.agg #[.slice ca p.code.length cc, .int .i64 p.ticks, .slice sa p.spans.length sc, .slice wa p.wires.length wc]] w fun e w' => e = .returned (wErr 4) ∧ Below w.heap.size w w' := by
  have h5i : (5 : Int) < (p.code.length : Int) := by omega
  go_enter Tryd.func30, Tryd.ntmps30
  go_wp2
  go_ret
  exact ⟨rfl, (Below.refl _ _).alloc (Nat.le_refl _) _⟩
set_option maxRecDepth 100000 in
set_option maxHeartbeats 2000000 in
theorem plcheck_none (h : p.code.length = 0) : Calls Tryd.prog 30 #[.agg #[.slice ca p.code.length cc, .int .i64 p.ticks, .slice sa p.spans.length sc, .slice wa p.wires.length wc]] w fun e w' => e = .returned (wErr 5) ∧ Below w.heap.size w w' := by
  rw [h]
  go_enter Tryd.func30, Tryd.ntmps30
  go_wp2
  go_ret
  exact ⟨rfl, (Below.refl _ _).alloc (Nat.le_refl _) _⟩
set_option maxRecDepth 100000 in
set_option maxHeartbeats 2000000 in
theorem plcheck_frame (hp : Pln w (.slice ca p.code.length cc) (.slice sa p.spans.length sc) (.slice wa p.wires.length wc) p) (h1 : p.code.length ≤ 5) (h2 : p.code.length ≠ 0) (h3 : (fchk p.ticks p.spans).2 ≠ 0) : Calls Tryd.prog 30 #[.agg #[.slice ca p.code.length cc, .int .i64 p.ticks, .slice sa p.spans.length sc, .slice wa p.wires.length wc]] w fun e w' => e = .returned (wErr (fchk p.ticks p.spans).2) ∧ Below w.heap.size w w' := by
  have h5i : decide ((5 : Int) < (p.code.length : Int)) = false := decide_eq_false (by omega)
  have h5n : decide (5 < p.code.length) = false := decide_eq_false (by omega)
  have h0i : ¬ ((p.code.length : Int) = 0) := by omega
  have hx0 := Bx.first w (.slice ca p.code.length cc) p.ticks (.slice sa p.spans.length sc) (.slice wa p.wires.length wc)
  have q1 := fcheck_any p.ticks p.spans _ _ (hp.spans.all hx0.below)
  rw [fErr_w, wErr_not h3] at q1
  rw [wErr_not h3]
  generalize (fchk p.ticks p.spans).2 = z at q1
  generalize (fchk p.ticks p.spans).1 = y at q1
  clear hp h1 h2 h3
  go_enter Tryd.func30, Tryd.ntmps30
  go_wp2_with (go_at_call 52; refine q1.mono ?_; rintro e w1 ⟨rfl, b1⟩; clear q1)
  go_ret
  exact ⟨rfl, hx0.below.trans (b1.mono hx0.below.size)⟩
set_option maxRecDepth 100000 in
set_option maxHeartbeats 2000000 in
theorem plcheck_wires (hp : Pln w (.slice ca p.code.length cc) (.slice sa p.spans.length sc) (.slice wa p.wires.length wc) p) (h1 : p.code.length ≤ 5) (h2 : p.code.length ≠ 0) (h3 : (fchk p.ticks p.spans).2 = 0) (h4 : (wschk p.wires).2 ≠ 0) : Calls Tryd.prog 30 #[.agg #[.slice ca p.code.length cc, .int .i64 p.ticks, .slice sa p.spans.length sc, .slice wa p.wires.length wc]] w fun e w' => e = .returned (wErr (wschk p.wires).2) ∧ Below w.heap.size w w' := by
  have h5i : decide ((5 : Int) < (p.code.length : Int)) = false := decide_eq_false (by omega)
  have h5n : decide (5 < p.code.length) = false := decide_eq_false (by omega)
  have h0i : ¬ ((p.code.length : Int) = 0) := by omega
  have hx0 := Bx.first w (.slice ca p.code.length cc) p.ticks (.slice sa p.spans.length sc) (.slice wa p.wires.length wc)
  have q1 := fcheck_any p.ticks p.spans _ _ (hp.spans.all hx0.below)
  rw [h3, show fErr 0 = .nilIface from rfl] at q1
  have HQ : Hid (∀ W, Below w.heap.size w W → Calls Tryd.prog 53 #[.slice wa p.wires.length wc] W fun e w' => e = .returned (.tuple #[.int .i64 (wschk p.wires).1, .iface 87 (.int .i64 (wschk p.wires).2)]) ∧ Below W.heap.size W w') := fun W hb => by
    have := flcheck_any p.wires _ W (hp.wires.all hb)
    rw [wErr_not h4] at this
    exact this
  rw [wErr_not h4]
  generalize (wschk p.wires).2 = z at HQ
  generalize (wschk p.wires).1 = y at HQ
  generalize (fchk p.ticks p.spans).1 = x at q1
  clear hp h1 h2 h3 h4
  go_enter Tryd.func30, Tryd.ntmps30
  go_wp2_with (first
    | (go_at_call 52; refine q1.mono ?_; rintro e w1 ⟨rfl, b1⟩; clear q1; have hx1 := hx0.step b1; have k3 := hx1.c3; have q2 := HQ.out w1 hx1.below)
    | (go_at_call 53; refine q2.mono ?_; rintro e w2 ⟨rfl, b2⟩; clear q2))
  go_ret
  exact ⟨rfl, hx1.below.trans (b2.mono hx1.below.size)⟩
/-- Frame and wires are right: what namesMore answers. -/
theorem more_of (hp : Pln w (.slice ca p.code.length cc) (.slice sa p.spans.length sc) (.slice wa p.wires.length wc) p) (h3 : (fchk p.ticks p.spans).2 = 0) (h4 : (wschk p.wires).2 = 0) :
    (∀ W, Below w.heap.size w W → Calls Tryd.prog 52 #[.int .i64 p.ticks, .slice sa p.spans.length sc] W fun e w' => ∃ y : Int, e = .returned (.tuple #[.int .i64 y, .nilIface]) ∧ Below W.heap.size W w') ∧
    (∀ W, Below w.heap.size w W → Calls Tryd.prog 53 #[.slice wa p.wires.length wc] W fun e w' => ∃ y : Int, e = .returned (.tuple #[.int .i64 y, .nilIface]) ∧ Below W.heap.size W w') ∧
    ∀ W, Below w.heap.size w W → Calls Tryd.prog 54 #[.agg #[.slice ca p.code.length cc, .int .i64 p.ticks, .slice sa p.spans.length sc, .slice wa p.wires.length wc]] W fun e w' => e = .returned (.bool (p.spans.any (spanOut p.code.length) || p.wires.any (wireOut p.code.length))) ∧ Below W.heap.size W w' := by
  refine ⟨fun W hb => ?_, fun W hb => ?_, fun W hb => namesmore_any p _ _ _ W (hp.all hb) (fchk_zero h3).2.2.1 (wschk_ok h4).1⟩
  · refine (fcheck_any p.ticks p.spans _ W (hp.spans.all hb)).mono ?_
    rintro e w' ⟨rfl, h⟩
    exact ⟨_, by rw [h3]; rfl, h⟩
  · refine (flcheck_any p.wires _ W (hp.wires.all hb)).mono ?_
    rintro e w' ⟨rfl, h⟩
    exact ⟨_, by rw [h4]; rfl, h⟩
set_option maxRecDepth 100000 in
set_option maxHeartbeats 2000000 in
theorem plcheck_more (hp : Pln w (.slice ca p.code.length cc) (.slice sa p.spans.length sc) (.slice wa p.wires.length wc) p) (h1 : p.code.length ≤ 5) (h2 : p.code.length ≠ 0) (h3 : (fchk p.ticks p.spans).2 = 0) (h4 : (wschk p.wires).2 = 0) (h5 : (p.spans.any (spanOut p.code.length) || p.wires.any (wireOut p.code.length)) = true) : Calls Tryd.prog 30 #[.agg #[.slice ca p.code.length cc, .int .i64 p.ticks, .slice sa p.spans.length sc, .slice wa p.wires.length wc]] w fun e w' => e = .returned (wErr 1) ∧ Below w.heap.size w w' := by
  have h5i : decide ((5 : Int) < (p.code.length : Int)) = false := decide_eq_false (by omega)
  have h5n : decide (5 < p.code.length) = false := decide_eq_false (by omega)
  have h0i : ¬ ((p.code.length : Int) = 0) := by omega
  have hx0 := Bx.first w (.slice ca p.code.length cc) p.ticks (.slice sa p.spans.length sc) (.slice wa p.wires.length wc)
  obtain ⟨m1, m2, m3⟩ := more_of p ca sa wa cc sc wc w hp h3 h4
  rw [h5] at m3
  have q1 := m1 _ hx0.below
  have M2 : Hid (∀ W, Below w.heap.size w W → Calls Tryd.prog 53 #[.slice wa p.wires.length wc] W fun e w' => ∃ y : Int, e = .returned (.tuple #[.int .i64 y, .nilIface]) ∧ Below W.heap.size W w') := m2
  have M3 : Hid (∀ W, Below w.heap.size w W → Calls Tryd.prog 54 #[.agg #[.slice ca p.code.length cc, .int .i64 p.ticks, .slice sa p.spans.length sc, .slice wa p.wires.length wc]] W fun e w' => e = .returned (.bool true) ∧ Below W.heap.size W w') := m3
  clear hp h1 h2 h3 h4 h5 m1 m2 m3
  go_enter Tryd.func30, Tryd.ntmps30
  go_wp2_with (first
    | (go_at_call 52; refine q1.mono ?_; rintro e w1 ⟨y1, rfl, b1⟩; clear q1; have hx1 := hx0.step b1; have k3 := hx1.c3; have q2 := M2.out w1 hx1.below)
    | (go_at_call 53; refine q2.mono ?_; rintro e w2 ⟨y2, rfl, b2⟩; clear q2 k3; have hx2 := hx1.step b2; have j0 := hx2.c0; have j1 := hx2.c1; have j2 := hx2.c2; have j3 := hx2.c3; have q3 := M3.out w2 hx2.below)
    | (go_at_call 54; refine q3.mono ?_; rintro e w3 ⟨rfl, b3⟩; clear q3))
  go_ret
  exact ⟨rfl, hx2.below.trans (b3.mono hx2.below.size)⟩
end
theorem roomE_ok {ws : List W4} {i : Nat} {c : List O3} (h : (chk c).2 = 0) : roomE ws i c = if portsB ws i c = true then 3 else 0 := by
  unfold roomE
  rw [if_neg (by simpa using h)]
set_option maxRecDepth 100000 in
set_option maxHeartbeats 8000000 in
/-- checkCodes: first each code by itself, then each with the wires. -/
theorem codes_any (p : PD) (ca sa wa : Option Addr) (cc sc wc : Nat) (w : World) (hf : Forms w) (hp : Pln w (.slice ca p.code.length cc) (.slice sa p.spans.length sc) (.slice wa p.wires.length wc) p) (h1 : p.code.length ≤ 5) : Calls Tryd.prog 55 #[.agg #[.slice ca p.code.length cc, .int .i64 p.ticks, .slice sa p.spans.length sc, .slice wa p.wires.length wc]] w fun e w' => e = .returned (wErr (if codesE p.code ≠ 0 then codesE p.code else if portsAny p.wires 0 p.code = true then 3 else 0)) ∧ Below w.heap.size w w' := by
  have hx0 := Bx.first w (.slice ca p.code.length cc) p.ticks (.slice sa p.spans.length sc) (.slice wa p.wires.length wc)
  have i0 := hx0.c0
  have HP : Hid (Pln w (.slice ca p.code.length cc) (.slice sa p.spans.length sc) (.slice wa p.wires.length wc) p) := hp
  have HF : Hid (Forms w) := hf
  obtain ⟨E, hE⟩ : ∃ E, E = if codesE p.code ≠ 0 then codesE p.code else if portsAny p.wires 0 p.code = true then 3 else 0 := ⟨_, rfl⟩
  have HE : Hid (E = if codesE p.code ≠ 0 then codesE p.code else if portsAny p.wires 0 p.code = true then 3 else 0) := hE
  rw [← hE]
  clear hp hf hE
  go_enter Tryd.func55, Tryd.ntmps55
  go_wp2
  go_loopw [13] (fun i wr => ∃ k : Nat, k ≤ p.code.length ∧ i = .int .i64 k ∧ Hid (∀ (j : Nat) c, j < k → p.code[j]? = some c → (chk c).2 = 0) ∧ Bx w wr (.slice ca p.code.length cc) p.ticks (.slice sa p.spans.length sc) (.slice wa p.wires.length wc)) (fun i _ => p.code.length - (intOf i).toNat)
  case atStart => exact ⟨0, Nat.zero_le _, rfl, fun j c hj => by omega, hx0⟩
  case round =>
  clear hx0 i0
  obtain ⟨k, hk, rfl, HS, hx⟩ := hrel
  by_cases hkl : k < p.code.length
  · have hki : (k : Int) < (p.code.length : Int) := by omega
    obtain ⟨b, off, u, n, g, c, rfl, hlt, hy, d0, rfl, hops⟩ := HP.out.code.at hkl
    replace d0 := (hx.below.cell (p := ⟨b, _, none⟩) hlt).trans d0
    have HY : Hid (p.code[k]? = some c) := hy
    clear hy
    have qc := check_any _ c wr (HF.out.all hx.below) (hops.all hx.below)
    rw [errV_w] at qc
    by_cases hc0 : (chk c).2 = 0
    · rw [hc0, show wErr 0 = .nilIface from rfl] at qc
      have HC : Hid ((chk c).2 = 0) := hc0
      clear hc0 hops
      generalize (chk c).1 = y at qc
      go_wp2_with (go_at_call 81; refine qc.mono ?_; rintro e w4 ⟨rfl, b4⟩; clear qc)
      go_roundw
      case rel => exact ⟨k + 1, by omega, by go_num, fun j c' hj hc' => by
        by_cases hjk : j < k
        · exact HS.out j c' hjk hc'
        · obtain rfl : j = k := by omega
          rw [HY.out] at hc'
          obtain rfl := Option.some.inj hc'
          exact HC.out, hx.step b4⟩
      case measure => simp [intOf]; omega
    · have HX : Hid (E = (chk c).2) := by
        show _ = _
        have e := codesE_hit HS.out HY.out hc0
        rw [HE.out, e, if_pos hc0]
      have HZ : Hid (wErr (chk c).2 = .iface 87 (.int .i64 (chk c).2)) := wErr_not hc0
      rw [wErr_not hc0] at qc
      clear hc0 hops
      generalize (chk c).1 = y at qc
      generalize (chk c).2 = z at qc HX HZ
      go_wp2_with (go_at_call 81; refine qc.mono ?_; rintro e w4 ⟨rfl, b4⟩; clear qc)
      go_ret
      rw [HX.out, HZ.out]
      exact ⟨rfl, (hx.step b4).below⟩
  have hki : decide ((k : Int) < (p.code.length : Int)) = false := decide_eq_false (by omega)
  have hkn : decide (k < p.code.length) = false := decide_eq_false (by omega)
  have HE2 : Hid (E = if portsAny p.wires 0 p.code = true then 3 else 0) := by
    show _ = _
    have e := codesE_ok (l := p.code) (fun j c hj hc => HS.out j c (by omega) hc)
    rw [HE.out, e]
    rfl
  have HCK : Hid (∀ (j : Nat) c, p.code[j]? = some c → (chk c).2 = 0) := fun j c hc => HS.out j c (by have := (List.getElem?_eq_some_iff.1 hc).1; omega) hc
  have k0 := hx.c0
  clear HS HE hkl hk
  go_wp2
  rename World => wo
  go_loopw [29] (fun i wr => ∃ k : Nat, k ≤ p.code.length ∧ i = .int .i64 k ∧ Hid (∀ (j : Nat) c, j < k → p.code[j]? = some c → portsB p.wires j c = false) ∧ Bx w wr (.slice ca p.code.length cc) p.ticks (.slice sa p.spans.length sc) (.slice wa p.wires.length wc)) (fun i _ => p.code.length - (intOf i).toNat)
  case atStart => exact ⟨0, Nat.zero_le _, rfl, fun j c hj => by omega, hx⟩
  case round =>
  clear hx k0 hki hkn
  obtain ⟨k, hk, rfl, HS, hx⟩ := hrel
  have k3 := hx.c3
  by_cases hkl : k < p.code.length
  · have hki : (k : Int) < (p.code.length : Int) := by omega
    obtain ⟨b, off, u, n, g, c, rfl, hlt, hy, d0, rfl, hops⟩ := HP.out.code.at hkl
    replace d0 := (hx.below.cell (p := ⟨b, _, none⟩) hlt).trans d0
    have HY : Hid (p.code[k]? = some c) := hy
    have hck := HCK.out k c hy
    clear hy
    have qc := checkroom_any p.wires c k _ _ wr (HF.out.all hx.below) (hops.all hx.below) (HP.out.wires.all hx.below)
    rw [roomE_ok hck] at qc
    clear hck hops
    cases hpb : portsB p.wires k c with
    | false =>
      rw [hpb, if_neg (by decide), show wErr 0 = .nilIface from rfl] at qc
      have HN : Hid (portsB p.wires k c = false) := hpb
      clear hpb
      go_wp2_with (go_at_call 82; refine qc.mono ?_; rintro e w4 ⟨rfl, b4⟩; clear qc)
      go_roundw
      case rel => exact ⟨k + 1, by omega, by go_num, ports_next HS.out HY.out HN.out, hx.step b4⟩
      case measure => simp [intOf]; omega
    | true =>
      rw [hpb, if_pos rfl, show wErr 3 = .iface 87 (.int .i64 3) from rfl] at qc
      have HX : Hid (E = 3) := by show _ = _; rw [HE2.out, portsAny_hit HS.out HY.out hpb, if_pos rfl]
      clear hpb
      go_wp2_with (go_at_call 82; refine qc.mono ?_; rintro e w4 ⟨rfl, b4⟩; clear qc)
      go_ret
      rw [HX.out]
      exact ⟨rfl, (hx.step b4).below⟩
  have hki : decide ((k : Int) < (p.code.length : Int)) = false := decide_eq_false (by omega)
  have hkn : decide (k < p.code.length) = false := decide_eq_false (by omega)
  have HX : Hid (E = 0) := by
    show _ = _
    have e := portsAny_ok (ws := p.wires) (l := p.code) (fun j c hj hc => HS.out j c (by omega) hc)
    rw [HE2.out, e]
    rfl
  clear HS
  go_wp2
  go_ret
  rw [HX.out]
  exact ⟨rfl, hx.below⟩
set_option maxRecDepth 100000 in
set_option maxHeartbeats 2000000 in
theorem plcheck_codes (p : PD) (ca sa wa : Option Addr) (cc sc wc : Nat) (w : World) (hf : Forms w) (hp : Pln w (.slice ca p.code.length cc) (.slice sa p.spans.length sc) (.slice wa p.wires.length wc) p) (h1 : p.code.length ≤ 5) (h2 : p.code.length ≠ 0) (h3 : (fchk p.ticks p.spans).2 = 0) (h4 : (wschk p.wires).2 = 0) (h5 : (p.spans.any (spanOut p.code.length) || p.wires.any (wireOut p.code.length)) = false) : Calls Tryd.prog 30 #[.agg #[.slice ca p.code.length cc, .int .i64 p.ticks, .slice sa p.spans.length sc, .slice wa p.wires.length wc]] w fun e w' => e = .returned (wErr (if codesE p.code ≠ 0 then codesE p.code else if portsAny p.wires 0 p.code = true then 3 else 0)) ∧ Below w.heap.size w w' := by
  have h5i : decide ((5 : Int) < (p.code.length : Int)) = false := decide_eq_false (by omega)
  have h5n : decide (5 < p.code.length) = false := decide_eq_false (by omega)
  have h0i : ¬ ((p.code.length : Int) = 0) := by omega
  have hx0 := Bx.first w (.slice ca p.code.length cc) p.ticks (.slice sa p.spans.length sc) (.slice wa p.wires.length wc)
  obtain ⟨m1, m2, m3⟩ := more_of p ca sa wa cc sc wc w hp h3 h4
  rw [h5] at m3
  have q1 := m1 _ hx0.below
  have M2 : Hid (∀ W, Below w.heap.size w W → Calls Tryd.prog 53 #[.slice wa p.wires.length wc] W fun e w' => ∃ y : Int, e = .returned (.tuple #[.int .i64 y, .nilIface]) ∧ Below W.heap.size W w') := m2
  have M3 : Hid (∀ W, Below w.heap.size w W → Calls Tryd.prog 54 #[.agg #[.slice ca p.code.length cc, .int .i64 p.ticks, .slice sa p.spans.length sc, .slice wa p.wires.length wc]] W fun e w' => e = .returned (.bool false) ∧ Below W.heap.size W w') := m3
  have M4 : Hid (∀ W, Below w.heap.size w W → Calls Tryd.prog 55 #[.agg #[.slice ca p.code.length cc, .int .i64 p.ticks, .slice sa p.spans.length sc, .slice wa p.wires.length wc]] W fun e w' => e = .returned (wErr (if codesE p.code ≠ 0 then codesE p.code else if portsAny p.wires 0 p.code = true then 3 else 0)) ∧ Below W.heap.size W w') := fun W hb => codes_any p ca sa wa cc sc wc W (hf.all hb) (hp.all hb) h1
  generalize (if codesE p.code ≠ 0 then codesE p.code else if portsAny p.wires 0 p.code = true then 3 else 0) = E at M4 ⊢
  generalize wErr E = V at M4 ⊢
  clear hp hf h2 h3 h4 h5 m1 m2 m3
  go_enter Tryd.func30, Tryd.ntmps30
  go_wp2_with (first
    | (go_at_call 52; refine q1.mono ?_; rintro e w1 ⟨y1, rfl, b1⟩; clear q1; have hx1 := hx0.step b1; have k3 := hx1.c3; have q2 := M2.out w1 hx1.below)
    | (go_at_call 53; refine q2.mono ?_; rintro e w2 ⟨y2, rfl, b2⟩; clear q2 k3; have hx2 := hx1.step b2; have j0 := hx2.c0; have j1 := hx2.c1; have j2 := hx2.c2; have j3 := hx2.c3; have q3 := M3.out w2 hx2.below)
    | (go_at_call 54; refine q3.mono ?_; rintro e w3 ⟨rfl, b3⟩; clear q3 j0 j1 j2 j3; have hx3 := hx2.step b3; have i0 := hx3.c0; have i1 := hx3.c1; have i2 := hx3.c2; have i3 := hx3.c3; have q4 := M4.out w3 hx3.below)
    | (go_at_call 55; refine q4.mono ?_; rintro e w4 ⟨rfl, b4⟩; clear q4))
  go_ret
  exact ⟨rfl, hx3.below.trans (b4.mono hx3.below.size)⟩
theorem plcheck_any (p : PD) (vc vs vw : Value) (w : World) (hf : Forms w) (hp : Pln w vc vs vw p) :
    Calls Tryd.prog 30 #[plV vc p.ticks vs vw] w fun e w' => e = .returned (wErr (plchk p)) ∧ Below w.heap.size w w' := by
  obtain ⟨ca, cc, rfl⟩ := hp.code.form
  obtain ⟨sa, sc, rfl⟩ := hp.spans.form
  obtain ⟨wa, wc, rfl⟩ := hp.wires.form
  by_cases h1 : 5 < p.code.length
  · rw [plchk_long h1]
    exact plcheck_long p ca sa wa cc sc wc w h1
  by_cases h2 : p.code.length = 0
  · rw [plchk_none h2]
    exact plcheck_none p ca sa wa cc sc wc w h2
  have h1' : p.code.length ≤ 5 := by omega
  by_cases h3 : (fchk p.ticks p.spans).2 = 0
  · by_cases h4 : (wschk p.wires).2 = 0
    · cases h5 : p.spans.any (spanOut p.code.length) with
      | true =>
        rw [plchk_span h1' h2 h3 h4 h5]
        exact plcheck_more p ca sa wa cc sc wc w hp h1' h2 h3 h4 (by rw [h5]; rfl)
      | false =>
        cases h6 : p.wires.any (wireOut p.code.length) with
        | true =>
          rw [plchk_wire h1' h2 h3 h4 h5 h6]
          exact plcheck_more p ca sa wa cc sc wc w hp h1' h2 h3 h4 (by rw [h5, h6]; rfl)
        | false =>
          rw [plchk_tail h1' h2 h3 h4 h5 h6]
          exact plcheck_codes p ca sa wa cc sc wc w hf hp h1' h2 h3 h4 (by rw [h5, h6]; rfl)
    · rw [plchk_wires h1' h2 h3 h4]
      exact plcheck_wires p ca sa wa cc sc wc w hp h1' h2 h3 h4
  · rw [plchk_frame h1' h2 h3]
    exact plcheck_frame p ca sa wa cc sc wc w hp h1' h2 h3
end Go.Proofs.YtajfgmlockjmhafDoor
namespace Go.Proofs.YtajfgmlockjmhafDoor
open Go.RowKit

theorem ahd_has (l : List W4) (b : Nat) (i : Nat) : ∀ k, (ahd l b k).contains (i : Int) = (decide (i < k) && way l i b)
  | 0 => by simp [ahd]
  | k + 1 => by
    have ih := ahd_has l b i k
    rw [ahd]
    by_cases hik : i = k
    · subst hik
      rw [Bool.eq_iff_iff, List.contains_iff_mem]
      rw [Bool.eq_iff_iff, List.contains_iff_mem] at ih
      simp only [Nat.lt_irrefl, decide_false, Bool.false_and, Bool.false_eq_true, iff_false] at ih
      split
      · rename_i h
        simp [h]
      · rename_i h
        simp only [Bool.not_eq_true] at h
        simp [h, ih]
    · have hne : ¬ ((i : Int) = (k : Int)) := by omega
      have hd : decide (i < k + 1) = decide (i < k) := by
        by_cases h : i < k
        · simp [h, show i < k + 1 by omega]
        · simp [h, show ¬ i < k + 1 by omega]
      rw [hd, ← ih]
      split
      · rw [Bool.eq_iff_iff, List.contains_iff_mem, List.contains_iff_mem]
        simp [hne]
      · rfl
theorem ahd_some (l : List W4) (b : Nat) (hb : b < 5) : (ahd l b 5).length ≠ 0 := fun h => by
  have := ahd_has l b b 5
  rw [List.eq_nil_of_length_eq_zero h, way_self] at this
  simp [hb] at this
/-- A plan's code of its own that is being purged: so many rooms so far; only its row of codes is written. -/
structure QC (B0 : Nat) (W0 W : World) (p : PD) (R : Nat → Bool) (g k : Nat) : Prop where
  b0 : B0 ≤ W0.heap.size
  tk : KTouch [g] W0 W
  gl : g < W0.heap.size
  row : ∀ (i : Nat) c, p.code[i]? = some c → ∃ u, W.cell? ⟨g, i, none⟩ = some u ∧ Ops W u (if i < k ∧ R i = false then restC else c) ∧ ∀ b, u.ownBlock = some b → b ≠ g ∧ B0 ≤ b
  fz : ∀ o, W.frozen? ⟨g, o, none⟩ = false
theorem QC.keep {B0 : Nat} {W0 W : World} {p : PD} {R : Nat → Bool} {g k : Nat} (h : QC B0 W0 W p R g k) (hk : R k = true) : QC B0 W0 W p R g (k + 1) :=
  ⟨h.b0, h.tk, h.gl, fun i c hc => by
    obtain ⟨u, h1, h2, h3⟩ := h.row i c hc
    refine ⟨u, h1, ?_, h3⟩
    have e : (i < k + 1 ∧ R i = false) ↔ (i < k ∧ R i = false) := by
      constructor
      · rintro ⟨a, b⟩
        refine ⟨?_, b⟩
        rcases Nat.lt_or_ge i k with h | h
        · exact h
        · obtain rfl : i = k := by omega
          rw [hk] at b
          cases b
      · rintro ⟨a, b⟩
        exact ⟨by omega, b⟩
    simp only [e]
    exact h2, h.fz⟩
theorem QC.rest {B0 : Nat} {W0 W : World} {p : PD} {R : Nat → Bool} {g k : Nat} (h : QC B0 W0 W p R g k) (hk : R k = false) : QC B0 W0 ((W.alloc (.cells #[.int .i64 10, .int .i64 0, .int .i64 0] 57)).setCell ⟨g, k, none⟩ (.slice (some ⟨W.heap.size, 0, none⟩) 1 1)) p R g (k + 1) := by
  have hgW : g < W.heap.size := Nat.lt_of_lt_of_le h.gl h.tk.size
  have b1 : Below W.heap.size W (W.alloc (.cells #[.int .i64 10, .int .i64 0, .int .i64 0] 57)) := (Below.refl _ _).alloc (Nat.le_refl _) _
  have hbl : ∀ b, b ≠ g → ((W.alloc (.cells #[.int .i64 10, .int .i64 0, .int .i64 0] 57)).setCell ⟨g, k, none⟩ (.slice (some ⟨W.heap.size, 0, none⟩) 1 1)).heap[b]? = (W.alloc (.cells #[.int .i64 10, .int .i64 0, .int .i64 0] 57)).heap[b]? := fun b hb => Below.heap_setCell _ _ _ _ hb
  have hfz : ∀ o, (W.alloc (.cells #[.int .i64 10, .int .i64 0, .int .i64 0] 57)).frozen? ⟨g, o, none⟩ = false := fun o => (World.frozen?_of_block (w := W) (a := ⟨g, o, none⟩) (b1.block g hgW)).trans (h.fz o)
  refine ⟨h.b0, h.tk.trans ((KTouch.of b1).trans (KTouch.set _ (by simp) _ _)), h.gl, fun i c hc => ?_, fun o => by simpa using hfz o⟩
  obtain ⟨u, h1, h2, h3⟩ := h.row i c hc
  have h1' := (b1.cell (p := ⟨g, i, none⟩) hgW).trans h1
  by_cases hik : i = k
  · subst hik
    refine ⟨.slice (some ⟨W.heap.size, 0, none⟩) 1 1, by simp [go_sem, h1'], ?_, fun b hb => ?_⟩
    · rw [if_pos ⟨by omega, hk⟩]
      exact (rest_ops rfl).block (fun b _ hb => hbl b (fun e => by simp [Value.ownBlock] at hb; omega)) (by simp)
    · simp [Value.ownBlock] at hb
      have h4 := h.tk.size
      have h5 := h.b0
      omega
  · refine ⟨u, (setCell_far (by omega)).trans h1', ?_, h3⟩
    have e : (i < k + 1 ∧ R i = false) ↔ (i < k ∧ R i = false) := ⟨fun ⟨a, b⟩ => ⟨by omega, b⟩, fun ⟨a, b⟩ => ⟨by omega, b⟩⟩
    simp only [e]
    exact (h2.all b1).block (fun b _ hb => hbl b (h3 b hb).1) (by simp)
/-- All of them. -/
theorem QC.cds {B0 : Nat} {W0 W W' : World} {p : PD} {R : Nat → Bool} {g cap : Nat} (h : QC B0 W0 W p R g p.code.length) (hcap : p.code.length ≤ cap) {M : List Nat} (ht : KTouch M W W') (hM : ∀ m ∈ M, m ≠ g ∧ m < B0) : Cds W' (.slice (some ⟨g, 0, none⟩) p.code.length cap) (purgeC R 0 p.code) := by
  have hlen : (purgeC R 0 p.code).length = p.code.length := purgeC_len ..
  have hgW : g < W.heap.size := Nat.lt_of_lt_of_le h.gl h.tk.size
  refine Or.inr ⟨g, 0, cap, by rw [hlen], by rw [hlen]; exact hcap, Nat.lt_of_lt_of_le hgW ht.size, fun i d hd => ?_⟩
  rw [purgeC_at] at hd
  obtain ⟨c, hc, hcd⟩ := Option.map_eq_some_iff.1 hd
  obtain ⟨u, h1, h2, h3⟩ := h.row i c hc
  have hil := (List.getElem?_eq_some_iff.1 hc).1
  refine ⟨u, ?_, ?_⟩
  · rw [Nat.zero_add]
    exact (World.cell?_of_block (w := W) (a := ⟨g, i, none⟩) (ht.block g hgW (fun hm => (hM g hm).1 rfl))).trans h1
  · have e : (if R (0 + i) = true then c else restC) = (if i < p.code.length ∧ R i = false then restC else c) := by
      rw [Nat.zero_add]
      cases hR : R i <;> simp [hil]
    rw [← hcd, e]
    exact h2.block (fun b hb he => ht.block b hb (fun hm => by have h4 := (hM b hm).2; have h5 := (h3 b he).2; omega)) ht.size
set_option maxRecDepth 100000 in
set_option maxHeartbeats 4000000 in
theorem pg_no (p : PD) (vc vs vw : Value) (r : Int) (w : World) (hfm : Forms w) (hP : Pln w vc vs vw p) (hp : plchk p ≠ 0) :
    Calls Tryd.prog 19 #[plV vc p.ticks vs vw, .int .i64 r] w fun e w' => e = .returned (.tuple #[plV (.slice none 0 0) 0 (.slice none 0 0) (.slice none 0 0), wErr (plchk p)]) ∧ Below w.heap.size w w' := by
  obtain ⟨ca, cc, rfl⟩ := hP.code.form
  obtain ⟨sa, sc, rfl⟩ := hP.spans.form
  obtain ⟨wa, wc', rfl⟩ := hP.wires.form
  have hx0 := Bx.first w (.slice ca p.code.length cc) p.ticks (.slice sa p.spans.length sc) (.slice wa p.wires.length wc')
  have hA0 : Below (w.heap.size + 1) (w.alloc (.cells #[.slice ca p.code.length cc, .int .i64 p.ticks, .slice sa p.spans.length sc, .slice wa p.wires.length wc'] 26)) ((w.alloc (.cells #[.slice ca p.code.length cc, .int .i64 p.ticks, .slice sa p.spans.length sc, .slice wa p.wires.length wc'] 26)).alloc (.cells #[.slice none 0 0, .int .i64 0, .slice none 0 0, .slice none 0 0] 26)) := (Below.refl _ _).alloc (by simp) _
  generalize hWA : (w.alloc (.cells #[.slice ca p.code.length cc, .int .i64 p.ticks, .slice sa p.spans.length sc, .slice wa p.wires.length wc'] 26)).alloc (.cells #[.slice none 0 0, .int .i64 0, .slice none 0 0, .slice none 0 0] 26) = WA at hA0
  have hx1 : Bx w WA (.slice ca p.code.length cc) p.ticks (.slice sa p.spans.length sc) (.slice wa p.wires.length wc') := hA0
  have hsA : WA.heap.size = w.heap.size + 2 := by rw [← hWA]; simp
  have hZ : WA.heap[w.heap.size + 1]? = some (.cells #[.slice none 0 0, .int .i64 0, .slice none 0 0, .slice none 0 0] 26 (0, 0)) := by
    have h := World.alloc_heap_new (w.alloc (.cells #[.slice ca p.code.length cc, .int .i64 p.ticks, .slice sa p.spans.length sc, .slice wa p.wires.length wc'] 26)) (.cells #[.slice none 0 0, .int .i64 0, .slice none 0 0, .slice none 0 0] 26)
    rw [hWA, World.size_alloc] at h
    exact h
  have HZ : Hid (WA.heap[w.heap.size + 1]? = some (.cells #[.slice none 0 0, .int .i64 0, .slice none 0 0, .slice none 0 0] 26 (0, 0))) := hZ
  clear hZ
  have hc := plcheck_any p _ _ _ _ (hfm.all hx1.below) (hP.all hx1.below)
  unfold plV at hc ⊢
  rw [wErr_not hp] at hc ⊢
  generalize plchk p = ec at hc hp ⊢
  have k0 := hx1.c0
  have k1 := hx1.c1
  have k2 := hx1.c2
  have k3 := hx1.c3
  clear hP hfm hx0 hA0
  go_enter Tryd.func19, Tryd.ntmps19
  go_upto_region 1 with fail
  clear hWA
  go_wp2_with (go_at_call 30; refine hc.mono ?_; rintro e w1 ⟨rfl, b1⟩; clear hc; obtain ⟨z0, z1, z2, z3, y0, y1, y2, y3⟩ := blk4_cs ((b1.block (w.heap.size + 1) (by omega)).trans HZ.out))
  refine bodyPost_ret (v := .tuple #[.agg #[.slice none 0 0, .int .i64 0, .slice none 0 0, .slice none 0 0], .iface 87 (.int .i64 ec)]) ?_ rfl ⟨rfl, ?_⟩
  · simp [results, Tryd.results19, go_sem, z0, z1, z2, z3]
  · exact set4_below (hx1.step b1).below (w.heap.size + 1) (by omega) _ _ _ _
set_option maxRecDepth 100000 in
set_option maxHeartbeats 4000000 in
theorem pg_out (p : PD) (vc vs vw : Value) (r : Int) (w : World) (hfm : Forms w) (hP : Pln w vc vs vw p) (hp : plchk p = 0) (hr : r < 0 ∨ (p.code.length : Int) ≤ r) :
    Calls Tryd.prog 19 #[plV vc p.ticks vs vw, .int .i64 r] w fun e w' => e = .returned (.tuple #[plV (.slice none 0 0) 0 (.slice none 0 0) (.slice none 0 0), wErr 1]) ∧ Below w.heap.size w w' := by
  obtain ⟨ca, cc, rfl⟩ := hP.code.form
  obtain ⟨sa, sc, rfl⟩ := hP.spans.form
  obtain ⟨wa, wc', rfl⟩ := hP.wires.form
  have hx0 := Bx.first w (.slice ca p.code.length cc) p.ticks (.slice sa p.spans.length sc) (.slice wa p.wires.length wc')
  have hA0 : Below (w.heap.size + 1) (w.alloc (.cells #[.slice ca p.code.length cc, .int .i64 p.ticks, .slice sa p.spans.length sc, .slice wa p.wires.length wc'] 26)) ((w.alloc (.cells #[.slice ca p.code.length cc, .int .i64 p.ticks, .slice sa p.spans.length sc, .slice wa p.wires.length wc'] 26)).alloc (.cells #[.slice none 0 0, .int .i64 0, .slice none 0 0, .slice none 0 0] 26)) := (Below.refl _ _).alloc (by simp) _
  generalize hWA : (w.alloc (.cells #[.slice ca p.code.length cc, .int .i64 p.ticks, .slice sa p.spans.length sc, .slice wa p.wires.length wc'] 26)).alloc (.cells #[.slice none 0 0, .int .i64 0, .slice none 0 0, .slice none 0 0] 26) = WA at hA0
  have hx1 : Bx w WA (.slice ca p.code.length cc) p.ticks (.slice sa p.spans.length sc) (.slice wa p.wires.length wc') := hA0
  have hsA : WA.heap.size = w.heap.size + 2 := by rw [← hWA]; simp
  have hZ : WA.heap[w.heap.size + 1]? = some (.cells #[.slice none 0 0, .int .i64 0, .slice none 0 0, .slice none 0 0] 26 (0, 0)) := by
    have h := World.alloc_heap_new (w.alloc (.cells #[.slice ca p.code.length cc, .int .i64 p.ticks, .slice sa p.spans.length sc, .slice wa p.wires.length wc'] 26)) (.cells #[.slice none 0 0, .int .i64 0, .slice none 0 0, .slice none 0 0] 26)
    rw [hWA, World.size_alloc] at h
    exact h
  have HZ : Hid (WA.heap[w.heap.size + 1]? = some (.cells #[.slice none 0 0, .int .i64 0, .slice none 0 0, .slice none 0 0] 26 (0, 0))) := hZ
  clear hZ
  have hc := plcheck_any p _ _ _ _ (hfm.all hx1.below) (hP.all hx1.below)
  rw [hp] at hc
  unfold plV at hc ⊢
  unfold wErr at hc ⊢
  have hcase : decide (r < 0) = true ∨ (decide (r < 0) = false ∧ decide ((p.code.length : Int) ≤ r) = true) := by
    by_cases h : r < 0
    · exact Or.inl (decide_eq_true h)
    · exact Or.inr ⟨decide_eq_false h, decide_eq_true (hr.resolve_left h)⟩
  have k0 := hx1.c0
  have k1 := hx1.c1
  have k2 := hx1.c2
  have k3 := hx1.c3
  clear hP hfm hx0 hA0 hr hp
  rcases hcase with h1 | ⟨h1, h2⟩
  · go_enter Tryd.func19, Tryd.ntmps19
    go_upto_region 1 with fail
    clear hWA
    go_wp2_with (go_at_call 30; refine hc.mono ?_; rintro e w1 ⟨rfl, b1⟩; clear hc; obtain ⟨z0, z1, z2, z3, y0, y1, y2, y3⟩ := blk4_cs ((b1.block (w.heap.size + 1) (by omega)).trans HZ.out); have hx2 := hx1.step b1; replace k0 := hx2.c0; replace k1 := hx2.c1; replace k2 := hx2.c2; replace k3 := hx2.c3)
    refine bodyPost_ret (v := .tuple #[.agg #[.slice none 0 0, .int .i64 0, .slice none 0 0, .slice none 0 0], .iface 87 (.int .i64 1)]) ?_ rfl ⟨rfl, ?_⟩
    · simp [results, Tryd.results19, go_sem, z0, z1, z2, z3]
    · exact set4_below hx2.below (w.heap.size + 1) (by omega) _ _ _ _
  · go_enter Tryd.func19, Tryd.ntmps19
    go_upto_region 1 with fail
    clear hWA
    go_wp2_with (go_at_call 30; refine hc.mono ?_; rintro e w1 ⟨rfl, b1⟩; clear hc; obtain ⟨z0, z1, z2, z3, y0, y1, y2, y3⟩ := blk4_cs ((b1.block (w.heap.size + 1) (by omega)).trans HZ.out); have hx2 := hx1.step b1; replace k0 := hx2.c0; replace k1 := hx2.c1; replace k2 := hx2.c2; replace k3 := hx2.c3)
    refine bodyPost_ret (v := .tuple #[.agg #[.slice none 0 0, .int .i64 0, .slice none 0 0, .slice none 0 0], .iface 87 (.int .i64 1)]) ?_ rfl ⟨rfl, ?_⟩
    · simp [results, Tryd.results19, go_sem, z0, z1, z2, z3]
    · exact set4_below hx2.below (w.heap.size + 1) (by omega) _ _ _ _
set_option maxRecDepth 100000 in
set_option maxHeartbeats 16000000 in
theorem pg_ok (p : PD) (vc vs vw : Value) (r : Nat) (w : World) (hfm : Forms w) (hP : Pln w vc vs vw p) (hp : plchk p = 0) (hr : r < p.code.length) :
    Calls Tryd.prog 19 #[plV vc p.ticks vs vw, .int .i64 r] w fun e w' => ∃ ic is iw, e = .returned (.tuple #[plV ic p.ticks is iw, .nilIface]) ∧ Pln w' ic is iw (purgeP p (fun i => way p.wires i r)) ∧ Below w.heap.size w w' := by
  obtain ⟨ca, cc, rfl⟩ := hP.code.form
  obtain ⟨sa, sc, rfl⟩ := hP.spans.form
  obtain ⟨wa, wc', rfl⟩ := hP.wires.form
  have hx0 := Bx.first w (.slice ca p.code.length cc) p.ticks (.slice sa p.spans.length sc) (.slice wa p.wires.length wc')
  have hA0 : Below (w.heap.size + 1) (w.alloc (.cells #[.slice ca p.code.length cc, .int .i64 p.ticks, .slice sa p.spans.length sc, .slice wa p.wires.length wc'] 26)) ((w.alloc (.cells #[.slice ca p.code.length cc, .int .i64 p.ticks, .slice sa p.spans.length sc, .slice wa p.wires.length wc'] 26)).alloc (.cells #[.slice none 0 0, .int .i64 0, .slice none 0 0, .slice none 0 0] 26)) := (Below.refl _ _).alloc (by simp) _
  generalize hWA : (w.alloc (.cells #[.slice ca p.code.length cc, .int .i64 p.ticks, .slice sa p.spans.length sc, .slice wa p.wires.length wc'] 26)).alloc (.cells #[.slice none 0 0, .int .i64 0, .slice none 0 0, .slice none 0 0] 26) = WA at hA0
  have hx1 : Bx w WA (.slice ca p.code.length cc) p.ticks (.slice sa p.spans.length sc) (.slice wa p.wires.length wc') := hA0
  have hsA : WA.heap.size = w.heap.size + 2 := by rw [← hWA]; simp
  have hZ : WA.heap[w.heap.size + 1]? = some (.cells #[.slice none 0 0, .int .i64 0, .slice none 0 0, .slice none 0 0] 26 (0, 0)) := by
    have h := World.alloc_heap_new (w.alloc (.cells #[.slice ca p.code.length cc, .int .i64 p.ticks, .slice sa p.spans.length sc, .slice wa p.wires.length wc'] 26)) (.cells #[.slice none 0 0, .int .i64 0, .slice none 0 0, .slice none 0 0] 26)
    rw [hWA, World.size_alloc] at h
    exact h
  have HZ : Hid (WA.heap[w.heap.size + 1]? = some (.cells #[.slice none 0 0, .int .i64 0, .slice none 0 0, .slice none 0 0] 26 (0, 0))) := hZ
  clear hZ
  obtain ⟨hc5, hc0, hfz, hwz, _, _, hcz, _⟩ := plchk_zero hp
  have hsl : p.spans.length ≤ 12 := (fchk_zero hfz).2.2.1
  have hwl : p.wires.length ≤ 12 := (wschk_ok hwz).1
  have hr5 : r < 5 := by omega
  have HP : Hid (Pln w (.slice ca p.code.length cc) (.slice sa p.spans.length sc) (.slice wa p.wires.length wc') p) := hP
  have HCZ : Hid (∀ c ∈ p.code, (chk c).2 = 0) := codesE_zero hcz
  have hc := plcheck_any p _ _ _ _ (hfm.all hx1.below) (hP.all hx1.below)
  rw [hp] at hc
  unfold plV at hc ⊢
  unfold wErr at hc
  simp only [if_true] at hc
  have HAh : Hid (∀ W, Below w.heap.size w W → Calls Tryd.prog 43 #[.slice wa p.wires.length wc', .int .i64 r] W fun e w' => ∃ ag cap, e = .returned (.tuple #[.slice (some ⟨ag, 0, none⟩) (ahd p.wires r 5).length cap, .nilIface]) ∧ ag < w'.heap.size ∧ (∀ (i : Nat) y, (ahd p.wires r 5)[i]? = some y → w'.cell? ⟨ag, 0 + i, none⟩ = some (.int .i64 y)) ∧ Below W.heap.size W w') := fun W hb => by
    refine (ahead_ok p.wires _ r W (HP.out.wires.all hb) hwz hr5).mono ?_
    rintro e w' ⟨u, rfl, own, hb2⟩
    rcases row_form own with ⟨_, h2⟩ | ⟨g, cap, rfl⟩
    · exact absurd h2 (ahd_some _ _ hr5)
    · obtain ⟨_, h2, _, _, h5, _, _⟩ := own_cap own
      exact ⟨g, cap, rfl, h2, fun i y hy => by rw [Nat.zero_add]; exact h5 i _ (ints_at hy), hb2⟩
  have HL : Hid (∀ i : Nat, i < 5 → (ahd p.wires r 5).contains (i : Int) = way p.wires i r) := fun i hi => by
    rw [ahd_has]
    simp [hi]
  have hLl := ahd_len p.wires r 5
  generalize ahd p.wires r 5 = L at HAh HL hLl
  have HCl : Hid (∀ W, Below w.heap.size w W → Calls Tryd.prog 44 #[.agg #[.slice ca p.code.length cc, .int .i64 p.ticks, .slice sa p.spans.length sc, .slice wa p.wires.length wc']] W fun e w' => ∃ g vk so sn sk wo wn wk us, e = .returned (.agg #[.slice (some ⟨g, 0, none⟩) p.code.length vk, .int .i64 p.ticks, .slice so sn sk, .slice wo wn wk]) ∧ PlO w' W.heap.size (.slice (some ⟨g, 0, none⟩) p.code.length vk) (.slice so sn sk) (.slice wo wn wk) p us ∧ Below W.heap.size W w') := fun W hb => by
    refine (plclone_any p _ _ _ W (HP.out.all hb) hp).mono ?_
    rintro e w' ⟨ic, is, iw, rfl, ⟨us, hO⟩, b⟩
    obtain ⟨g, vk, hcv⟩ : ∃ g vk, ic = .slice (some ⟨g, 0, none⟩) p.code.length vk := by
      rcases hO.own.2 with ⟨_, h0⟩ | ⟨g, vk, cur, hv, _⟩
      · rw [hO.len] at h0
        exact absurd h0 hc0
      · exact ⟨g, vk, by rw [hv, hO.len]⟩
    subst hcv
    obtain ⟨j1, j2, j3, rfl⟩ := own_form hO.sps
    obtain ⟨l1, l2, l3, rfl⟩ := own_form hO.wrs
    exact ⟨g, vk, j1, j2, j3, l1, l2, l3, us, rfl, hO, b⟩
  have h0 : decide ((r : Int) < 0) = false := decide_eq_false (by omega)
  have h1 : decide ((p.code.length : Int) ≤ (r : Int)) = false := decide_eq_false (by omega)
  have h1' : decide (p.code.length ≤ r) = false := decide_eq_false (by omega)
  have k0 := hx1.c0
  have k1 := hx1.c1
  have k2 := hx1.c2
  have k3 := hx1.c3
  clear hP hfm hx0 hA0 hfz hwz hcz hp
  go_enter Tryd.func19, Tryd.ntmps19
  go_upto_region 1 with fail
  clear hWA
  go_upto_region 9 with (first
    | (go_at_call 30; refine hc.mono ?_; rintro e w1 ⟨rfl, b1⟩; clear hc; have hx2 := hx1.step b1; replace k0 := hx2.c0; replace k1 := hx2.c1; replace k2 := hx2.c2; replace k3 := hx2.c3; have q2 := HAh.out w1 hx2.below; clear HAh)
    | (go_at_call 43; refine q2.mono ?_; rintro e w3 ⟨ag, acap, rfl, hag, hac, b3⟩; clear q2))
  have hx3 := hx2.step b3
  have HB3 : Hid (Below WA.heap.size WA w3) := b1.trans (b3.mono b1.size)
  have HAC : Hid (∀ (i : Nat) y, L[i]? = some y → w3.cell? ⟨ag, 0 + i, none⟩ = some (.int .i64 y)) := hac
  have hs3 : WA.heap.size ≤ w3.heap.size := HB3.out.size
  have m0 := hx3.c0
  have m1 := hx3.c1
  have m2 := hx3.c2
  have m3 := hx3.c3
  have q4 := HCl.out w3 hx3.below
  clear b1 b3 hx2 hx1 k0 k1 k2 k3 hac h0 h1 h1' HCl
  go_upto_region 11 with (go_at_call 44; refine q4.mono ?_; rintro e w4 ⟨g, vk, so, sn, sk, wo, wn, wk, us, rfl, hO, b4⟩; clear q4 m0 m1 m2 m3)
  have hown := hO.own
  rw [hO.len] at hown
  obtain ⟨hg0, hg1, hcap, _, hcs, _, hfz⟩ := own_cap hown
  have bA : Below w4.heap.size w4 (w4.alloc (.cells #[.slice (some ⟨g, 0, none⟩) p.code.length vk, .int .i64 p.ticks, .slice so sn sk, .slice wo wn wk] 26)) := (Below.refl _ _).alloc (Nat.le_refl _) _
  have hkbx : (w4.alloc (.cells #[.slice (some ⟨g, 0, none⟩) p.code.length vk, .int .i64 p.ticks, .slice so sn sk, .slice wo wn wk] 26)).heap[w4.heap.size]? = some (.cells #[.slice (some ⟨g, 0, none⟩) p.code.length vk, .int .i64 p.ticks, .slice so sn sk, .slice wo wn wk] 26 (0, 0)) := World.alloc_heap_new _ _
  have hsA : (w4.alloc (.cells #[.slice (some ⟨g, 0, none⟩) p.code.length vk, .int .i64 p.ticks, .slice so sn sk, .slice wo wn wk] 26)).heap.size = w4.heap.size + 1 := by simp
  have hs4 := b4.size
  have hst : QC w3.heap.size (w4.alloc (.cells #[.slice (some ⟨g, 0, none⟩) p.code.length vk, .int .i64 p.ticks, .slice so sn sk, .slice wo wn wk] 26)) (w4.alloc (.cells #[.slice (some ⟨g, 0, none⟩) p.code.length vk, .int .i64 p.ticks, .slice so sn sk, .slice wo wn wk] 26)) p (fun i => way p.wires i r) g 0 := by
    refine ⟨by omega, KTouch.refl _ _, by omega, fun i c hc => ?_, fun o => (World.frozen?_of_block (w := w4) (a := ⟨g, o, none⟩) (bA.block g hg1)).trans (hfz o)⟩
    have hil : i < us.length := by rw [hO.len]; exact (List.getElem?_eq_some_iff.1 hc).1
    have hu : us[i]? = some us[i] := List.getElem?_eq_getElem hil
    refine ⟨us[i], (bA.cell (p := ⟨g, i, none⟩) hg1).trans (hcs i _ hu), ?_, fun b hb => ?_⟩
    · rw [if_neg (by omega)]
      exact (hO.ops i _ c hu hc).all bA
    · obtain ⟨h1, h2, h3⟩ := hO.ap _ (List.mem_of_getElem? hu) b hb
      exact ⟨fun e => h3 (by rw [e]; rfl), h1⟩
  have HSP : Hid (w4.ownsRow w3.heap.size 59 3 (.slice so sn sk) p.spans.length (spCells p.spans) ∧ ∀ b, (Value.slice so sn sk).ownBlock = some b → b ≠ g) := ⟨hO.sps, fun b hb e => by
    subst e
    exact own_two hO.own hO.sps (by decide) b rfl hb⟩
  have HWR : Hid (w4.ownsRow w3.heap.size 83 4 (.slice wo wn wk) p.wires.length (wrCells p.wires) ∧ ∀ b, (Value.slice wo wn wk).ownBlock = some b → b ≠ g) := ⟨hO.wrs, fun b hb e => by
    subst e
    exact own_two hO.own hO.wrs (by decide) b rfl hb⟩
  have hxA := (hx3.step b4).step bA
  have HB4 : Hid (Below w3.heap.size w3 w4) := b4
  have HBA : Hid (Below w4.heap.size w4 (w4.alloc (.cells #[.slice (some ⟨g, 0, none⟩) p.code.length vk, .int .i64 p.ticks, .slice so sn sk, .slice wo wn wk] 26))) := bA
  clear hO hown hcs hfz b4 bA
  generalize w4.alloc (.cells #[.slice (some ⟨g, 0, none⟩) p.code.length vk, .int .i64 p.ticks, .slice so sn sk, .slice wo wn wk] 26) = W0 at *
  have hs3x := hx3.size
  go_loopw [44] (fun i wr => ∃ k : Nat, k ≤ p.code.length ∧ i = .int .i64 k ∧ QC w3.heap.size W0 wr p (fun i => way p.wires i r) g k) (fun i _ => p.code.length - (intOf i).toNat)
  case atStart => exact ⟨0, Nat.zero_le _, rfl, hst⟩
  case round =>
    clear hst
    obtain ⟨k, hk, rfl, hq⟩ := hrel
    have htk := hq.tk
    have hszr := htk.size
    have hkb2 : wr.heap[w4.heap.size]? = some (.cells #[.slice (some ⟨g, 0, none⟩) p.code.length vk, .int .i64 p.ticks, .slice so sn sk, .slice wo wn wk] 26 (0, 0)) := (htk.block w4.heap.size (by omega) (by simp; omega)).trans hkbx
    by_cases hkl : k < p.code.length
    · have hki : (k : Int) < (p.code.length : Int) := by omega
      have hagn : wr.heap[ag]? = w3.heap[ag]? := (htk.block ag (by omega) (by simp; omega)).trans ((HBA.out.block ag (by omega)).trans (HB4.out.block ag hag))
      have HHas : Hid (Calls Tryd.prog 45 #[.slice (some ⟨ag, 0, none⟩) L.length acap, .int .i64 k] wr fun e w' => e = .returned (.bool (way p.wires k r)) ∧ wr = w') := by
        have h := contains_ints L k ag 0 acap wr (by omega) (fun i y hy => (World.cell?_of_block (w := w3) (a := ⟨ag, 0 + i, none⟩) hagn).trans (HAC.out i y hy))
        rw [HL.out k (by omega)] at h
        exact h.mono (fun e w' h => ⟨h.1, h.2.symm⟩)
      have HQ : Hid (QC w3.heap.size W0 wr p (fun i => way p.wires i r) g k) := hq
      obtain ⟨c, hc⟩ : ∃ c, p.code[k]? = some c := ⟨_, List.getElem?_eq_getElem hkl⟩
      obtain ⟨u0, hu0, _, _⟩ := hq.row k c hc
      have hfk := hq.fz k
      have hgr : g < wr.heap.size := by omega
      have n0 : wr.cell? ⟨w4.heap.size, 0, none⟩ = some (.slice (some ⟨g, 0, none⟩) p.code.length vk) := by simp [World.cell?, hkb2]
      have hkr : w4.heap.size < wr.heap.size := by omega
      clear hq htk hagn hkb2 hc
      cases hway : way p.wires k r with
      | true =>
        rw [hway] at HHas
        have HWY : Hid (way p.wires k r = true) := hway
        clear hway
        go_wp2_with (go_at_call 45; refine HHas.out.mono ?_; rintro e w5 ⟨rfl, rfl⟩)
        go_roundw
        case rel => exact ⟨k + 1, by omega, by go_num, HQ.out.keep HWY.out⟩
        case measure => simp [intOf]; omega
      | false =>
        rw [hway] at HHas
        have HWY : Hid (way p.wires k r = false) := hway
        have HR0 := HQ.out.rest hway
        rw [World.setCell_alloc_past _ _ _ _ hgr] at HR0
        have HR : Hid _ := HR0
        clear HR0
        clear hway
        have bB : Below wr.heap.size wr (wr.alloc (.cells #[.int .i64 10, .int .i64 0, .int .i64 0] 57)) := (Below.refl _ _).alloc (Nat.le_refl _) _
        have n0' := (bB.cell (p := ⟨w4.heap.size, 0, none⟩) hkr).trans n0
        have u0' := (bB.cell (p := ⟨g, k, none⟩) hgr).trans hu0
        have f0' : (wr.alloc (.cells #[.int .i64 10, .int .i64 0, .int .i64 0] 57)).frozen? ⟨g, k, none⟩ = false := (World.frozen?_of_block (w := wr) (a := ⟨g, k, none⟩) (bB.block g hgr)).trans hfk
        clear bB
        go_wp2_with (go_at_call 45; refine HHas.out.mono ?_; rintro e w5 ⟨rfl, rfl⟩)
        go_roundw
        case rel => exact ⟨k + 1, by omega, by go_num, HR.out⟩
        case measure => simp [intOf]; omega
    · obtain rfl : k = p.code.length := by omega
      have hki : decide ((p.code.length : Int) < (p.code.length : Int)) = false := decide_eq_false (by omega)
      have hki' : decide (p.code.length < p.code.length) = false := decide_eq_false (by omega)
      obtain ⟨q0, q1, q2, q3, _, _, _, _⟩ := blk4_cs hkb2
      have hzb : wr.heap[w.heap.size + 1]? = some (.cells #[.slice none 0 0, .int .i64 0, .slice none 0 0, .slice none 0 0] 26 (0, 0)) := (htk.block (w.heap.size + 1) (by omega) (by simp; omega)).trans ((HBA.out.block (w.heap.size + 1) (by omega)).trans ((HB4.out.block (w.heap.size + 1) (by omega)).trans ((HB3.out.block (w.heap.size + 1) (by omega)).trans HZ.out)))
      obtain ⟨z0, z1, z2, z3, y0, y1, y2, y3⟩ := blk4_cs hzb
      have HQ : Hid (QC w3.heap.size W0 wr p (fun i => way p.wires i r) g p.code.length) := hq
      have hbw : Below w.heap.size w wr := hxA.below.trans (htk.below (fun m hm => by rw [List.mem_singleton] at hm; omega) hxA.below.size)
      have hne : w4.heap.size ≠ w.heap.size + 1 := by omega
      clear hq htk hzb hkb2
      go_wp2
      refine bodyPost_ret (v := .tuple #[plV (.slice (some ⟨g, 0, none⟩) p.code.length vk) p.ticks (.slice so sn sk) (.slice wo wn wk), .nilIface]) ?_ rfl ⟨_, _, _, rfl, ?_, ?_⟩
      · simp [results, Tryd.results19, go_sem, plV, z0, z1, z2, z3]
      · have ht := set4_touch wr (w.heap.size + 1) (.slice (some ⟨g, 0, none⟩) p.code.length vk) (.int .i64 p.ticks) (.slice so sn sk) (.slice wo wn wk)
        have hrow : ∀ b, w3.heap.size ≤ b → b < w4.heap.size → b ≠ g → ((((wr.setCell ⟨w.heap.size + 1, 0, none⟩ (.slice (some ⟨g, 0, none⟩) p.code.length vk)).setCell ⟨w.heap.size + 1, 1, none⟩ (.int .i64 p.ticks)).setCell ⟨w.heap.size + 1, 2, none⟩ (.slice so sn sk)).setCell ⟨w.heap.size + 1, 3, none⟩ (.slice wo wn wk)).heap[b]? = w4.heap[b]? := fun b h1 h2 h3 => (ht.block b (by omega) (by simp; omega)).trans ((HQ.out.tk.block b (by omega) (by simpa using h3)).trans (HBA.out.block b h2))
        refine ⟨HQ.out.cds hcap ht (fun m hm => by rw [List.mem_singleton] at hm; omega), sps_of_own (own_block HSP.out.1 (fun b hb => ?_)), wrs_of_own (own_block HWR.out.1 (fun b hb => ?_))⟩
        · have := HSP.out.1.lt b hb
          exact hrow b this.1 this.2 (HSP.out.2 b hb)
        · have := HWR.out.1.lt b hb
          exact hrow b this.1 this.2 (HWR.out.2 b hb)
      · exact set4_below hbw (w.heap.size + 1) (by omega) _ _ _ _
/-- Purge does what the laws ask of it. -/
theorem prg_purge {G : World → Prop} (hF : ∀ w, G w → Forms w) : PrgPurge G := fun p vc vs vw r W hG hP => by
  by_cases hp : plchk p = 0
  · by_cases hr : r < 0 ∨ (p.code.length : Int) ≤ r
    · have he : prgE p r = 1 := by
        unfold prgE
        rw [if_pos hp, if_pos hr]
      have hq : prgP p r = noPlan := by
        unfold prgP
        rw [if_neg (by omega)]
      rw [he, hq]
      refine (pg_out p vc vs vw r W (hF W hG) hP hp hr).mono ?_
      rintro e w' ⟨rfl, hb⟩
      exact ⟨_, _, _, rfl, ⟨Or.inl ⟨rfl, _, _, rfl⟩, Or.inl ⟨rfl, _, _, rfl⟩, Or.inl ⟨rfl, _, _, rfl⟩⟩, hb⟩
    · obtain ⟨r, rfl⟩ : ∃ m : Nat, r = m := ⟨r.toNat, by omega⟩
      have he : prgE p r = 0 := by
        unfold prgE
        rw [if_pos hp, if_neg hr]
      have hq : prgP p r = purgeP p (fun i => way p.wires i r) := by
        unfold prgP
        rw [if_pos he, Int.toNat_natCast]
      rw [he, hq]
      exact pg_ok p vc vs vw r W (hF W hG) hP hp (by omega)
  · have he : prgE p r = plchk p := by
      unfold prgE
      rw [if_neg hp]
    have hq : prgP p r = noPlan := by
      unfold prgP
      rw [if_neg (by rw [he]; exact hp)]
    rw [he, hq]
    refine (pg_no p vc vs vw r W (hF W hG) hP hp).mono ?_
    rintro e w' ⟨rfl, hb⟩
    exact ⟨_, _, _, rfl, ⟨Or.inl ⟨rfl, _, _, rfl⟩, Or.inl ⟨rfl, _, _, rfl⟩, Or.inl ⟨rfl, _, _, rfl⟩⟩, hb⟩
end Go.Proofs.YtajfgmlockjmhafDoor
namespace Go.Proofs.YtajfgmlockjmhafDoor
open Go.RowKit

set_option maxRecDepth 100000 in
set_option maxHeartbeats 2000000 in
theorem wnew_no (f t k d : Int) (w : World) (h : wchk f t k d ≠ 0) : Calls Tryd.prog 42 #[wV f t k d] w fun e w' => e = .returned (.tuple #[.pointer none, .iface 87 (.int .i64 (wchk f t k d))]) ∧ Below w.heap.size w w' := by
  have hA : Below w.heap.size w (w.alloc (.cells #[.int .i64 f, .int .i64 t, .int .i64 k, .int .i64 d] 83)) := (Below.refl _ _).alloc (Nat.le_refl _) _
  have hc := wcheck_any f t k d (w.alloc (.cells #[.int .i64 f, .int .i64 t, .int .i64 k, .int .i64 d] 83))
  rw [wErr_not h] at hc
  clear h
  generalize wchk f t k d = q at hc ⊢
  unfold wV at hc ⊢
  go_enter Tryd.func42, Tryd.ntmps42
  go_wp2_with (go_at_call 65; refine hc.mono ?_; rintro e w1 ⟨rfl, b1⟩; clear hc)
  go_ret2
  exact ⟨rfl, hA.trans (b1.mono hA.size)⟩
set_option maxRecDepth 100000 in
set_option maxHeartbeats 2000000 in
theorem wnew_ok (f t k d : Int) (w : World) (h : wchk f t k d = 0) : Calls Tryd.prog 42 #[wV f t k d] w fun e w' => ∃ b, e = .returned (.tuple #[.pointer (some ⟨b, 0, none⟩), .nilIface]) ∧ LnC w' b k d 0 (.slice none 0 0) ∧ w.heap.size ≤ b ∧ b < w'.heap.size ∧ Below w.heap.size w w' := by
  have hA : Below w.heap.size w (w.alloc (.cells #[.int .i64 f, .int .i64 t, .int .i64 k, .int .i64 d] 83)) := (Below.refl _ _).alloc (Nat.le_refl _) _
  have hc := wcheck_any f t k d (w.alloc (.cells #[.int .i64 f, .int .i64 t, .int .i64 k, .int .i64 d] 83))
  rw [h] at hc
  have hc' : Calls Tryd.prog 65 #[wV f t k d] (w.alloc (.cells #[.int .i64 f, .int .i64 t, .int .i64 k, .int .i64 d] 83)) fun e w' => e = .returned .nilIface ∧ Below (w.heap.size + 1) (w.alloc (.cells #[.int .i64 f, .int .i64 t, .int .i64 k, .int .i64 d] 83)) w' := hc.mono fun e w' ⟨h1, h2⟩ => ⟨h1, by simpa using h2⟩
  clear h hc
  unfold wV at hc' ⊢
  go_enter Tryd.func42, Tryd.ntmps42
  go_wp2_with (go_at_call 65; refine hc'.mono ?_; rintro e w1 ⟨rfl, b1⟩; clear hc'; have r2 : w1.cell? ⟨w.heap.size, 2, none⟩ = some (.int .i64 k) := (b1.cell (p := ⟨w.heap.size, 2, none⟩) (by simp)).trans (by simp); have r3 : w1.cell? ⟨w.heap.size, 3, none⟩ = some (.int .i64 d) := (b1.cell (p := ⟨w.heap.size, 3, none⟩) (by simp)).trans (by simp))
  go_ret2
  have hz : w.heap.size + 1 ≤ w1.heap.size := by have := b1.size; simpa using this
  refine ⟨w1.heap.size, rfl, ⟨by simp, by simp, by simp, by simp, by simp, by simp⟩, by omega, by simp, ?_⟩
  exact (hA.trans (b1.mono (by omega))).alloc (by omega) _

set_option maxRecDepth 100000 in
set_option maxHeartbeats 2000000 in
theorem send_range (v : Value) (n : Int) (w : World) (h : n < 0 ∨ 1000 ≤ n) : Calls Tryd.prog 93 #[v, .int .i64 n] w fun e w' => e = .returned (.tuple #[.bool false, .iface 87 (.int .i64 1)]) ∧ w' = w := by
  have ho := wout_yes n w h
  clear h
  go_enter Tryd.func93, Tryd.ntmps93
  go_wp2_with (go_at_call 109; refine ho.mono ?_; rintro e w1 ⟨rfl, hw1⟩; subst hw1; clear ho)
  go_ret2
  exact ⟨rfl, rfl⟩

set_option maxRecDepth 100000 in
set_option maxHeartbeats 4000000 in
theorem send_full (base b : Nat) (dp : Int) (xs : List Int) (ls : Int) (v : Value) (n : Int) (w : World) (hn0 : 0 ≤ n) (hn1 : n < 1000) (hls : 0 ≤ ls ∧ ls < 1000000000) (hL : Ln w base b 2 dp xs ls v) (hdp : dp ≤ (xs.length : Int)) :
    Calls Tryd.prog 93 #[.pointer (some ⟨b, 0, none⟩), .int .i64 n] w fun e w' => e = .returned (.tuple #[.bool false, .nilIface]) ∧ Ln w' base b 2 dp xs (ls + 1) v ∧ Touch w w' b v v := by
  have hcc := hL.c
  have hlt := hcc.lt
  obtain ⟨c0, c1, c2, c3, f2, f3⟩ := hcc
  obtain ⟨ao, cap, rfl⟩ : ∃ ao cap, v = .slice ao xs.length cap := by
    rcases row_form hL.row with ⟨rfl, h⟩ | ⟨g, cap, rfl⟩
    · exact ⟨_, _, by rw [h]⟩
    · exact ⟨_, _, rfl⟩
  have HL : Hid (Ln w base b 2 dp xs ls (.slice ao xs.length cap)) := hL
  clear hL
  obtain ⟨hls0, hls1⟩ := hls
  go_enter Tryd.func93, Tryd.ntmps93
  go_wp2_with (go_at_call 109; refine (wout_no n _ hn0 hn1).mono ?_; rintro e wz ⟨rfl, hwz⟩; subst wz)
  go_quiet (fail)
  go_wp2
  go_ret2
  have hq := HL.out.below (below_dN (Below.refl _ w) nq)
  exact ⟨rfl, ⟨hq.c.lost _, ownsRow_setCell_below hq.row (a := ⟨b, 3, none⟩) hq.lt _, hq.lt, by have := hq.le; simpa using this⟩, ((Touch.refl w b _).dN nq).set 3 _⟩

set_option maxRecDepth 100000 in
set_option maxHeartbeats 4000000 in
theorem send_room (base b : Nat) (dp : Int) (xs : List Int) (ls : Int) (v : Value) (n : Int) (w : World) (hn0 : 0 ≤ n) (hn1 : n < 1000) (hL : Ln w base b 2 dp xs ls v) (hdp : (xs.length : Int) < dp) (hx : xs.length ≤ 1000000) :
    Calls Tryd.prog 93 #[.pointer (some ⟨b, 0, none⟩), .int .i64 n] w fun e w' => ∃ v', e = .returned (.tuple #[.bool true, .nilIface]) ∧ Ln w' base b 2 dp (xs ++ [n]) ls v' ∧ Touch w w' b v v' := by
  obtain ⟨ii, hi, hz0, hz1, hz2⟩ := info_parts infoInt
  have hcc := hL.c
  have hlt := hcc.lt
  obtain ⟨c0, c1, c2, c3, f2, f3⟩ := hcc
  obtain ⟨ao, cap, rfl⟩ : ∃ ao cap, v = .slice ao xs.length cap := by
    rcases row_form hL.row with ⟨rfl, h⟩ | ⟨g, cap, rfl⟩
    · exact ⟨_, _, by rw [h]⟩
    · exact ⟨_, _, rfl⟩
  have HL : Hid (Ln w base b 2 dp xs ls (.slice ao xs.length cap)) := hL
  clear hL
  go_enter Tryd.func93, Tryd.ntmps93
  go_wp2_with (go_at_call 109; refine (wout_no n _ hn0 hn1).mono ?_; rintro e wz ⟨rfl, hwz⟩; subst wz)
  go_quiet (fail)
  have hq := HL.out.below (below_dN (Below.refl _ w) nq)
  have HQ : Hid (Ln (w.drewN nq) base b 2 dp xs ls (.slice ao xs.length cap)) := hq
  have hrow := hq.row
  clear hq
  go_wp2_with (at_builtin; refine wpList_append_at _ rfl _ _ 43 rfl base 3 ii (.int .i64 0) 1 8 Tryd.underlying43 hi hz0 hz1 hz2 rfl (by decide) _ _ _ rfl (hrow.alloc _) ⟨(w.drewN nq).heap.size, 0, none⟩ 1 1 [.int .i64 n] rfl rfl ?c1A ?c2A ?c3A ?c4A ?c5A ?_)
  case c1A => exact one_new _ _ _
  case c2A => exact one_one n
  case c3A => unfold maxLen; omega
  case c4A => omega
  case c5A => have := HQ.out.le; simp at this ⊢; omega
  intro v1 w2 own1 hg1 hat1
  have hne1 : some b ≠ (Value.slice ao xs.length cap).ownBlock := fun e => by have := (hrow.lt _ e.symm).1; have := HQ.out.lt; omega
  have hs1 : w.heap.size + 1 ≤ w2.heap.size := by have := hg1.size; simpa using this
  have hT : Touch w w2 b (.slice ao xs.length cap) v1 := (((Touch.refl w b _).dN nq).alloc _).grown hg1 (fun k hk => by have := hat1 k hk; simpa using this)
  have hc2 : LnC w2 b 2 dp ls (.slice ao xs.length cap) := (HQ.out.c.block (Below.heap_alloc _ _ _ (by simpa using hlt))).block (hg1.block b (by simp; omega) hne1)
  have HC : Hid (LnC w2 b 2 dp ls (.slice ao xs.length cap)) := hc2
  obtain ⟨k0, k1, k2, k3, k4, k5⟩ := hc2
  clear hrow hg1 hat1 c0 c1 c2 c3 f2 f3 k0 k1 k3 k5
  have hlt2 : b < w2.heap.size := by omega
  have hrow2 := ownsRow_setCell_below own1 (a := ⟨b, 2, none⟩) HQ.out.lt v1
  obtain ⟨g1, cap1, rfl⟩ : ∃ g cap, v1 = .slice (some ⟨g, 0, none⟩) (xs.length + 1) cap := by
    rcases row_form own1 with ⟨_, h⟩ | h
    · omega
    · exact h
  clear own1
  go_wp2
  go_ret2
  exact ⟨_, rfl, ⟨HC.out.items _, by rw [ints_snoc, List.length_append]; exact hrow2, HQ.out.lt, by have := HQ.out.le; simp at this ⊢; omega⟩, hT.set 2 _⟩

set_option maxRecDepth 100000 in
set_option maxHeartbeats 4000000 in
theorem send_sample (base b : Nat) (xs : List Int) (ls : Int) (v : Value) (n : Int) (w : World) (hn0 : 0 ≤ n) (hn1 : n < 1000) (hL : Ln w base b 1 1 xs ls v) :
    Calls Tryd.prog 93 #[.pointer (some ⟨b, 0, none⟩), .int .i64 n] w fun e w' => ∃ v', e = .returned (.tuple #[.bool true, .nilIface]) ∧ Ln w' base b 1 1 [n] ls v' ∧ Touch w w' b v v' := by
  obtain ⟨ii, hi, hz0, hz1, hz2⟩ := info_parts infoInt
  have hcc := hL.c
  have hlt := hcc.lt
  obtain ⟨c0, c1, c2, c3, f2, f3⟩ := hcc
  have HL : Hid (Ln w base b 1 1 xs ls v) := hL
  have hrw := hL.row
  clear hL
  rcases row_form hrw with ⟨rfl, hx0⟩ | ⟨g, cap, rfl⟩
  · have hrow0 := World.ownsRow_nil w base 3 1
    clear hrw
    have hL1 : Ln (w.setCell ⟨b, 2, none⟩ (.slice none 0 0)) base b 1 1 [] ls (.slice none 0 0) := ⟨HL.out.c.items _, ownsRow_setCell_below hrow0 (a := ⟨b, 2, none⟩) HL.out.lt _, HL.out.lt, by have := HL.out.le; simpa using this⟩
    have hT1 : Touch w (w.setCell ⟨b, 2, none⟩ (.slice none 0 0)) b (.slice none 0 0) (.slice none 0 0) := ((Touch.refl w b _).set 2 _).cut rfl
    have HL1 : Hid (Ln (w.setCell ⟨b, 2, none⟩ (.slice none 0 0)) base b 1 1 [] ls (.slice none 0 0)) := hL1
    clear hL1
    go_enter Tryd.func93, Tryd.ntmps93
    go_wp2_with (go_at_call 109; refine (wout_no n _ hn0 hn1).mono ?_; rintro e wz ⟨rfl, hwz⟩; subst wz)
    go_quiet (fail)
    have hq := HL1.out.below (below_dN (Below.refl _ _) nq)
    have HQ : Hid (Ln ((w.setCell ⟨b, 2, none⟩ (.slice none 0 0)).drewN nq) base b 1 1 [] ls (.slice none 0 0)) := hq
    have hrow := hq.row
    clear hq
    go_wp2_with (at_builtin; refine wpList_append_at _ rfl _ _ 43 rfl base 3 ii (.int .i64 0) 1 8 Tryd.underlying43 hi hz0 hz1 hz2 rfl (by decide) _ _ _ rfl (hrow.alloc _) ⟨w.heap.size, 0, none⟩ 1 1 [.int .i64 n] rfl rfl ?c1A ?c2A ?c3A ?c4A ?c5A ?_)
    case c1A => exact one_new_at (by simp) _ _
    case c2A => exact one_one n
    case c3A => unfold maxLen; simp
    case c4A => simp
    case c5A => have := HQ.out.le; simp at this ⊢; omega
    intro v1 w2 own1 hg1 hat1
    have hne1 : some b ≠ (Value.slice none 0 0).ownBlock := fun e => by have := (hrow.lt _ e.symm).1; have := HQ.out.lt; omega
    have hs1 : w.heap.size + 1 ≤ w2.heap.size := by have := hg1.size; simpa using this
    have hT : Touch w w2 b (.slice none 0 0) v1 := ((hT1.dN nq).alloc _).grown hg1 (fun k hk => by have := hat1 k hk; simpa using this)
    have hc2 : LnC w2 b 1 1 ls (.slice none 0 0) := (HQ.out.c.block (Below.heap_alloc _ _ _ (by simpa using hlt))).block (hg1.block b (by simp; omega) hne1)
    have HC : Hid (LnC w2 b 1 1 ls (.slice none 0 0)) := hc2
    obtain ⟨k0, k1, k2, k3, k4, k5⟩ := hc2
    clear hrow hg1 hat1 c0 c1 c2 c3 f2 f3 k0 k1 k3 k5
    have hlt2 : b < w2.heap.size := by omega
    have hrow2 := ownsRow_setCell_below own1 (a := ⟨b, 2, none⟩) HQ.out.lt v1
    obtain ⟨g1, cap1, rfl⟩ : ∃ g cap, v1 = .slice (some ⟨g, 0, none⟩) 1 cap := by
      rcases row_form own1 with ⟨_, h⟩ | h
      · simp at h
      · simpa using h
    clear own1
    go_wp2
    go_ret2
    exact ⟨_, rfl, ⟨HC.out.items _, hrow2, HQ.out.lt, by have := HQ.out.le; simp at this ⊢; omega⟩, hT.set 2 _⟩
  · obtain ⟨hg0, hg1, hg2, hg3, _, _, _⟩ := own_cap hrw
    have hrow0 := own_cut hrw (Nat.zero_le _)
    unfold maxLen at hg3
    clear hrw
    have hL1 : Ln (w.setCell ⟨b, 2, none⟩ (.slice (some ⟨g, 0, none⟩) 0 cap)) base b 1 1 [] ls (.slice (some ⟨g, 0, none⟩) 0 cap) := ⟨HL.out.c.items _, ownsRow_setCell_below hrow0 (a := ⟨b, 2, none⟩) HL.out.lt _, HL.out.lt, by have := HL.out.le; simpa using this⟩
    have hT1 : Touch w (w.setCell ⟨b, 2, none⟩ (.slice (some ⟨g, 0, none⟩) 0 cap)) b (.slice (some ⟨g, 0, none⟩) xs.length cap) (.slice (some ⟨g, 0, none⟩) 0 cap) := ((Touch.refl w b _).set 2 _).cut rfl
    have HL1 : Hid (Ln (w.setCell ⟨b, 2, none⟩ (.slice (some ⟨g, 0, none⟩) 0 cap)) base b 1 1 [] ls (.slice (some ⟨g, 0, none⟩) 0 cap)) := hL1
    clear hL1
    go_enter Tryd.func93, Tryd.ntmps93
    go_wp2_with (go_at_call 109; refine (wout_no n _ hn0 hn1).mono ?_; rintro e wz ⟨rfl, hwz⟩; subst wz)
    go_quiet (fail)
    have hq := HL1.out.below (below_dN (Below.refl _ _) nq)
    have HQ : Hid (Ln ((w.setCell ⟨b, 2, none⟩ (.slice (some ⟨g, 0, none⟩) 0 cap)).drewN nq) base b 1 1 [] ls (.slice (some ⟨g, 0, none⟩) 0 cap)) := hq
    have hrow := hq.row
    clear hq
    go_wp2_with (at_builtin; refine wpList_append_at _ rfl _ _ 43 rfl base 3 ii (.int .i64 0) 1 8 Tryd.underlying43 hi hz0 hz1 hz2 rfl (by decide) _ _ _ rfl (hrow.alloc _) ⟨w.heap.size, 0, none⟩ 1 1 [.int .i64 n] rfl rfl ?c1A ?c2A ?c3A ?c4A ?c5A ?_)
    case c1A => exact one_new_at (by simp) _ _
    case c2A => exact one_one n
    case c3A => unfold maxLen; simp
    case c4A => simp
    case c5A => have := HQ.out.le; simp at this ⊢; omega
    intro v1 w2 own1 hg1 hat1
    have hne1 : some b ≠ (Value.slice (some ⟨g, 0, none⟩) 0 cap).ownBlock := fun e => by have := (hrow.lt _ e.symm).1; have := HQ.out.lt; omega
    have hs1 : w.heap.size + 1 ≤ w2.heap.size := by have := hg1.size; simpa using this
    have hT : Touch w w2 b (.slice (some ⟨g, 0, none⟩) xs.length cap) v1 := ((hT1.dN nq).alloc _).grown hg1 (fun k hk => by have := hat1 k hk; simpa using this)
    have hc2 : LnC w2 b 1 1 ls (.slice (some ⟨g, 0, none⟩) 0 cap) := (HQ.out.c.block (Below.heap_alloc _ _ _ (by simpa using hlt))).block (hg1.block b (by simp; omega) hne1)
    have HC : Hid (LnC w2 b 1 1 ls (.slice (some ⟨g, 0, none⟩) 0 cap)) := hc2
    obtain ⟨k0, k1, k2, k3, k4, k5⟩ := hc2
    clear hrow hg1 hat1 c0 c1 c2 c3 f2 f3 k0 k1 k3 k5
    have hlt2 : b < w2.heap.size := by omega
    have hrow2 := ownsRow_setCell_below own1 (a := ⟨b, 2, none⟩) HQ.out.lt v1
    obtain ⟨g1, cap1, rfl⟩ : ∃ g cap, v1 = .slice (some ⟨g, 0, none⟩) 1 cap := by
      rcases row_form own1 with ⟨_, h⟩ | h
      · simp at h
      · simpa using h
    clear own1
    go_wp2
    go_ret2
    exact ⟨_, rfl, ⟨HC.out.items _, hrow2, HQ.out.lt, by have := HQ.out.le; simp at this ⊢; omega⟩, hT.set 2 _⟩
end Go.Proofs.YtajfgmlockjmhafDoor
namespace Go.Proofs.YtajfgmlockjmhafDoor
open Go.RowKit

theorem Ln.first {w : World} {base b : Nat} {kd dp ls : Int} {x : Int} {ys : List Int} {v : Value} (h : Ln w base b kd dp (x :: ys) ls v) : ∃ g cap, v = .slice (some ⟨g, 0, none⟩) (ys.length + 1) cap ∧ w.cell? ⟨g, 0, none⟩ = some (.int .i64 x) := by
  rcases h.form with ⟨_, e⟩ | ⟨g, cap, rfl⟩
  · cases e
  · have := h.row.cells (g := g) rfl 0 (.int .i64 x) (by simp [ints])
    rw [Addr.add_lit, Nat.zero_add] at this
    exact ⟨g, cap, rfl, this⟩
theorem Ln.none {w : World} {base b : Nat} {kd dp ls : Int} {v : Value} (h : Ln w base b kd dp [] ls v) : ∃ ao cap, v = .slice ao 0 cap := by
  rcases h.form with ⟨rfl, _⟩ | ⟨g, cap, rfl⟩
  · exact ⟨_, _, rfl⟩
  · exact ⟨_, _, rfl⟩
theorem dpeek_l (base b : Nat) (l : LnD) (u : Value) (w : World) (hL : Ln w base b l.w.2.2.1 l.w.2.2.2 l.xs l.ls u) :
    Calls Tryd.prog 91 #[.pointer (some ⟨b, 0, none⟩)] w fun e w' => e = .returned (.tuple #[.int .i64 (headL l).1, .bool (headL l).2]) ∧ w' = w := by
  obtain ⟨x, xs, ls⟩ := l
  cases xs with
  | nil =>
    obtain ⟨ao, cap, rfl⟩ := Ln.none hL
    exact peek_none b _ _ ls ao cap w hL.c
  | cons n ys =>
    obtain ⟨g, cap, rfl, h1⟩ := Ln.first hL
    exact peek_some b _ _ ls g _ cap n w hL.c (by omega) h1
theorem dtake_l (base b : Nat) (l : LnD) (u : Value) (w : World) (hk : l.w.2.2.1 = 1 ∨ l.w.2.2.1 = 2) (hh : (headL l).2 = true) (hL : Ln w base b l.w.2.2.1 l.w.2.2.2 l.xs l.ls u) :
    Calls Tryd.prog 92 #[.pointer (some ⟨b, 0, none⟩)] w fun e w' => ∃ u', e = .returned (.tuple #[.int .i64 (headL l).1, .nilIface]) ∧ Ln w' base b (restL l).w.2.2.1 (restL l).w.2.2.2 (restL l).xs (restL l).ls u' ∧ Touch w w' b u u' := by
  obtain ⟨x, xs, ls⟩ := l
  simp only at hk hL
  cases xs with
  | nil => simp [headL] at hh
  | cons n ys =>
    rcases hk with h1 | h2
    · have e2 : restL ⟨x, n :: ys, ls⟩ = ⟨x, n :: ys, ls⟩ := by simp [restL, h1]
      rw [e2]
      obtain ⟨g, cap, rfl, hc⟩ := Ln.first hL
      rw [h1] at hL
      refine (take_sample b _ ls g _ cap n w hL.c (by omega) hc).mono ?_
      rintro e w' ⟨rfl, rfl⟩
      exact ⟨_, rfl, by simp only [h1]; exact hL, Touch.refl _ _ _⟩
    · have e2 : restL ⟨x, n :: ys, ls⟩ = ⟨x, ys, ls⟩ := by simp [restL, h2]
      rw [e2]
      rw [h2] at hL
      refine (take_queue base b _ ls n ys u w hL).mono ?_
      rintro e w' ⟨u', rfl, h3, h4⟩
      exact ⟨u', rfl, by simp only [h2]; exact h3, h4⟩
theorem dsend_l (base b : Nat) (l : LnD) (u : Value) (n : Int) (w : World) (hk : (l.w.2.2.1 = 1 ∧ l.w.2.2.2 = 1) ∨ l.w.2.2.1 = 2) (hn : 0 ≤ n ∧ n ≤ 999) (hls : 0 ≤ l.ls ∧ l.ls < 1000000000) (hx : l.xs.length ≤ 1000000) (hL : Ln w base b l.w.2.2.1 l.w.2.2.2 l.xs l.ls u) :
    Calls Tryd.prog 93 #[.pointer (some ⟨b, 0, none⟩), .int .i64 n] w fun e w' => ∃ u', e = .returned (.tuple #[.bool (fitL l), .nilIface]) ∧ Ln w' base b (putL l n).w.2.2.1 (putL l n).w.2.2.2 (putL l n).xs (putL l n).ls u' ∧ Touch w w' b u u' := by
  obtain ⟨x, xs, ls⟩ := l
  simp only at hk hls hx hL
  rcases hk with ⟨h1, h1'⟩ | h2
  · have e1 : fitL ⟨x, xs, ls⟩ = true := by simp [fitL, h1]
    have e2 : putL ⟨x, xs, ls⟩ n = ⟨x, [n], ls⟩ := by simp [putL, h1]
    rw [e1, e2]
    rw [h1, h1'] at hL
    refine (send_sample base b xs ls u n w hn.1 (by omega) hL).mono ?_
    rintro e w' ⟨u', rfl, h3, h4⟩
    exact ⟨u', rfl, by simp only [h1, h1']; exact h3, h4⟩
  · rw [h2] at hL
    by_cases hd : (xs.length : Int) < x.2.2.2
    · have e1 : fitL ⟨x, xs, ls⟩ = true := by simp [fitL, hd]
      have e2 : putL ⟨x, xs, ls⟩ n = ⟨x, xs ++ [n], ls⟩ := by simp [putL, h2, hd]
      rw [e1, e2]
      refine (send_room base b _ xs ls u n w hn.1 (by omega) hL hd hx).mono ?_
      rintro e w' ⟨u', rfl, h3, h4⟩
      exact ⟨u', rfl, by simp only [h2]; exact h3, h4⟩
    · have e1 : fitL ⟨x, xs, ls⟩ = false := by simp [fitL, h2]; omega
      have e2 : putL ⟨x, xs, ls⟩ n = ⟨x, xs, ls + 1⟩ := by simp [putL, h2, hd]
      rw [e1, e2]
      refine (send_full base b _ xs ls u n w hn.1 (by omega) hls hL (by omega)).mono ?_
      rintro e w' ⟨rfl, h3, h4⟩
      exact ⟨u, rfl, by simp only [h2]; exact h3, h4⟩
end Go.Proofs.YtajfgmlockjmhafDoor
namespace Go.Proofs.YtajfgmlockjmhafDoor
open Go.RowKit

set_option maxRecDepth 100000 in
set_option maxHeartbeats 1000000 in
theorem kbelow_yes (n b : Int) (w : World) (h0 : 0 ≤ n) (h1 : n < b) : Calls Tryd.prog 73 #[.int .i64 n, .int .i64 b] w fun e w' => e = .returned (.bool true) ∧ w' = w := by
  go_enter Tryd.func73, Tryd.ntmps73
  go_wp2
  go_ret
  exact ⟨rfl, rfl⟩
set_option maxRecDepth 100000 in
set_option maxHeartbeats 1000000 in
theorem kbelow_no (n b : Int) (w : World) (h : ¬ (0 ≤ n ∧ n < b)) : Calls Tryd.prog 73 #[.int .i64 n, .int .i64 b] w fun e w' => e = .returned (.bool false) ∧ w' = w := by
  by_cases h0 : 0 ≤ n
  · have h1 : decide (n < b) = false := by simp; omega
    clear h
    go_enter Tryd.func73, Tryd.ntmps73
    go_wp2
    go_ret
    exact ⟨rfl, rfl⟩
  · have h0' : decide (0 ≤ n) = false := by simp; omega
    clear h
    go_enter Tryd.func73, Tryd.ntmps73
    go_wp2
    go_ret
    exact ⟨rfl, rfl⟩
theorem kbelow_any (n b : Int) (w : World) : Calls Tryd.prog 73 #[.int .i64 n, .int .i64 b] w fun e w' => e = .returned (.bool (decide (0 ≤ n) && decide (n < b))) ∧ w' = w := by
  by_cases h : 0 ≤ n ∧ n < b
  · refine (kbelow_yes n b w h.1 h.2).mono ?_
    rintro e w' ⟨rfl, rfl⟩
    simp [h.1, h.2]
  · refine (kbelow_no n b w h).mono ?_
    rintro e w' ⟨rfl, rfl⟩
    refine ⟨?_, rfl⟩
    have : (decide (0 ≤ n) && decide (n < b)) = false := by
      rw [← Bool.decide_and]
      exact decide_eq_false h
    rw [this]
set_option maxRecDepth 100000 in
set_option maxHeartbeats 4000000 in
theorem gstate_any (p : PD) (k : KD) (kb base : Nat) (a : GW) (r : Int) (w : World) (h : GK w base p k kb a) :
    Calls Tryd.prog 47 #[.pointer (some ⟨kb, 0, none⟩), .int .i64 r] w fun e w' => e = .returned (.tuple #[stA (roomK k r), wErr (errB (noRoom k r))]) ∧ Below w.heap.size w w' := by
  have c3 := h.c3
  have hkb := h.lt.1
  by_cases hr : 0 ≤ r ∧ r < (k.rooms.length : Int)
  · obtain ⟨n, rfl⟩ : ∃ n : Nat, r = n := ⟨r.toNat, by omega⟩
    have hn : n < k.rooms.length := by omega
    have hni : (n : Int) < (k.rooms.length : Int) := by omega
    have hno : noRoom k n = false := by
      unfold noRoom
      rw [Bool.or_eq_false_iff]
      exact ⟨decide_eq_false (by omega), decide_eq_false (by omega)⟩
    have hrk : roomK k n = k.rooms[n] := by
      unfold roomK
      rw [if_neg (by rw [hno]; decide), Int.toNat_natCast]
      simp [List.getD, hn]
    have hst := h.rooms n k.rooms[n] (List.getElem?_eq_getElem hn)
    rw [hrk, hno]
    generalize k.rooms[n] = s at hst ⊢
    obtain ⟨s0, s1, s2, s3, s4, s5, s6, s7⟩ := hst
    have hrb := wlt s0
    have hn0 := World.new_ne w ⟨a.rb, n * 8, none⟩ s0
    have hnk := World.new_ne w ⟨kb, 3, none⟩ c3
    clear h hno hrk hr
    go_enter Tryd.func47, Tryd.ntmps47
    go_wp2_with (go_at_call 73; refine (kbelow_yes _ _ _ (by omega) hni).mono ?_; rintro e w1 ⟨rfl, hw1⟩; subst hw1)
    refine bodyPost_ret (v := .tuple #[stA s, wErr (errB false)]) ?_ rfl ⟨rfl, ?_⟩
    · simp [results, Tryd.results47, go_sem, stA, wErr, errB]
    · repeat' first | exact Below.refl _ _ | refine Below.drew ?_ | refine Below.alloc ?_ (by simp <;> omega) _ | refine Below.setCell ?_ (by simp <;> omega) _
  · have hno : noRoom k r = true := by
      unfold noRoom
      rw [Bool.or_eq_true]
      by_cases h0 : r < 0
      · exact Or.inl (decide_eq_true h0)
      · exact Or.inr (decide_eq_true (by omega))
    have hrk : roomK k r = stNew := by
      unfold roomK
      rw [if_pos hno]
    rw [hrk, hno]
    have hnk := World.new_ne w ⟨kb, 3, none⟩ c3
    clear h hno hrk
    go_enter Tryd.func47, Tryd.ntmps47
    go_wp2_with (go_at_call 73; refine (kbelow_no _ _ _ hr).mono ?_; rintro e w1 ⟨rfl, hw1⟩; subst hw1)
    refine bodyPost_ret (v := .tuple #[stA stNew, wErr (errB true)]) ?_ rfl ⟨rfl, ?_⟩
    · simp [results, Tryd.results47, go_sem, stA, stNew, wErr, errB]
    · repeat' first | exact Below.refl _ _ | refine Below.drew ?_ | refine Below.alloc ?_ (by simp <;> omega) _ | refine Below.setCell ?_ (by simp <;> omega) _
end Go.Proofs.YtajfgmlockjmhafDoor

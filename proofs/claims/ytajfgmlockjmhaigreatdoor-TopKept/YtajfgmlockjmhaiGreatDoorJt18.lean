/-
  WCon, PlCheck, WSend: joined into one text.
-/
import Derived.Test.YtajfgmlockjmhaiGreatDoorJt17
import Derived.Test.YtajfgmlockjmhaiGreatDoorJt4
import Derived.Test.YtajfgmlockjmhaiGreatDoorJt14
import Derived.Test.YtajfgmlockjmhaiGreatDoorFCheck
namespace Go.Proofs.YtajfgmlockjmhaiGreatDoor
open Go.RowKit

set_option maxRecDepth 100000 in
set_option maxHeartbeats 2000000 in
theorem wcon_idx (v : Value) (xs : List Int) (w : World) (hx : xs.length ≤ 2000000000000) (h : Rd w v xs) :
    Calls Tryz.prog 160 #[v, .func (.func 153) #[] #[]] w fun e w' => (∃ r : Int, e = .returned (.int .i64 r) ∧ decide (0 ≤ r) = xs.any woutB) ∧ w' = w := by
  rcases h with ⟨rfl, ao, cap, rfl⟩ | ⟨b, off, cap, rfl, _, _, h2, hc⟩
  · go_enter Tryz.func160, Tryz.ntmps160
    go_wp2
    refine wp_loop_rounds 1 ?_
    rw [rounds_succ]
    go_wp2
    go_ret
    exact ⟨⟨_, rfl, rfl⟩, rfl⟩
  have HC : Hid (∀ (i : Nat) y, xs[i]? = some y → w.cell? ⟨b, off + i, none⟩ = some (.int .i64 y)) := hc
  clear hc
  go_enter Tryz.func160, Tryz.ntmps160
  go_wp2
  go_loopw [8] (fun i wr => ∃ k : Nat, k ≤ xs.length ∧ i = .int .i64 k ∧ (∀ (j : Nat) y, j < k → xs[j]? = some y → woutB y = false) ∧ wr = w) (fun i _ => xs.length - (intOf i).toNat)
  case atStart => exact ⟨0, Nat.zero_le _, rfl, fun j y hj => by omega, rfl⟩
  case round =>
    obtain ⟨k, hk, rfl, hall, hwr⟩ := hrel
    subst wr
    have Hall : Hid (∀ (j : Nat) y, j < k → xs[j]? = some y → woutB y = false) := hall
    clear hall
    by_cases hkl : k < xs.length
    · have hki : (k : Int) < (xs.length : Int) := by omega
      obtain ⟨y, hy⟩ : ∃ y, xs[k]? = some y := ⟨xs[k], List.getElem?_eq_getElem hkl⟩
      have d0 := HC.out k y hy
      have HY : Hid (xs[k]? = some y) := hy
      clear hy
      have ho := wout_any y w
      cases hxy : woutB y with
      | false =>
        rw [hxy] at ho
        go_wp2_with (go_at_call 153; refine ho.mono ?_; rintro e w1 ⟨rfl, hw1⟩; subst w1; clear ho)
        go_roundw
        case rel =>
          refine ⟨k + 1, by omega, by go_num, fun j z hj hz => ?_, by trivial⟩
          by_cases hjk : j < k
          · exact Hall.out j z hjk hz
          · obtain rfl : j = k := by omega
            rw [HY.out] at hz
            obtain rfl := Option.some.inj hz
            exact hxy
        case measure => simp [intOf]; omega
      | true =>
        rw [hxy] at ho
        have HF : Hid (xs.any woutB = true) := by
          show _ = _
          rw [List.any_eq_true]
          exact ⟨y, List.mem_of_getElem? HY.out, hxy⟩
        go_wp2_with (go_at_call 153; refine ho.mono ?_; rintro e w1 ⟨rfl, hw1⟩; subst w1; clear ho)
        go_ret
        exact ⟨⟨_, rfl, by rw [HF.out]; simp⟩, rfl⟩
    · have hki : decide ((k : Int) < (xs.length : Int)) = false := decide_eq_false (by omega)
      have hki' : decide (k < xs.length) = false := decide_eq_false (by omega)
      have HF : Hid (xs.any woutB = false) := by
        show _ = _
        rw [List.any_eq_false]
        intro y hy
        obtain ⟨j, hj⟩ := List.mem_iff_getElem?.1 hy
        have := Hall.out j y (by have := (List.getElem?_eq_some_iff.1 hj).1; omega) hj
        rw [this]
        decide
      go_wp2
      go_ret
      exact ⟨⟨_, rfl, by rw [HF.out]; decide⟩, rfl⟩
set_option maxRecDepth 100000 in
set_option maxHeartbeats 2000000 in
theorem wcon_any (v : Value) (xs : List Int) (w : World) (hx : xs.length ≤ 2000000000000) (h : Rd w v xs) :
    Calls Tryz.prog 143 #[v, .func (.func 153) #[] #[]] w fun e w' => e = .returned (.bool (xs.any woutB)) ∧ w' = w := by
  have h := wcon_idx v xs w hx h
  obtain ⟨r, hr⟩ : ∃ r, r = xs.any woutB := ⟨_, rfl⟩
  rw [← hr] at h ⊢
  clear hr
  go_enter Tryz.func143, Tryz.ntmps143
  go_wp2_with (go_at_call 160; refine h.mono ?_; rintro e w1 ⟨⟨q, rfl, hq⟩, hw1⟩; subst w1; clear h)
  go_ret
  exact ⟨rfl, rfl⟩
end Go.Proofs.YtajfgmlockjmhaiGreatDoor
namespace Go.Proofs.YtajfgmlockjmhaiGreatDoor
open Go.RowKit

theorem fErr_w (e : Int) : fErr e = wErr e := rfl
theorem errV_w (e : Int) : errV e = wErr e := rfl
section
variable (p : PD) (ca sa wa : Option Addr) (cc sc wc : Nat) (w : World)
set_option maxRecDepth 100000 in
set_option maxHeartbeats 2000000 in
theorem plcheck_long (h : 5 < p.code.length) : Calls Tryz.prog 34 #[.agg #[.slice ca p.code.length cc, .int .i64 p.ticks, .slice sa p.spans.length sc, .slice wa p.wires.length wc]] w fun e w' => e = .returned (wErr 4) ∧ Below w.heap.size w w' := by
  have h5i : (5 : Int) < (p.code.length : Int) := by omega
  go_enter Tryz.func34, Tryz.ntmps34
  go_wp2
  go_ret
  exact ⟨rfl, (Below.refl _ _).alloc (Nat.le_refl _) _⟩
set_option maxRecDepth 100000 in
set_option maxHeartbeats 2000000 in
theorem plcheck_none (h : p.code.length = 0) : Calls Tryz.prog 34 #[.agg #[.slice ca p.code.length cc, .int .i64 p.ticks, .slice sa p.spans.length sc, .slice wa p.wires.length wc]] w fun e w' => e = .returned (wErr 5) ∧ Below w.heap.size w w' := by
  rw [h]
  go_enter Tryz.func34, Tryz.ntmps34
  go_wp2
  go_ret
  exact ⟨rfl, (Below.refl _ _).alloc (Nat.le_refl _) _⟩
set_option maxRecDepth 100000 in
set_option maxHeartbeats 2000000 in
theorem plcheck_frame (hp : Pln w (.slice ca p.code.length cc) (.slice sa p.spans.length sc) (.slice wa p.wires.length wc) p) (h1 : p.code.length ≤ 5) (h2 : p.code.length ≠ 0) (h3 : (fchk p.ticks p.spans).2 ≠ 0) : Calls Tryz.prog 34 #[.agg #[.slice ca p.code.length cc, .int .i64 p.ticks, .slice sa p.spans.length sc, .slice wa p.wires.length wc]] w fun e w' => e = .returned (wErr (fchk p.ticks p.spans).2) ∧ Below w.heap.size w w' := by
  have h5i : decide ((5 : Int) < (p.code.length : Int)) = false := decide_eq_false (by omega)
  have h5n : decide (5 < p.code.length) = false := decide_eq_false (by omega)
  have h0i : ¬ ((p.code.length : Int) = 0) := by omega
  have hx0 := Bx.first w (.slice ca p.code.length cc) p.ticks (.slice sa p.spans.length sc) (.slice wa p.wires.length wc)
  have q1 := fcheck_any p.ticks p.spans _ _ (hp.spans.all hx0.below)
  rw [fErr_w, wErr_not h3] at q1
  rw [wErr_not h3]
  generalize (fchk p.ticks p.spans).2 = z at q1
  generalize (fchk p.ticks p.spans).1 = y at q1
  clear hp h1 h2 h3
  go_enter Tryz.func34, Tryz.ntmps34
  go_wp2_with (go_at_call 61; refine q1.mono ?_; rintro e w1 ⟨rfl, b1⟩; clear q1)
  go_ret
  exact ⟨rfl, hx0.below.trans (b1.mono hx0.below.size)⟩
set_option maxRecDepth 100000 in
set_option maxHeartbeats 2000000 in
theorem plcheck_wires (hp : Pln w (.slice ca p.code.length cc) (.slice sa p.spans.length sc) (.slice wa p.wires.length wc) p) (h1 : p.code.length ≤ 5) (h2 : p.code.length ≠ 0) (h3 : (fchk p.ticks p.spans).2 = 0) (h4 : (wschk p.wires).2 ≠ 0) : Calls Tryz.prog 34 #[.agg #[.slice ca p.code.length cc, .int .i64 p.ticks, .slice sa p.spans.length sc, .slice wa p.wires.length wc]] w fun e w' => e = .returned (wErr (wschk p.wires).2) ∧ Below w.heap.size w w' := by
  have h5i : decide ((5 : Int) < (p.code.length : Int)) = false := decide_eq_false (by omega)
  have h5n : decide (5 < p.code.length) = false := decide_eq_false (by omega)
  have h0i : ¬ ((p.code.length : Int) = 0) := by omega
  have hx0 := Bx.first w (.slice ca p.code.length cc) p.ticks (.slice sa p.spans.length sc) (.slice wa p.wires.length wc)
  have q1 := fcheck_any p.ticks p.spans _ _ (hp.spans.all hx0.below)
  rw [h3, show fErr 0 = .nilIface from rfl] at q1
  have HQ : Hid (∀ W, Below w.heap.size w W → Calls Tryz.prog 62 #[.slice wa p.wires.length wc] W fun e w' => e = .returned (.tuple #[.int .i64 (wschk p.wires).1, .iface 93 (.int .i64 (wschk p.wires).2)]) ∧ Below W.heap.size W w') := fun W hb => by
    have := flcheck_any p.wires _ W (hp.wires.all hb)
    rw [wErr_not h4] at this
    exact this
  rw [wErr_not h4]
  generalize (wschk p.wires).2 = z at HQ
  generalize (wschk p.wires).1 = y at HQ
  generalize (fchk p.ticks p.spans).1 = x at q1
  clear hp h1 h2 h3 h4
  go_enter Tryz.func34, Tryz.ntmps34
  go_wp2_with (first
    | (go_at_call 61; refine q1.mono ?_; rintro e w1 ⟨rfl, b1⟩; clear q1; have hx1 := hx0.step b1; have k3 := hx1.c3; have q2 := HQ.out w1 hx1.below)
    | (go_at_call 62; refine q2.mono ?_; rintro e w2 ⟨rfl, b2⟩; clear q2))
  go_ret
  exact ⟨rfl, hx1.below.trans (b2.mono hx1.below.size)⟩
/-- Frame and wires are right: what namesMore answers. -/
theorem more_of (hp : Pln w (.slice ca p.code.length cc) (.slice sa p.spans.length sc) (.slice wa p.wires.length wc) p) (h3 : (fchk p.ticks p.spans).2 = 0) (h4 : (wschk p.wires).2 = 0) :
    (∀ W, Below w.heap.size w W → Calls Tryz.prog 61 #[.int .i64 p.ticks, .slice sa p.spans.length sc] W fun e w' => ∃ y : Int, e = .returned (.tuple #[.int .i64 y, .nilIface]) ∧ Below W.heap.size W w') ∧
    (∀ W, Below w.heap.size w W → Calls Tryz.prog 62 #[.slice wa p.wires.length wc] W fun e w' => ∃ y : Int, e = .returned (.tuple #[.int .i64 y, .nilIface]) ∧ Below W.heap.size W w') ∧
    ∀ W, Below w.heap.size w W → Calls Tryz.prog 63 #[.agg #[.slice ca p.code.length cc, .int .i64 p.ticks, .slice sa p.spans.length sc, .slice wa p.wires.length wc]] W fun e w' => e = .returned (.bool (p.spans.any (spanOut p.code.length) || p.wires.any (wireOut p.code.length))) ∧ Below W.heap.size W w' := by
  refine ⟨fun W hb => ?_, fun W hb => ?_, fun W hb => namesmore_any p _ _ _ W (hp.all hb) (fchk_zero h3).2.2.1 (wschk_ok h4).1⟩
  · refine (fcheck_any p.ticks p.spans _ W (hp.spans.all hb)).mono ?_
    rintro e w' ⟨rfl, h⟩
    exact ⟨_, by rw [h3]; rfl, h⟩
  · refine (flcheck_any p.wires _ W (hp.wires.all hb)).mono ?_
    rintro e w' ⟨rfl, h⟩
    exact ⟨_, by rw [h4]; rfl, h⟩
set_option maxRecDepth 100000 in
set_option maxHeartbeats 2000000 in
theorem plcheck_more (hp : Pln w (.slice ca p.code.length cc) (.slice sa p.spans.length sc) (.slice wa p.wires.length wc) p) (h1 : p.code.length ≤ 5) (h2 : p.code.length ≠ 0) (h3 : (fchk p.ticks p.spans).2 = 0) (h4 : (wschk p.wires).2 = 0) (h5 : (p.spans.any (spanOut p.code.length) || p.wires.any (wireOut p.code.length)) = true) : Calls Tryz.prog 34 #[.agg #[.slice ca p.code.length cc, .int .i64 p.ticks, .slice sa p.spans.length sc, .slice wa p.wires.length wc]] w fun e w' => e = .returned (wErr 1) ∧ Below w.heap.size w w' := by
  have h5i : decide ((5 : Int) < (p.code.length : Int)) = false := decide_eq_false (by omega)
  have h5n : decide (5 < p.code.length) = false := decide_eq_false (by omega)
  have h0i : ¬ ((p.code.length : Int) = 0) := by omega
  have hx0 := Bx.first w (.slice ca p.code.length cc) p.ticks (.slice sa p.spans.length sc) (.slice wa p.wires.length wc)
  obtain ⟨m1, m2, m3⟩ := more_of p ca sa wa cc sc wc w hp h3 h4
  rw [h5] at m3
  have q1 := m1 _ hx0.below
  have M2 : Hid (∀ W, Below w.heap.size w W → Calls Tryz.prog 62 #[.slice wa p.wires.length wc] W fun e w' => ∃ y : Int, e = .returned (.tuple #[.int .i64 y, .nilIface]) ∧ Below W.heap.size W w') := m2
  have M3 : Hid (∀ W, Below w.heap.size w W → Calls Tryz.prog 63 #[.agg #[.slice ca p.code.length cc, .int .i64 p.ticks, .slice sa p.spans.length sc, .slice wa p.wires.length wc]] W fun e w' => e = .returned (.bool true) ∧ Below W.heap.size W w') := m3
  clear hp h1 h2 h3 h4 h5 m1 m2 m3
  go_enter Tryz.func34, Tryz.ntmps34
  go_wp2_with (first
    | (go_at_call 61; refine q1.mono ?_; rintro e w1 ⟨y1, rfl, b1⟩; clear q1; have hx1 := hx0.step b1; have k3 := hx1.c3; have q2 := M2.out w1 hx1.below)
    | (go_at_call 62; refine q2.mono ?_; rintro e w2 ⟨y2, rfl, b2⟩; clear q2 k3; have hx2 := hx1.step b2; have j0 := hx2.c0; have j1 := hx2.c1; have j2 := hx2.c2; have j3 := hx2.c3; have q3 := M3.out w2 hx2.below)
    | (go_at_call 63; refine q3.mono ?_; rintro e w3 ⟨rfl, b3⟩; clear q3))
  go_ret
  exact ⟨rfl, hx2.below.trans (b3.mono hx2.below.size)⟩
end
theorem roomE_ok {ws : List W4} {i : Nat} {c : List O3} (h : (chk c).2 = 0) : roomE ws i c = if portsB ws i c = true then 3 else 0 := by
  unfold roomE
  rw [if_neg (by simpa using h)]
set_option maxRecDepth 100000 in
set_option maxHeartbeats 8000000 in
/-- checkCodes: first each code by itself, then each with the wires. -/
theorem codes_any (p : PD) (ca sa wa : Option Addr) (cc sc wc : Nat) (w : World) (hf : Forms w) (hp : Pln w (.slice ca p.code.length cc) (.slice sa p.spans.length sc) (.slice wa p.wires.length wc) p) (h1 : p.code.length ≤ 5) : Calls Tryz.prog 64 #[.agg #[.slice ca p.code.length cc, .int .i64 p.ticks, .slice sa p.spans.length sc, .slice wa p.wires.length wc]] w fun e w' => e = .returned (wErr (if codesE p.code ≠ 0 then codesE p.code else if portsAny p.wires 0 p.code = true then 3 else 0)) ∧ Below w.heap.size w w' := by
  have hx0 := Bx.first w (.slice ca p.code.length cc) p.ticks (.slice sa p.spans.length sc) (.slice wa p.wires.length wc)
  have i0 := hx0.c0
  have HP : Hid (Pln w (.slice ca p.code.length cc) (.slice sa p.spans.length sc) (.slice wa p.wires.length wc) p) := hp
  have HF : Hid (Forms w) := hf
  obtain ⟨E, hE⟩ : ∃ E, E = if codesE p.code ≠ 0 then codesE p.code else if portsAny p.wires 0 p.code = true then 3 else 0 := ⟨_, rfl⟩
  have HE : Hid (E = if codesE p.code ≠ 0 then codesE p.code else if portsAny p.wires 0 p.code = true then 3 else 0) := hE
  rw [← hE]
  clear hp hf hE
  go_enter Tryz.func64, Tryz.ntmps64
  go_wp2
  go_loopw [13] (fun i wr => ∃ k : Nat, k ≤ p.code.length ∧ i = .int .i64 k ∧ Hid (∀ (j : Nat) c, j < k → p.code[j]? = some c → (chk c).2 = 0) ∧ Bx w wr (.slice ca p.code.length cc) p.ticks (.slice sa p.spans.length sc) (.slice wa p.wires.length wc)) (fun i _ => p.code.length - (intOf i).toNat)
  case atStart => exact ⟨0, Nat.zero_le _, rfl, fun j c hj => by omega, hx0⟩
  case round =>
  clear hx0 i0
  obtain ⟨k, hk, rfl, HS, hx⟩ := hrel
  by_cases hkl : k < p.code.length
  · have hki : (k : Int) < (p.code.length : Int) := by omega
    obtain ⟨b, off, u, n, g, c, rfl, hlt, hy, d0, rfl, hops⟩ := HP.out.code.at hkl
    replace d0 := (hx.below.cell (p := ⟨b, _, none⟩) hlt).trans d0
    have HY : Hid (p.code[k]? = some c) := hy
    clear hy
    have qc := check_any _ c wr (HF.out.all hx.below) (hops.all hx.below)
    rw [errV_w] at qc
    by_cases hc0 : (chk c).2 = 0
    · rw [hc0, show wErr 0 = .nilIface from rfl] at qc
      have HC : Hid ((chk c).2 = 0) := hc0
      clear hc0 hops
      generalize (chk c).1 = y at qc
      go_wp2_with (go_at_call 98; refine qc.mono ?_; rintro e w4 ⟨rfl, b4⟩; clear qc)
      go_roundw
      case rel => exact ⟨k + 1, by omega, by go_num, fun j c' hj hc' => by
        by_cases hjk : j < k
        · exact HS.out j c' hjk hc'
        · obtain rfl : j = k := by omega
          rw [HY.out] at hc'
          obtain rfl := Option.some.inj hc'
          exact HC.out, hx.step b4⟩
      case measure => simp [intOf]; omega
    · have HX : Hid (E = (chk c).2) := by
        show _ = _
        have e := codesE_hit HS.out HY.out hc0
        rw [HE.out, e, if_pos hc0]
      have HZ : Hid (wErr (chk c).2 = .iface 93 (.int .i64 (chk c).2)) := wErr_not hc0
      rw [wErr_not hc0] at qc
      clear hc0 hops
      generalize (chk c).1 = y at qc
      generalize (chk c).2 = z at qc HX HZ
      go_wp2_with (go_at_call 98; refine qc.mono ?_; rintro e w4 ⟨rfl, b4⟩; clear qc)
      go_ret
      rw [HX.out, HZ.out]
      exact ⟨rfl, (hx.step b4).below⟩
  have hki : decide ((k : Int) < (p.code.length : Int)) = false := decide_eq_false (by omega)
  have hkn : decide (k < p.code.length) = false := decide_eq_false (by omega)
  have HE2 : Hid (E = if portsAny p.wires 0 p.code = true then 3 else 0) := by
    show _ = _
    have e := codesE_ok (l := p.code) (fun j c hj hc => HS.out j c (by omega) hc)
    rw [HE.out, e]
    rfl
  have HCK : Hid (∀ (j : Nat) c, p.code[j]? = some c → (chk c).2 = 0) := fun j c hc => HS.out j c (by have := (List.getElem?_eq_some_iff.1 hc).1; omega) hc
  have k0 := hx.c0
  clear HS HE hkl hk
  go_wp2
  rename World => wo
  go_loopw [29] (fun i wr => ∃ k : Nat, k ≤ p.code.length ∧ i = .int .i64 k ∧ Hid (∀ (j : Nat) c, j < k → p.code[j]? = some c → portsB p.wires j c = false) ∧ Bx w wr (.slice ca p.code.length cc) p.ticks (.slice sa p.spans.length sc) (.slice wa p.wires.length wc)) (fun i _ => p.code.length - (intOf i).toNat)
  case atStart => exact ⟨0, Nat.zero_le _, rfl, fun j c hj => by omega, hx⟩
  case round =>
  clear hx k0 hki hkn
  obtain ⟨k, hk, rfl, HS, hx⟩ := hrel
  have k3 := hx.c3
  by_cases hkl : k < p.code.length
  · have hki : (k : Int) < (p.code.length : Int) := by omega
    obtain ⟨b, off, u, n, g, c, rfl, hlt, hy, d0, rfl, hops⟩ := HP.out.code.at hkl
    replace d0 := (hx.below.cell (p := ⟨b, _, none⟩) hlt).trans d0
    have HY : Hid (p.code[k]? = some c) := hy
    have hck := HCK.out k c hy
    clear hy
    have qc := checkroom_any p.wires c k _ _ wr (HF.out.all hx.below) (hops.all hx.below) (HP.out.wires.all hx.below)
    rw [roomE_ok hck] at qc
    clear hck hops
    cases hpb : portsB p.wires k c with
    | false =>
      rw [hpb, if_neg (by decide), show wErr 0 = .nilIface from rfl] at qc
      have HN : Hid (portsB p.wires k c = false) := hpb
      clear hpb
      go_wp2_with (go_at_call 99; refine qc.mono ?_; rintro e w4 ⟨rfl, b4⟩; clear qc)
      go_roundw
      case rel => exact ⟨k + 1, by omega, by go_num, ports_next HS.out HY.out HN.out, hx.step b4⟩
      case measure => simp [intOf]; omega
    | true =>
      rw [hpb, if_pos rfl, show wErr 3 = .iface 93 (.int .i64 3) from rfl] at qc
      have HX : Hid (E = 3) := by show _ = _; rw [HE2.out, portsAny_hit HS.out HY.out hpb, if_pos rfl]
      clear hpb
      go_wp2_with (go_at_call 99; refine qc.mono ?_; rintro e w4 ⟨rfl, b4⟩; clear qc)
      go_ret
      rw [HX.out]
      exact ⟨rfl, (hx.step b4).below⟩
  have hki : decide ((k : Int) < (p.code.length : Int)) = false := decide_eq_false (by omega)
  have hkn : decide (k < p.code.length) = false := decide_eq_false (by omega)
  have HX : Hid (E = 0) := by
    show _ = _
    have e := portsAny_ok (ws := p.wires) (l := p.code) (fun j c hj hc => HS.out j c (by omega) hc)
    rw [HE2.out, e]
    rfl
  clear HS
  go_wp2
  go_ret
  rw [HX.out]
  exact ⟨rfl, hx.below⟩
set_option maxRecDepth 100000 in
set_option maxHeartbeats 2000000 in
theorem plcheck_codes (p : PD) (ca sa wa : Option Addr) (cc sc wc : Nat) (w : World) (hf : Forms w) (hp : Pln w (.slice ca p.code.length cc) (.slice sa p.spans.length sc) (.slice wa p.wires.length wc) p) (h1 : p.code.length ≤ 5) (h2 : p.code.length ≠ 0) (h3 : (fchk p.ticks p.spans).2 = 0) (h4 : (wschk p.wires).2 = 0) (h5 : (p.spans.any (spanOut p.code.length) || p.wires.any (wireOut p.code.length)) = false) : Calls Tryz.prog 34 #[.agg #[.slice ca p.code.length cc, .int .i64 p.ticks, .slice sa p.spans.length sc, .slice wa p.wires.length wc]] w fun e w' => e = .returned (wErr (if codesE p.code ≠ 0 then codesE p.code else if portsAny p.wires 0 p.code = true then 3 else 0)) ∧ Below w.heap.size w w' := by
  have h5i : decide ((5 : Int) < (p.code.length : Int)) = false := decide_eq_false (by omega)
  have h5n : decide (5 < p.code.length) = false := decide_eq_false (by omega)
  have h0i : ¬ ((p.code.length : Int) = 0) := by omega
  have hx0 := Bx.first w (.slice ca p.code.length cc) p.ticks (.slice sa p.spans.length sc) (.slice wa p.wires.length wc)
  obtain ⟨m1, m2, m3⟩ := more_of p ca sa wa cc sc wc w hp h3 h4
  rw [h5] at m3
  have q1 := m1 _ hx0.below
  have M2 : Hid (∀ W, Below w.heap.size w W → Calls Tryz.prog 62 #[.slice wa p.wires.length wc] W fun e w' => ∃ y : Int, e = .returned (.tuple #[.int .i64 y, .nilIface]) ∧ Below W.heap.size W w') := m2
  have M3 : Hid (∀ W, Below w.heap.size w W → Calls Tryz.prog 63 #[.agg #[.slice ca p.code.length cc, .int .i64 p.ticks, .slice sa p.spans.length sc, .slice wa p.wires.length wc]] W fun e w' => e = .returned (.bool false) ∧ Below W.heap.size W w') := m3
  have M4 : Hid (∀ W, Below w.heap.size w W → Calls Tryz.prog 64 #[.agg #[.slice ca p.code.length cc, .int .i64 p.ticks, .slice sa p.spans.length sc, .slice wa p.wires.length wc]] W fun e w' => e = .returned (wErr (if codesE p.code ≠ 0 then codesE p.code else if portsAny p.wires 0 p.code = true then 3 else 0)) ∧ Below W.heap.size W w') := fun W hb => codes_any p ca sa wa cc sc wc W (hf.all hb) (hp.all hb) h1
  generalize (if codesE p.code ≠ 0 then codesE p.code else if portsAny p.wires 0 p.code = true then 3 else 0) = E at M4 ⊢
  generalize wErr E = V at M4 ⊢
  clear hp hf h2 h3 h4 h5 m1 m2 m3
  go_enter Tryz.func34, Tryz.ntmps34
  go_wp2_with (first
    | (go_at_call 61; refine q1.mono ?_; rintro e w1 ⟨y1, rfl, b1⟩; clear q1; have hx1 := hx0.step b1; have k3 := hx1.c3; have q2 := M2.out w1 hx1.below)
    | (go_at_call 62; refine q2.mono ?_; rintro e w2 ⟨y2, rfl, b2⟩; clear q2 k3; have hx2 := hx1.step b2; have j0 := hx2.c0; have j1 := hx2.c1; have j2 := hx2.c2; have j3 := hx2.c3; have q3 := M3.out w2 hx2.below)
    | (go_at_call 63; refine q3.mono ?_; rintro e w3 ⟨rfl, b3⟩; clear q3 j0 j1 j2 j3; have hx3 := hx2.step b3; have i0 := hx3.c0; have i1 := hx3.c1; have i2 := hx3.c2; have i3 := hx3.c3; have q4 := M4.out w3 hx3.below)
    | (go_at_call 64; refine q4.mono ?_; rintro e w4 ⟨rfl, b4⟩; clear q4))
  go_ret
  exact ⟨rfl, hx3.below.trans (b4.mono hx3.below.size)⟩
theorem plcheck_any (p : PD) (vc vs vw : Value) (w : World) (hf : Forms w) (hp : Pln w vc vs vw p) :
    Calls Tryz.prog 34 #[plV vc p.ticks vs vw] w fun e w' => e = .returned (wErr (plchk p)) ∧ Below w.heap.size w w' := by
  obtain ⟨ca, cc, rfl⟩ := hp.code.form
  obtain ⟨sa, sc, rfl⟩ := hp.spans.form
  obtain ⟨wa, wc, rfl⟩ := hp.wires.form
  by_cases h1 : 5 < p.code.length
  · rw [plchk_long h1]
    exact plcheck_long p ca sa wa cc sc wc w h1
  by_cases h2 : p.code.length = 0
  · rw [plchk_none h2]
    exact plcheck_none p ca sa wa cc sc wc w h2
  have h1' : p.code.length ≤ 5 := by omega
  by_cases h3 : (fchk p.ticks p.spans).2 = 0
  · by_cases h4 : (wschk p.wires).2 = 0
    · cases h5 : p.spans.any (spanOut p.code.length) with
      | true =>
        rw [plchk_span h1' h2 h3 h4 h5]
        exact plcheck_more p ca sa wa cc sc wc w hp h1' h2 h3 h4 (by rw [h5]; rfl)
      | false =>
        cases h6 : p.wires.any (wireOut p.code.length) with
        | true =>
          rw [plchk_wire h1' h2 h3 h4 h5 h6]
          exact plcheck_more p ca sa wa cc sc wc w hp h1' h2 h3 h4 (by rw [h5, h6]; rfl)
        | false =>
          rw [plchk_tail h1' h2 h3 h4 h5 h6]
          exact plcheck_codes p ca sa wa cc sc wc w hf hp h1' h2 h3 h4 (by rw [h5, h6]; rfl)
    · rw [plchk_wires h1' h2 h3 h4]
      exact plcheck_wires p ca sa wa cc sc wc w hp h1' h2 h3 h4
  · rw [plchk_frame h1' h2 h3]
    exact plcheck_frame p ca sa wa cc sc wc w hp h1' h2 h3
end Go.Proofs.YtajfgmlockjmhaiGreatDoor
namespace Go.Proofs.YtajfgmlockjmhaiGreatDoor
open Go.RowKit

set_option maxRecDepth 100000 in
set_option maxHeartbeats 2000000 in
theorem wnew_ok (f t k d : Int) (w : World) (h : wchk f t k d = 0) : Calls Tryz.prog 38 #[wV f t k d] w fun e w' => ∃ b, e = .returned (.tuple #[.pointer (some ⟨b, 0, none⟩), .nilIface]) ∧ LnC w' b k d 0 (.slice none 0 0) ∧ w.heap.size ≤ b ∧ b < w'.heap.size ∧ Below w.heap.size w w' := by
  have hA : Below w.heap.size w (w.alloc (.cells #[.int .i64 f, .int .i64 t, .int .i64 k, .int .i64 d] 89)) := (Below.refl _ _).alloc (Nat.le_refl _) _
  have hc := wcheck_any f t k d (w.alloc (.cells #[.int .i64 f, .int .i64 t, .int .i64 k, .int .i64 d] 89))
  rw [h] at hc
  have hc' : Calls Tryz.prog 65 #[wV f t k d] (w.alloc (.cells #[.int .i64 f, .int .i64 t, .int .i64 k, .int .i64 d] 89)) fun e w' => e = .returned .nilIface ∧ Below (w.heap.size + 1) (w.alloc (.cells #[.int .i64 f, .int .i64 t, .int .i64 k, .int .i64 d] 89)) w' := hc.mono fun e w' ⟨h1, h2⟩ => ⟨h1, by simpa using h2⟩
  clear h hc
  unfold wV at hc' ⊢
  go_enter Tryz.func38, Tryz.ntmps38
  go_wp2_with (go_at_call 65; refine hc'.mono ?_; rintro e w1 ⟨rfl, b1⟩; clear hc'; have r2 : w1.cell? ⟨w.heap.size, 2, none⟩ = some (.int .i64 k) := (b1.cell (p := ⟨w.heap.size, 2, none⟩) (by simp)).trans (by simp); have r3 : w1.cell? ⟨w.heap.size, 3, none⟩ = some (.int .i64 d) := (b1.cell (p := ⟨w.heap.size, 3, none⟩) (by simp)).trans (by simp))
  go_ret2
  have hz : w.heap.size + 1 ≤ w1.heap.size := by have := b1.size; simpa using this
  refine ⟨w1.heap.size, rfl, ⟨by simp, by simp, by simp, by simp, by simp, by simp⟩, by omega, by simp, ?_⟩
  exact (hA.trans (b1.mono (by omega))).alloc (by omega) _

set_option maxRecDepth 100000 in
set_option maxHeartbeats 4000000 in
theorem send_full (base b : Nat) (dp : Int) (xs : List Int) (ls : Int) (v : Value) (n : Int) (w : World) (hn0 : 0 ≤ n) (hn1 : n < 1000) (hls : 0 ≤ ls ∧ ls < 1000000000) (hL : Ln w base b 2 dp xs ls v) (hdp : dp ≤ (xs.length : Int)) :
    Calls Tryz.prog 124 #[.pointer (some ⟨b, 0, none⟩), .int .i64 n] w fun e w' => e = .returned (.tuple #[.bool false, .nilIface]) ∧ Ln w' base b 2 dp xs (ls + 1) v ∧ Touch w w' b v v := by
  have hcc := hL.c
  have hlt := hcc.lt
  obtain ⟨c0, c1, c2, c3, f2, f3⟩ := hcc
  obtain ⟨ao, cap, rfl⟩ : ∃ ao cap, v = .slice ao xs.length cap := by
    rcases row_form hL.row with ⟨rfl, h⟩ | ⟨g, cap, rfl⟩
    · exact ⟨_, _, by rw [h]⟩
    · exact ⟨_, _, rfl⟩
  have HL : Hid (Ln w base b 2 dp xs ls (.slice ao xs.length cap)) := hL
  clear hL
  obtain ⟨hls0, hls1⟩ := hls
  go_enter Tryz.func124, Tryz.ntmps124
  go_wp2_with (go_at_call 153; refine (wout_no n _ hn0 hn1).mono ?_; rintro e wz ⟨rfl, hwz⟩; subst wz)
  go_quiet (fail)
  go_wp2
  go_ret2
  have hq := HL.out.below (below_dN (Below.refl _ w) nq)
  exact ⟨rfl, ⟨hq.c.lost _, ownsRow_setCell_below hq.row (a := ⟨b, 3, none⟩) hq.lt _, hq.lt, by have := hq.le; simpa using this⟩, ((Touch.refl w b _).dN nq).set 3 _⟩

set_option maxRecDepth 100000 in
set_option maxHeartbeats 4000000 in
theorem send_room (base b : Nat) (dp : Int) (xs : List Int) (ls : Int) (v : Value) (n : Int) (w : World) (hn0 : 0 ≤ n) (hn1 : n < 1000) (hL : Ln w base b 2 dp xs ls v) (hdp : (xs.length : Int) < dp) (hx : xs.length ≤ 1000000) :
    Calls Tryz.prog 124 #[.pointer (some ⟨b, 0, none⟩), .int .i64 n] w fun e w' => ∃ v', e = .returned (.tuple #[.bool true, .nilIface]) ∧ Ln w' base b 2 dp (xs ++ [n]) ls v' ∧ Touch w w' b v v' := by
  obtain ⟨ii, hi, hz0, hz1, hz2⟩ := info_parts infoInt
  have hcc := hL.c
  have hlt := hcc.lt
  obtain ⟨c0, c1, c2, c3, f2, f3⟩ := hcc
  obtain ⟨ao, cap, rfl⟩ : ∃ ao cap, v = .slice ao xs.length cap := by
    rcases row_form hL.row with ⟨rfl, h⟩ | ⟨g, cap, rfl⟩
    · exact ⟨_, _, by rw [h]⟩
    · exact ⟨_, _, rfl⟩
  have HL : Hid (Ln w base b 2 dp xs ls (.slice ao xs.length cap)) := hL
  clear hL
  go_enter Tryz.func124, Tryz.ntmps124
  go_wp2_with (go_at_call 153; refine (wout_no n _ hn0 hn1).mono ?_; rintro e wz ⟨rfl, hwz⟩; subst wz)
  go_quiet (fail)
  have hq := HL.out.below (below_dN (Below.refl _ w) nq)
  have HQ : Hid (Ln (w.drewN nq) base b 2 dp xs ls (.slice ao xs.length cap)) := hq
  have hrow := hq.row
  clear hq
  go_wp2_with (at_builtin; refine wpList_append_at _ rfl _ _ 58 rfl base 3 ii (.int .i64 0) 1 8 Tryz.underlying58 hi hz0 hz1 hz2 rfl (by decide) _ _ _ rfl (hrow.alloc _) ⟨(w.drewN nq).heap.size, 0, none⟩ 1 1 [.int .i64 n] rfl rfl ?c1A ?c2A ?c3A ?c4A ?c5A ?_)
  case c1A => exact one_new _ _ _
  case c2A => exact one_one n
  case c3A => unfold maxLen; omega
  case c4A => omega
  case c5A => have := HQ.out.le; simp at this ⊢; omega
  intro v1 w2 own1 hg1 hat1
  have hne1 : some b ≠ (Value.slice ao xs.length cap).ownBlock := fun e => by have := (hrow.lt _ e.symm).1; have := HQ.out.lt; omega
  have hs1 : w.heap.size + 1 ≤ w2.heap.size := by have := hg1.size; simpa using this
  have hT : Touch w w2 b (.slice ao xs.length cap) v1 := (((Touch.refl w b _).dN nq).alloc _).grown hg1 (fun k hk => by have := hat1 k hk; simpa using this)
  have hc2 : LnC w2 b 2 dp ls (.slice ao xs.length cap) := (HQ.out.c.block (Below.heap_alloc _ _ _ (by simpa using hlt))).block (hg1.block b (by simp; omega) hne1)
  have HC : Hid (LnC w2 b 2 dp ls (.slice ao xs.length cap)) := hc2
  obtain ⟨k0, k1, k2, k3, k4, k5⟩ := hc2
  clear hrow hg1 hat1 c0 c1 c2 c3 f2 f3 k0 k1 k3 k5
  have hlt2 : b < w2.heap.size := by omega
  have hrow2 := ownsRow_setCell_below own1 (a := ⟨b, 2, none⟩) HQ.out.lt v1
  obtain ⟨g1, cap1, rfl⟩ : ∃ g cap, v1 = .slice (some ⟨g, 0, none⟩) (xs.length + 1) cap := by
    rcases row_form own1 with ⟨_, h⟩ | h
    · omega
    · exact h
  clear own1
  go_wp2
  go_ret2
  exact ⟨_, rfl, ⟨HC.out.items _, by rw [ints_snoc, List.length_append]; exact hrow2, HQ.out.lt, by have := HQ.out.le; simp at this ⊢; omega⟩, hT.set 2 _⟩

set_option maxRecDepth 100000 in
set_option maxHeartbeats 4000000 in
theorem send_sample (base b : Nat) (xs : List Int) (ls : Int) (v : Value) (n : Int) (w : World) (hn0 : 0 ≤ n) (hn1 : n < 1000) (hL : Ln w base b 1 1 xs ls v) :
    Calls Tryz.prog 124 #[.pointer (some ⟨b, 0, none⟩), .int .i64 n] w fun e w' => ∃ v', e = .returned (.tuple #[.bool true, .nilIface]) ∧ Ln w' base b 1 1 [n] ls v' ∧ Touch w w' b v v' := by
  obtain ⟨ii, hi, hz0, hz1, hz2⟩ := info_parts infoInt
  have hcc := hL.c
  have hlt := hcc.lt
  obtain ⟨c0, c1, c2, c3, f2, f3⟩ := hcc
  have HL : Hid (Ln w base b 1 1 xs ls v) := hL
  have hrw := hL.row
  clear hL
  rcases row_form hrw with ⟨rfl, hx0⟩ | ⟨g, cap, rfl⟩
  · have hrow0 := World.ownsRow_nil w base 3 1
    clear hrw
    have hL1 : Ln (w.setCell ⟨b, 2, none⟩ (.slice none 0 0)) base b 1 1 [] ls (.slice none 0 0) := ⟨HL.out.c.items _, ownsRow_setCell_below hrow0 (a := ⟨b, 2, none⟩) HL.out.lt _, HL.out.lt, by have := HL.out.le; simpa using this⟩
    have hT1 : Touch w (w.setCell ⟨b, 2, none⟩ (.slice none 0 0)) b (.slice none 0 0) (.slice none 0 0) := ((Touch.refl w b _).set 2 _).cut rfl
    have HL1 : Hid (Ln (w.setCell ⟨b, 2, none⟩ (.slice none 0 0)) base b 1 1 [] ls (.slice none 0 0)) := hL1
    clear hL1
    go_enter Tryz.func124, Tryz.ntmps124
    go_wp2_with (go_at_call 153; refine (wout_no n _ hn0 hn1).mono ?_; rintro e wz ⟨rfl, hwz⟩; subst wz)
    go_quiet (fail)
    have hq := HL1.out.below (below_dN (Below.refl _ _) nq)
    have HQ : Hid (Ln ((w.setCell ⟨b, 2, none⟩ (.slice none 0 0)).drewN nq) base b 1 1 [] ls (.slice none 0 0)) := hq
    have hrow := hq.row
    clear hq
    go_wp2_with (at_builtin; refine wpList_append_at _ rfl _ _ 58 rfl base 3 ii (.int .i64 0) 1 8 Tryz.underlying58 hi hz0 hz1 hz2 rfl (by decide) _ _ _ rfl (hrow.alloc _) ⟨w.heap.size, 0, none⟩ 1 1 [.int .i64 n] rfl rfl ?c1A ?c2A ?c3A ?c4A ?c5A ?_)
    case c1A => exact one_new_at (by simp) _ _
    case c2A => exact one_one n
    case c3A => unfold maxLen; simp
    case c4A => simp
    case c5A => have := HQ.out.le; simp at this ⊢; omega
    intro v1 w2 own1 hg1 hat1
    have hne1 : some b ≠ (Value.slice none 0 0).ownBlock := fun e => by have := (hrow.lt _ e.symm).1; have := HQ.out.lt; omega
    have hs1 : w.heap.size + 1 ≤ w2.heap.size := by have := hg1.size; simpa using this
    have hT : Touch w w2 b (.slice none 0 0) v1 := ((hT1.dN nq).alloc _).grown hg1 (fun k hk => by have := hat1 k hk; simpa using this)
    have hc2 : LnC w2 b 1 1 ls (.slice none 0 0) := (HQ.out.c.block (Below.heap_alloc _ _ _ (by simpa using hlt))).block (hg1.block b (by simp; omega) hne1)
    have HC : Hid (LnC w2 b 1 1 ls (.slice none 0 0)) := hc2
    obtain ⟨k0, k1, k2, k3, k4, k5⟩ := hc2
    clear hrow hg1 hat1 c0 c1 c2 c3 f2 f3 k0 k1 k3 k5
    have hlt2 : b < w2.heap.size := by omega
    have hrow2 := ownsRow_setCell_below own1 (a := ⟨b, 2, none⟩) HQ.out.lt v1
    obtain ⟨g1, cap1, rfl⟩ : ∃ g cap, v1 = .slice (some ⟨g, 0, none⟩) 1 cap := by
      rcases row_form own1 with ⟨_, h⟩ | h
      · simp at h
      · simpa using h
    clear own1
    go_wp2
    go_ret2
    exact ⟨_, rfl, ⟨HC.out.items _, hrow2, HQ.out.lt, by have := HQ.out.le; simp at this ⊢; omega⟩, hT.set 2 _⟩
  · obtain ⟨hg0, hg1, hg2, hg3, _, _, _⟩ := own_cap hrw
    have hrow0 := own_cut hrw (Nat.zero_le _)
    unfold maxLen at hg3
    clear hrw
    have hL1 : Ln (w.setCell ⟨b, 2, none⟩ (.slice (some ⟨g, 0, none⟩) 0 cap)) base b 1 1 [] ls (.slice (some ⟨g, 0, none⟩) 0 cap) := ⟨HL.out.c.items _, ownsRow_setCell_below hrow0 (a := ⟨b, 2, none⟩) HL.out.lt _, HL.out.lt, by have := HL.out.le; simpa using this⟩
    have hT1 : Touch w (w.setCell ⟨b, 2, none⟩ (.slice (some ⟨g, 0, none⟩) 0 cap)) b (.slice (some ⟨g, 0, none⟩) xs.length cap) (.slice (some ⟨g, 0, none⟩) 0 cap) := ((Touch.refl w b _).set 2 _).cut rfl
    have HL1 : Hid (Ln (w.setCell ⟨b, 2, none⟩ (.slice (some ⟨g, 0, none⟩) 0 cap)) base b 1 1 [] ls (.slice (some ⟨g, 0, none⟩) 0 cap)) := hL1
    clear hL1
    go_enter Tryz.func124, Tryz.ntmps124
    go_wp2_with (go_at_call 153; refine (wout_no n _ hn0 hn1).mono ?_; rintro e wz ⟨rfl, hwz⟩; subst wz)
    go_quiet (fail)
    have hq := HL1.out.below (below_dN (Below.refl _ _) nq)
    have HQ : Hid (Ln ((w.setCell ⟨b, 2, none⟩ (.slice (some ⟨g, 0, none⟩) 0 cap)).drewN nq) base b 1 1 [] ls (.slice (some ⟨g, 0, none⟩) 0 cap)) := hq
    have hrow := hq.row
    clear hq
    go_wp2_with (at_builtin; refine wpList_append_at _ rfl _ _ 58 rfl base 3 ii (.int .i64 0) 1 8 Tryz.underlying58 hi hz0 hz1 hz2 rfl (by decide) _ _ _ rfl (hrow.alloc _) ⟨w.heap.size, 0, none⟩ 1 1 [.int .i64 n] rfl rfl ?c1A ?c2A ?c3A ?c4A ?c5A ?_)
    case c1A => exact one_new_at (by simp) _ _
    case c2A => exact one_one n
    case c3A => unfold maxLen; simp
    case c4A => simp
    case c5A => have := HQ.out.le; simp at this ⊢; omega
    intro v1 w2 own1 hg1 hat1
    have hne1 : some b ≠ (Value.slice (some ⟨g, 0, none⟩) 0 cap).ownBlock := fun e => by have := (hrow.lt _ e.symm).1; have := HQ.out.lt; omega
    have hs1 : w.heap.size + 1 ≤ w2.heap.size := by have := hg1.size; simpa using this
    have hT : Touch w w2 b (.slice (some ⟨g, 0, none⟩) xs.length cap) v1 := ((hT1.dN nq).alloc _).grown hg1 (fun k hk => by have := hat1 k hk; simpa using this)
    have hc2 : LnC w2 b 1 1 ls (.slice (some ⟨g, 0, none⟩) 0 cap) := (HQ.out.c.block (Below.heap_alloc _ _ _ (by simpa using hlt))).block (hg1.block b (by simp; omega) hne1)
    have HC : Hid (LnC w2 b 1 1 ls (.slice (some ⟨g, 0, none⟩) 0 cap)) := hc2
    obtain ⟨k0, k1, k2, k3, k4, k5⟩ := hc2
    clear hrow hg1 hat1 c0 c1 c2 c3 f2 f3 k0 k1 k3 k5
    have hlt2 : b < w2.heap.size := by omega
    have hrow2 := ownsRow_setCell_below own1 (a := ⟨b, 2, none⟩) HQ.out.lt v1
    obtain ⟨g1, cap1, rfl⟩ : ∃ g cap, v1 = .slice (some ⟨g, 0, none⟩) 1 cap := by
      rcases row_form own1 with ⟨_, h⟩ | h
      · simp at h
      · simpa using h
    clear own1
    go_wp2
    go_ret2
    exact ⟨_, rfl, ⟨HC.out.items _, hrow2, HQ.out.lt, by have := HQ.out.le; simp at this ⊢; omega⟩, hT.set 2 _⟩
end Go.Proofs.YtajfgmlockjmhaiGreatDoor

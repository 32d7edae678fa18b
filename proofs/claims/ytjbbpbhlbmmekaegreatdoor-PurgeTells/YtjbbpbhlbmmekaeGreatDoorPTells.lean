/-
  The law PurgeTells: the walk, under what package purge does.
-/
import Derived.Test.YtjbbpbhlbmmekaeGreatDoorJb4
import Derived.Test.YtjbbpbhlbmmekaeGreatDoorStTwo
import Derived.Test.YtjbbpbhlbmmekaeGreatDoorSamePlan
import Derived.Deep.CutRange
import Derived.Deep.CutBlock
import Derived.Deep.RegionWith
import Derived.Deep.RegionHeld3
import Derived.BigQuiet
import Derived.RangeFuncNested
namespace Go.Proofs.YtjbbpbhlbmmekaeGreatDoor
open Go.RowKit

/-- A plan that is short enough to be held against another one. -/
theorem plan_short {p : PD} (hp : plchk p = 0) : p.code.length ≤ 1000 ∧ p.spans.length ≤ 1000 ∧ p.wires.length ≤ 1000 ∧ ∀ c ∈ p.code, c.length ≤ 1000 := by
  obtain ⟨h1, _, h2, h3, _, _, h4, _⟩ := plchk_zero hp
  have h5 := (fchk_zero h2).2.2.1
  have h6 := (wschk_ok h3).1
  exact ⟨by omega, by omega, by omega, fun c hc => by have := (chk_zero (codesE_zero h4 c hc)).2.1; omega⟩
theorem prg_short (p : PD) (r : Int) : (prgP p r).code.length ≤ 1000 ∧ (prgP p r).spans.length ≤ 1000 ∧ (prgP p r).wires.length ≤ 1000 ∧ ∀ c ∈ (prgP p r).code, c.length ≤ 1000 := by
  unfold prgP
  split
  · rename_i h
    exact plan_short (purge_right _ (prgE_zero h).1)
  · exact ⟨by simp [noPlan], by simp [noPlan], by simp [noPlan], fun c hc => by simp [noPlan] at hc⟩
set_option maxRecDepth 100000 in
set_option maxHeartbeats 16000000 in
theorem ptells_of {G : World → Prop} (hall : ∀ w w', G w → Below w.heap.size w w' → G w') (P : PrgPurge G) (S : PrgSame G) (hE : ∀ (e : Int) (W : World), G W → Calls Tryz.prog 7 #[wErr e, .int .i64 e] W fun r w' => r = .returned (.bool true) ∧ Below W.heap.size W w')
    (hR : ∀ (p : PD) (vc vs vw : Value) (W : World), Pln W vc vs vw p → Calls Tryz.prog 4 #[plV vc p.ticks vs vw] W fun e w' => e = .returned (.int .i64 (plchk p)) ∧ Below W.heap.size W w')
    (hPu : ∀ (p : PD) (vc vs vw : Value) (r : Nat) (w0 w : World), plchk p = 0 → Pln w0 vc vs vw p → Below w0.heap.size w0 w → r < p.code.length → Calls Tryz.prog 5 #[plV vc p.ticks vs vw, .int .i64 r] w fun e w' => ∃ ic, e = .returned (plV ic p.ticks vs vw) ∧ (∀ M W', KTouch M w' W' → (∀ m ∈ M, w0.heap.size ≤ m ∧ m < w.heap.size) → Pln W' ic vs vw (purgeP p (fun i => way p.wires i r))) ∧ Below w.heap.size w w')
    (hSt : ∀ (p : PD) (vc vs vw : Value) (n r : Nat) (w : World), plchk p = 0 → Pln w vc vs vw p → n ≤ 2000 → r < p.code.length → Calls Tryz.prog 9 #[plV vc p.ticks vs vw, .int .i64 n, .int .i64 r] w fun e w' => ∃ v, e = .returned v ∧ StL w' v (statesK p n r) ∧ Below w.heap.size w w')
    (p q : PD) (vc vs vw ic is iw : Value) (n r : Int) (w : World) (hG : G w) (hP : Pln w vc vs vw p) (hQ : Pln w ic is iw q) :
    Calls Tryz.prog 3 #[plV vc p.ticks vs vw, plV ic q.ticks is iw, .int .i64 n, .int .i64 r] w fun e w' => e = .returned (.bool true) ∧ Below w.heap.size w w' := by
  obtain ⟨ca, cc, rfl⟩ := hP.code.form
  obtain ⟨sa, sc, rfl⟩ := hP.spans.form
  obtain ⟨wa, wc', rfl⟩ := hP.wires.form
  obtain ⟨xa, xc, rfl⟩ := hQ.code.form
  obtain ⟨ya, yc, rfl⟩ := hQ.spans.form
  obtain ⟨za, zc', rfl⟩ := hQ.wires.form
  have hx0 := Bxt.first w (.slice ca p.code.length cc) p.ticks (.slice sa p.spans.length sc) (.slice wa p.wires.length wc') (.slice xa q.code.length xc) q.ticks (.slice ya q.spans.length yc) (.slice za q.wires.length zc')
  have HP : Hid (Pln w (.slice ca p.code.length cc) (.slice sa p.spans.length sc) (.slice wa p.wires.length wc') p) := hP
  have HQ : Hid (Pln w (.slice xa q.code.length xc) (.slice ya q.spans.length yc) (.slice za q.wires.length zc') q) := hQ
  have HG : Hid (∀ W, Below w.heap.size w W → G W) := fun W hb => hall w W hG hb
  have HE : Hid (∀ (e : Int) (W : World), Below w.heap.size w W → Calls Tryz.prog 7 #[wErr e, .int .i64 e] W fun r w' => r = .returned (.bool true) ∧ Below W.heap.size W w') := fun e W hb => hE e W (HG.out W hb)
  have HRp : Hid (∀ W, Below w.heap.size w W → Calls Tryz.prog 4 #[.agg #[.slice ca p.code.length cc, .int .i64 p.ticks, .slice sa p.spans.length sc, .slice wa p.wires.length wc']] W fun e w' => e = .returned (.int .i64 (plchk p)) ∧ Below W.heap.size W w') := fun W hb => hR p _ _ _ W (HP.out.all hb)
  have HRq : Hid (∀ W, Below w.heap.size w W → Calls Tryz.prog 4 #[.agg #[.slice xa q.code.length xc, .int .i64 q.ticks, .slice ya q.spans.length yc, .slice za q.wires.length zc']] W fun e w' => e = .returned (.int .i64 (plchk q)) ∧ Below W.heap.size W w') := fun W hb => hR q _ _ _ W (HQ.out.all hb)
  unfold plV
  clear hP hQ hG hE hR
  go_enter Tryz.func3, Tryz.ntmps3
  go_upto_region 1 with fail
  generalize hWA : (w.alloc (.cells #[.slice ca p.code.length cc, .int .i64 p.ticks, .slice sa p.spans.length sc, .slice wa p.wires.length wc'] 26)).alloc (.cells #[.slice xa q.code.length xc, .int .i64 q.ticks, .slice ya q.spans.length yc, .slice za q.wires.length zc'] 26) = WA at hx0 ⊢
  clear hWA
  go_cut [26] from 21 to 25 (fun s26 wx => s26 = .bool (decide (200 < n ∧ n ≤ 2000)) ∧ wx = WA)
  case first =>
    by_cases h1 : 200 < n
    · by_cases h2 : n ≤ 2000
      · have h2' : decide (n ≤ 2000) = true := decide_eq_true h2
        have h1' : decide (200 < n) = true := decide_eq_true h1
        have HX : Hid (decide (200 < n ∧ n ≤ 2000) = true) := decide_eq_true ⟨h1, h2⟩
        go_wp2_with fail
        go_meet
        case rel => exact ⟨by rw [HX.out], rfl⟩
      · have h2' : decide (n ≤ 2000) = false := decide_eq_false h2
        have h1' : decide (200 < n) = true := decide_eq_true h1
        have HX : Hid (decide (200 < n ∧ n ≤ 2000) = false) := decide_eq_false (fun e => h2 e.2)
        go_wp2_with fail
        go_meet
        case rel => exact ⟨by rw [HX.out], rfl⟩
    · have h1' : decide (200 < n) = false := decide_eq_false h1
      have HX : Hid (decide (200 < n ∧ n ≤ 2000) = false) := decide_eq_false (fun e => h1 e.1)
      go_wp2_with fail
      go_meet
      case rel => exact ⟨by rw [HX.out], rfl⟩
  case rest =>
  obtain ⟨rfl, hwx⟩ := hcut
  rw [hwx]
  clear hwx
  go_step
  go_cut [2] from 26 to 28 (fun s2 wx => s2 = .int .i64 (nnP n) ∧ wx = WA)
  case first =>
    by_cases h0 : 200 < n ∧ n ≤ 2000
    · have HX : Hid (nnP n = n % 200) := by show _ = _; unfold nnP; rw [if_pos h0]
      have hd : decide (200 < n ∧ n ≤ 2000) = true := decide_eq_true h0
      rw [hd]
      clear hd
      obtain ⟨h1, h2⟩ := h0
      go_wp2_with fail
      go_meet
      case rel => exact ⟨by rw [HX.out], rfl⟩
    · have HX : Hid (nnP n = n) := by show _ = _; unfold nnP; rw [if_neg h0]
      have hd : decide (200 < n ∧ n ≤ 2000) = false := decide_eq_false h0
      rw [hd]
      clear h0 hd
      go_wp2_with fail
      go_meet
      case rel => exact ⟨by rw [HX.out], rfl⟩
  case rest =>
  obtain ⟨rfl, hwx⟩ := hcut
  rw [hwx]
  clear hwx
  generalize nnP n = nn at *
  clear n
  have hc := hx0.cs
  obtain ⟨k0, k1, k2, k3⟩ := hc
  have q1 := HRp.out WA hx0.below
  have HF := prgE_two p r
  have HFE : Hid (prgE p r = if plchk p = 0 ∧ (r < 0 ∨ (p.code.length : Int) ≤ r) then 1 else plchk p) := HF
  clear HF
  obtain ⟨z, hz⟩ : ∃ z, plchk p = z := ⟨_, rfl⟩
  have HZ : Hid (plchk p = z) := hz
  rw [hz] at q1 HFE
  clear hz
  go_upto_region 5 with (go_at_call 4; refine q1.mono ?_; rintro e w1 ⟨rfl, b1⟩; clear q1)
  have hx1 := hx0.step b1
  clear b1 hx0 k0 k1 k2 k3
  obtain ⟨k0, k1, k2, k3⟩ := hx1.cs
  go_cut [44] from 32 to 43 (fun s44 wx => s44 = .bool (decide (z = 0 ∧ (r < 0 ∨ (p.code.length : Int) ≤ r))) ∧ wx = w1)
  case first =>
    by_cases h0 : z = 0
    · have h0' : (z == 0) = true := by simpa using h0
      by_cases h1 : r < 0
      · have h1' : decide (r < 0) = true := decide_eq_true h1
        have HX : Hid (decide (z = 0 ∧ (r < 0 ∨ (p.code.length : Int) ≤ r)) = true) := decide_eq_true ⟨h0, Or.inl h1⟩
        clear h0
        go_wp2_with fail
        go_meet
        case rel => exact ⟨by rw [HX.out], rfl⟩
      have h1' : decide (r < 0) = false := decide_eq_false h1
      by_cases h2 : (p.code.length : Int) ≤ r
      · have h2' : decide ((p.code.length : Int) ≤ r) = true := decide_eq_true h2
        have HX : Hid (decide (z = 0 ∧ (r < 0 ∨ (p.code.length : Int) ≤ r)) = true) := decide_eq_true ⟨h0, Or.inr h2⟩
        clear h0
        go_wp2_with fail
        go_meet
        case rel => exact ⟨by rw [HX.out], rfl⟩
      have h2' : decide ((p.code.length : Int) ≤ r) = false := decide_eq_false h2
      have HX : Hid (decide (z = 0 ∧ (r < 0 ∨ (p.code.length : Int) ≤ r)) = false) := decide_eq_false (fun e => by omega)
      clear h0
      go_wp2_with fail
      go_meet
      case rel => exact ⟨by rw [HX.out], rfl⟩
    · have h0' : (z == 0) = false := by simpa using h0
      have HX : Hid (decide (z = 0 ∧ (r < 0 ∨ (p.code.length : Int) ≤ r)) = false) := decide_eq_false (fun e => h0 e.1)
      clear h0
      go_wp2_with fail
      go_meet
      case rel => exact ⟨by rw [HX.out], rfl⟩
  case rest =>
  obtain ⟨rfl, hwx⟩ := hcut
  rw [hwx]
  clear hwx
  go_step
  go_cut [10] from 44 to 44 (fun s10 wx => s10 = .int .i64 (prgE p r) ∧ wx = w1)
  case first =>
    by_cases h0 : z = 0 ∧ (r < 0 ∨ (p.code.length : Int) ≤ r)
    · have HX : Hid (prgE p r = 1) := by show _ = _; rw [HFE.out, if_pos h0]
      have hd : decide (z = 0 ∧ (r < 0 ∨ (p.code.length : Int) ≤ r)) = true := decide_eq_true h0
      rw [hd]
      clear h0 hd
      go_wp2_with fail
      go_meet
      case rel => exact ⟨by rw [HX.out], rfl⟩
    · have HX : Hid (prgE p r = z) := by show _ = _; rw [HFE.out, if_neg h0]
      have hd : decide (z = 0 ∧ (r < 0 ∨ (p.code.length : Int) ≤ r)) = false := decide_eq_false h0
      rw [hd]
      clear h0 hd
      go_wp2_with fail
      go_meet
      case rel => exact ⟨by rw [HX.out], rfl⟩
  case rest =>
  obtain ⟨rfl, hwx⟩ := hcut
  rw [hwx]
  clear hwx HFE
  go_upto_region 8 with fail
  obtain ⟨f, hf⟩ : ∃ f, prgE p r = f := ⟨_, rfl⟩
  have HFf : Hid (prgE p r = f) := hf
  rw [hf]
  clear hf
  have hA : Below w1.heap.size w1 (w1.alloc (.cells #[.slice none 0 0, .int .i64 0, .slice none 0 0, .slice none 0 0] 26)) := (Below.refl _ _).alloc (Nat.le_refl _) _
  have hx2 := hx1.step hA
  have hs2 : (w1.alloc (.cells #[.slice none 0 0, .int .i64 0, .slice none 0 0, .slice none 0 0] 26)).heap.size = w1.heap.size + 1 := by simp
  have HB : Hid ((w1.alloc (.cells #[.slice none 0 0, .int .i64 0, .slice none 0 0, .slice none 0 0] 26)).heap[w1.heap.size]? = some (.cells #[.slice none 0 0, .int .i64 0, .slice none 0 0, .slice none 0 0] 26)) := World.alloc_heap_new _ _
  have hs1 := hx1.size
  generalize w1.alloc (.cells #[.slice none 0 0, .int .i64 0, .slice none 0 0, .slice none 0 0] 26) = w2 at hA hx2 hs2 HB ⊢
  clear hx1 k0 k1 k2 k3
  obtain ⟨k0, k1, k2, k3⟩ := hx2.cs
  go_cut [46] from 45 to 45 (fun s46 wx => s46 = .bool (decide (f = 0)) ∧ wx = w2)
  case first =>
    go_wp2_with fail
    go_meet
    case rel => exact ⟨by rw [show (f == 0) = decide (f = 0) by by_cases h : f = 0 <;> simp [h]], rfl⟩
  case rest =>
  obtain ⟨rfl, hwx⟩ := hcut
  rw [hwx]
  clear hwx
  go_step
  go_cut [10] from 46 to 49 (fun s10 wx => s10 = .int .i64 f ∧ (∃ a1 c1 a2 c2 a3 c3, wx.cell? ⟨w1.heap.size, 0, none⟩ = some (.slice a1 (prgP p r).code.length c1) ∧ wx.cell? ⟨w1.heap.size, 1, none⟩ = some (.int .i64 (prgP p r).ticks) ∧ wx.cell? ⟨w1.heap.size, 2, none⟩ = some (.slice a2 (prgP p r).spans.length c2) ∧ wx.cell? ⟨w1.heap.size, 3, none⟩ = some (.slice a3 (prgP p r).wires.length c3) ∧ Pln wx (.slice a1 (prgP p r).code.length c1) (.slice a2 (prgP p r).spans.length c2) (.slice a3 (prgP p r).wires.length c3) (prgP p r)) ∧ w1.heap.size < wx.heap.size ∧ Bxt w wx (.slice ca p.code.length cc) p.ticks (.slice sa p.spans.length sc) (.slice wa p.wires.length wc') (.slice xa q.code.length xc) q.ticks (.slice ya q.spans.length yc) (.slice za q.wires.length zc'))
  case first =>
    by_cases h0 : f = 0
    · have hd : decide (f = 0) = true := decide_eq_true h0
      rw [hd]
      obtain ⟨hp0, hr0, hr1⟩ := prgE_zero (HFf.out.trans h0)
      have HPP : Hid (prgP p r = purgeP p (fun i => way p.wires i r.toNat)) := by show _ = _; unfold prgP; rw [if_pos (HFf.out.trans h0)]
      obtain ⟨rn, rfl⟩ : ∃ k : Nat, r = k := ⟨r.toNat, by omega⟩
      rw [Int.toNat_natCast] at HPP
      have HC : Hid (Calls Tryz.prog 5 #[.agg #[.slice ca p.code.length cc, .int .i64 p.ticks, .slice sa p.spans.length sc, .slice wa p.wires.length wc'], .int .i64 rn] w2 fun e w' => ∃ jo jn jc, e = .returned (.agg #[.slice jo jn jc, .int .i64 p.ticks, .slice sa p.spans.length sc, .slice wa p.wires.length wc']) ∧ (∀ M W', KTouch M w' W' → (∀ m ∈ M, w.heap.size ≤ m ∧ m < w2.heap.size) → Pln W' (.slice jo jn jc) (.slice sa p.spans.length sc) (.slice wa p.wires.length wc') (purgeP p (fun i => way p.wires i rn))) ∧ Below w2.heap.size w2 w') := by
        refine (hPu p _ _ _ rn w w2 hp0 HP.out hx2.below (by omega)).mono ?_
        rintro e w' ⟨ic, rfl, h1, h2⟩
        obtain ⟨jo, jc, hj⟩ := (h1 [] w' (KTouch.refl _ _) (by simp)).code.form
        subst hj
        exact ⟨_, _, _, rfl, h1, h2⟩
      clear h0 hd
      go_wp2_with (go_at_call 5; refine HC.out.mono ?_; rintro e w3 ⟨jo, jn, jc, rfl, hpl, b3⟩; have hk3 : w3.heap[w1.heap.size]? = some (.cells #[.slice none 0 0, .int .i64 0, .slice none 0 0, .slice none 0 0] 26) := (b3.block w1.heap.size (by omega)).trans HB.out; have z0 : w3.cell? ⟨w1.heap.size, 0, none⟩ = some (.slice none 0 0) := (by simp [World.cell?, hk3]); have z1 : w3.cell? ⟨w1.heap.size, 1, none⟩ = some (.int .i64 0) := (by simp [World.cell?, hk3]); have z2 : w3.cell? ⟨w1.heap.size, 2, none⟩ = some (.slice none 0 0) := (by simp [World.cell?, hk3]); have z3 : w3.cell? ⟨w1.heap.size, 3, none⟩ = some (.slice none 0 0) := (by simp [World.cell?, hk3]); have y0 : w3.frozen? ⟨w1.heap.size, 0, none⟩ = false := (by simp [World.frozen?, hk3]); have y1 : w3.frozen? ⟨w1.heap.size, 1, none⟩ = false := (by simp [World.frozen?, hk3]); have y2 : w3.frozen? ⟨w1.heap.size, 2, none⟩ = false := (by simp [World.frozen?, hk3]); have y3 : w3.frozen? ⟨w1.heap.size, 3, none⟩ = false := (by simp [World.frozen?, hk3]); have HPl : Hid (∀ M W', KTouch M w3 W' → (∀ m ∈ M, w.heap.size ≤ m ∧ m < w2.heap.size) → Pln W' (.slice jo jn jc) (.slice sa p.spans.length sc) (.slice wa p.wires.length wc') (purgeP p (fun i => way p.wires i rn))) := hpl; clear hpl hk3)
      go_meet
      case rel =>
        have htk : KTouch [w1.heap.size] w3 ((((w3.setCell ⟨w1.heap.size, 0, none⟩ (.slice jo jn jc)).setCell ⟨w1.heap.size, 1, none⟩ (.int .i64 p.ticks)).setCell ⟨w1.heap.size, 2, none⟩ (.slice sa p.spans.length sc)).setCell ⟨w1.heap.size, 3, none⟩ (.slice wa p.wires.length wc')) :=
          (((KTouch.set w3 (by simp) 0 _).trans (KTouch.set _ (by simp) 1 _)).trans (KTouch.set _ (by simp) 2 _)).trans (KTouch.set _ (by simp) 3 _)
        have hpl := HPl.out _ _ htk (fun m hm => by rw [List.mem_singleton] at hm; omega)
        have hsz := htk.size
        have hs3 := b3.size
        have hjn : jn = (prgP p rn).code.length := by
          obtain ⟨_, _, hj⟩ := hpl.code.form
          injection hj with _ e2 _
          rw [HPP.out, e2]
        subst hjn
        refine ⟨rfl, ⟨jo, jc, sa, sc, wa, wc', ?_, ?_, ?_, ?_, ?_⟩, by omega, (hx2.step b3).set htk (fun m hm => by rw [List.mem_singleton] at hm; omega)⟩
        · simp [go_sem, z0]
        · rw [HPP.out]; simp [go_sem, z1, purgeP]
        · rw [HPP.out]; simp [go_sem, z2, purgeP]
        · rw [HPP.out]; simp [go_sem, z3, purgeP]
        · rw [HPP.out] at hpl ⊢
          exact hpl
    · have hd : decide (f = 0) = false := decide_eq_false h0
      rw [hd]
      have HPP : Hid (prgP p r = noPlan) := by show _ = _; unfold prgP; rw [if_neg (by rw [HFf.out]; exact h0)]
      clear h0 hd
      go_wp2_with fail
      go_meet
      case rel =>
        have hk3 := HB.out
        rw [HPP.out]
        exact ⟨rfl, ⟨none, 0, none, 0, none, 0, by simp [World.cell?, hk3, noPlan], by simp [World.cell?, hk3, noPlan], by simp [World.cell?, hk3, noPlan], by simp [World.cell?, hk3, noPlan], ⟨Or.inl ⟨rfl, _, _, rfl⟩, Or.inl ⟨rfl, _, _, rfl⟩, Or.inl ⟨rfl, _, _, rfl⟩⟩⟩, by omega, hx2⟩
  case rest =>
  obtain ⟨rfl, ⟨a1, c1, a2, c2, a3, c3, m0, m1, m2, m3, hpw⟩, hlt3, hx3⟩ := hcut
  clear hx2 hA HB k0 k1 k2 k3 hs2
  generalize wc = W3 at *
  have HPg : Hid (∀ W, Below w.heap.size w W → Calls Tryz.prog 6 #[.agg #[.slice ca p.code.length cc, .int .i64 p.ticks, .slice sa p.spans.length sc, .slice wa p.wires.length wc'], .int .i64 r] W fun e w' => ∃ a4 c4 a5 c5 a6 c6, e = .returned (.tuple #[.agg #[.slice a4 (prgP p r).code.length c4, .int .i64 (prgP p r).ticks, .slice a5 (prgP p r).spans.length c5, .slice a6 (prgP p r).wires.length c6], wErr f]) ∧ Pln w' (.slice a4 (prgP p r).code.length c4) (.slice a5 (prgP p r).spans.length c5) (.slice a6 (prgP p r).wires.length c6) (prgP p r) ∧ Below W.heap.size W w') := fun W hb => by
    have := P p _ _ _ r W (HG.out W hb) (HP.out.all hb)
    rw [HFf.out] at this
    refine this.mono ?_
    rintro e w' ⟨jc, js, jw, rfl, h1, h2⟩
    obtain ⟨a4, c4, rfl⟩ := h1.code.form
    obtain ⟨a5, c5, rfl⟩ := h1.spans.form
    obtain ⟨a6, c6, rfl⟩ := h1.wires.form
    exact ⟨a4, c4, a5, c5, a6, c6, rfl, h1, h2⟩
  have HEf : Hid (∀ W, Below w.heap.size w W → Calls Tryz.prog 7 #[wErr f, .int .i64 f] W fun r w' => r = .returned (.bool true) ∧ Below W.heap.size W w') := fun W hb => HE.out f W hb
  have HSP : Hid (∀ W b1 d1 b2 d2 b3 d3 e1 f1 e2 f2 e3 f3, Pln W (.slice b1 (prgP p r).code.length d1) (.slice b2 (prgP p r).spans.length d2) (.slice b3 (prgP p r).wires.length d3) (prgP p r) → Pln W (.slice e1 (prgP p r).code.length f1) (.slice e2 (prgP p r).spans.length f2) (.slice e3 (prgP p r).wires.length f3) (prgP p r) → Calls Tryz.prog 8 #[.agg #[.slice b1 (prgP p r).code.length d1, .int .i64 (prgP p r).ticks, .slice b2 (prgP p r).spans.length d2, .slice b3 (prgP p r).wires.length d3], .agg #[.slice e1 (prgP p r).code.length f1, .int .i64 (prgP p r).ticks, .slice e2 (prgP p r).spans.length f2, .slice e3 (prgP p r).wires.length f3]] W fun e w' => e = .returned (.bool true) ∧ Below W.heap.size W w') := fun W b1 d1 b2 d2 b3 d3 e1 f1 e2 f2 e3 f3 h1 h2 => by
    obtain ⟨l1, l2, l3, l4⟩ := prg_short p r
    exact sameplan_any (prgP p r) _ _ _ _ _ _ W h1 h2 l1 l2 l3 l4
  obtain ⟨ev, hev⟩ : ∃ v, v = wErr f := ⟨_, rfl⟩
  rw [← hev] at HPg HEf
  clear hev
  obtain ⟨k0, k1, k2, k3⟩ := hx3.cs
  have HPW : Hid (Pln W3 (.slice a1 (prgP p r).code.length c1) (.slice a2 (prgP p r).spans.length c2) (.slice a3 (prgP p r).wires.length c3) (prgP p r)) := hpw
  clear hpw
  have q4 := HPg.out W3 hx3.below
  go_upto_region 12 with (first
    | (go_at_call 6; refine q4.mono ?_; rintro e w4 ⟨a4, c4, a5, c5, a6, c6, rfl, hp4, b4⟩; clear q4; have b5 : Below W3.heap.size W3 (w4.alloc (.cells #[.slice a4 (prgP p r).code.length c4, .int .i64 (prgP p r).ticks, .slice a5 (prgP p r).spans.length c5, .slice a6 (prgP p r).wires.length c6] 26)) := b4.alloc b4.size _; have HP4 : Hid (Pln w4 (.slice a4 (prgP p r).code.length c4) (.slice a5 (prgP p r).spans.length c5) (.slice a6 (prgP p r).wires.length c6) (prgP p r)) := hp4; clear hp4; have hx5 := hx3.step b5; have q5 := HEf.out _ hx5.below)
    | (go_at_call 7; refine q5.mono ?_; rintro e w6 ⟨rfl, b6⟩; clear q5; have hx6 := hx5.step b6; have b46 : Below w4.heap.size w4 w6 := ((Below.refl _ _).alloc (Nat.le_refl _) _).trans (b6.mono (by simp)); have b36 := b5.trans (b6.mono b5.size); have n0 : w6.cell? ⟨w4.heap.size, 0, none⟩ = some (.slice a4 (prgP p r).code.length c4) := (b6.cell (p := ⟨w4.heap.size, 0, none⟩) (by simp)).trans (by simp); have n1 : w6.cell? ⟨w4.heap.size, 1, none⟩ = some (.int .i64 (prgP p r).ticks) := (b6.cell (p := ⟨w4.heap.size, 1, none⟩) (by simp)).trans (by simp); have n2 : w6.cell? ⟨w4.heap.size, 2, none⟩ = some (.slice a5 (prgP p r).spans.length c5) := (b6.cell (p := ⟨w4.heap.size, 2, none⟩) (by simp)).trans (by simp); have n3 : w6.cell? ⟨w4.heap.size, 3, none⟩ = some (.slice a6 (prgP p r).wires.length c6) := (b6.cell (p := ⟨w4.heap.size, 3, none⟩) (by simp)).trans (by simp); have o0 := (b36.cell (p := ⟨w1.heap.size, 0, none⟩) hlt3).trans m0; have o1 := (b36.cell (p := ⟨w1.heap.size, 1, none⟩) hlt3).trans m1; have o2 := (b36.cell (p := ⟨w1.heap.size, 2, none⟩) hlt3).trans m2; have o3 := (b36.cell (p := ⟨w1.heap.size, 3, none⟩) hlt3).trans m3; have q6 := HSP.out w6 _ _ _ _ _ _ _ _ _ _ _ _ (HP4.out.all b46) (HPW.out.all b36))
    | (go_at_call 8; refine q6.mono ?_; rintro e w7 ⟨rfl, b7⟩; clear q6))
  have hx7 := hx6.step b7
  clear hx3 hx5 hx6 b4 b5 b6 b7 b46 b36 n0 n1 n2 n3 o0 o1 o2 o3 m0 m1 m2 m3 k0 k1 k2 k3 HPg HEf HSP HP4 HPW hlt3 hs1
  generalize w7 = W4 at *
  obtain ⟨d0, d1, d2, d3⟩ := hx7.ds
  go_cut [65] from 64 to 64 (fun s65 wx => s65 = .bool (decide (z = 0)) ∧ wx = W4)
  case first =>
    go_wp2_with fail
    go_meet
    case rel => exact ⟨by rw [show (z == 0) = decide (z = 0) by by_cases h : z = 0 <;> simp [h]], rfl⟩
  case rest =>
  obtain ⟨rfl, hwx⟩ := hcut
  rw [hwx]
  clear hwx
  go_step
  go_cut [9] from 65 to 67 (fun s9 wx => s9 = .int .i64 (twoE p q) ∧ Bxt w wx (.slice ca p.code.length cc) p.ticks (.slice sa p.spans.length sc) (.slice wa p.wires.length wc') (.slice xa q.code.length xc) q.ticks (.slice ya q.spans.length yc) (.slice za q.wires.length zc'))
  case first =>
    by_cases h0 : z = 0
    · have hd : decide (z = 0) = true := decide_eq_true h0
      rw [hd]
      have HX : Hid (twoE p q = plchk q) := by show _ = _; unfold twoE; rw [if_pos (HZ.out.trans h0)]
      have q8 := HRq.out W4 hx7.below
      clear h0 hd
      go_wp2_with (go_at_call 4; refine q8.mono ?_; rintro e w8 ⟨rfl, b8⟩; clear q8)
      go_meet
      case rel => exact ⟨by rw [HX.out], hx7.step b8⟩
    · have hd : decide (z = 0) = false := decide_eq_false h0
      rw [hd]
      have HX : Hid (twoE p q = z) := by show _ = _; unfold twoE; rw [if_neg (by rw [HZ.out]; exact h0)]; exact HZ.out
      clear h0 hd
      go_wp2_with fail
      go_meet
      case rel => exact ⟨by rw [HX.out], hx7⟩
  case rest =>
  clear hx7 d0 d1 d2 d3
  obtain ⟨rfl, hx8⟩ := hcut
  generalize wc = W5 at *
  have HLE : Hid (likeE p q nn r = if twoE p q = 0 ∧ badL p q nn r then 1 else twoE p q) := likeE_two p q nn r
  generalize twoE p q = y at HLE ⊢
  obtain ⟨k0, k1, k2, k3⟩ := hx8.cs
  obtain ⟨d0, d1, d2, d3⟩ := hx8.ds
  go_upto_region 14 with fail
  go_cut [95] from 68 to 94 (fun s95 wx => s95 = .bool (decide (y = 0 ∧ badL p q nn r)) ∧ wx = W5)
  case first =>
    by_cases h0 : y = 0
    · have h0' : (y == 0) = true := by simpa using h0
      by_cases h1 : r < 0
      · have h1' : decide (r < 0) = true := decide_eq_true h1
        have HX : Hid (decide (y = 0 ∧ badL p q nn r) = true) := decide_eq_true ⟨h0, Or.inl h1⟩
        clear h0
        go_wp2_with fail
        go_meet
        case rel => exact ⟨by rw [HX.out], rfl⟩
      have h1' : decide (r < 0) = false := decide_eq_false h1
      by_cases h2 : (p.code.length : Int) ≤ r
      · have h2' : decide ((p.code.length : Int) ≤ r) = true := decide_eq_true h2
        have HX : Hid (decide (y = 0 ∧ badL p q nn r) = true) := decide_eq_true ⟨h0, Or.inr (Or.inl h2)⟩
        clear h0
        go_wp2_with fail
        go_meet
        case rel => exact ⟨by rw [HX.out], rfl⟩
      have h2' : decide ((p.code.length : Int) ≤ r) = false := decide_eq_false h2
      by_cases h3 : (q.code.length : Int) ≤ r
      · have h3' : decide ((q.code.length : Int) ≤ r) = true := decide_eq_true h3
        have HX : Hid (decide (y = 0 ∧ badL p q nn r) = true) := decide_eq_true ⟨h0, Or.inr (Or.inr (Or.inl h3))⟩
        clear h0
        go_wp2_with fail
        go_meet
        case rel => exact ⟨by rw [HX.out], rfl⟩
      have h3' : decide ((q.code.length : Int) ≤ r) = false := decide_eq_false h3
      by_cases h4 : nn < 0
      · have h4' : decide (nn < 0) = true := decide_eq_true h4
        have HX : Hid (decide (y = 0 ∧ badL p q nn r) = true) := decide_eq_true ⟨h0, Or.inr (Or.inr (Or.inr (Or.inl h4)))⟩
        clear h0
        go_wp2_with fail
        go_meet
        case rel => exact ⟨by rw [HX.out], rfl⟩
      have h4' : decide (nn < 0) = false := decide_eq_false h4
      by_cases h5 : 2000 < nn
      · have h5' : decide (2000 < nn) = true := decide_eq_true h5
        have HX : Hid (decide (y = 0 ∧ badL p q nn r) = true) := decide_eq_true ⟨h0, Or.inr (Or.inr (Or.inr (Or.inr h5)))⟩
        clear h0
        go_wp2_with fail
        go_meet
        case rel => exact ⟨by rw [HX.out], rfl⟩
      have h5' : decide (2000 < nn) = false := decide_eq_false h5
      have HX : Hid (decide (y = 0 ∧ badL p q nn r) = false) := decide_eq_false (fun e => by have h := e.2; unfold badL at h; omega)
      clear h0
      go_wp2_with fail
      go_meet
      case rel => exact ⟨by rw [HX.out], rfl⟩
    · have h0' : (y == 0) = false := by simpa using h0
      have HX : Hid (decide (y = 0 ∧ badL p q nn r) = false) := decide_eq_false (fun e => h0 e.1)
      clear h0
      go_wp2_with fail
      go_meet
      case rel => exact ⟨by rw [HX.out], rfl⟩
  case rest =>
  obtain ⟨rfl, hwx⟩ := hcut
  rw [hwx]
  clear hwx
  go_step
  go_cut [9] from 95 to 95 (fun s9 wx => s9 = .int .i64 (likeE p q nn r) ∧ wx = W5)
  case first =>
    by_cases h0 : y = 0 ∧ badL p q nn r
    · have HX : Hid (likeE p q nn r = 1) := by show _ = _; rw [HLE.out, if_pos h0]
      have hd : decide (y = 0 ∧ badL p q nn r) = true := decide_eq_true h0
      rw [hd]
      clear h0 hd
      go_wp2_with fail
      go_meet
      case rel => exact ⟨by rw [HX.out], rfl⟩
    · have HX : Hid (likeE p q nn r = y) := by show _ = _; rw [HLE.out, if_neg h0]
      have hd : decide (y = 0 ∧ badL p q nn r) = false := decide_eq_false h0
      rw [hd]
      clear h0 hd
      go_wp2_with fail
      go_meet
      case rel => exact ⟨by rw [HX.out], rfl⟩
  case rest =>
  obtain ⟨rfl, hwx⟩ := hcut
  rw [hwx]
  clear hwx HLE
  obtain ⟨g, hg⟩ : ∃ g, likeE p q nn r = g := ⟨_, rfl⟩
  have HGg : Hid (likeE p q nn r = g) := hg
  rw [hg]
  clear hg
  go_upto_region 17 with fail
  go_cut [97] from 96 to 96 (fun s97 wx => s97 = .bool (decide (g = 0)) ∧ wx = W5)
  case first =>
    go_wp2_with fail
    go_meet
    case rel => exact ⟨by rw [show (g == 0) = decide (g = 0) by by_cases h : g = 0 <;> simp [h]], rfl⟩
  case rest =>
  obtain ⟨rfl, hwx⟩ := hcut
  rw [hwx]
  clear hwx
  go_step
  go_cut [15, 16, 17, 18] from 97 to 120 (fun s15 _ _ _ wx => s15 = .int .i64 (likeAt p q nn r) ∧ Bxt w wx (.slice ca p.code.length cc) p.ticks (.slice sa p.spans.length sc) (.slice wa p.wires.length wc') (.slice xa q.code.length xc) q.ticks (.slice ya q.spans.length yc) (.slice za q.wires.length zc'))
  case first =>
    by_cases h0 : g = 0
    · have hd : decide (g = 0) = true := decide_eq_true h0
      rw [hd]
      obtain ⟨hp0, hq0, hr0, hr1, hr2, hn0, hn1⟩ := likeE_zero (HGg.out.trans h0)
      obtain ⟨nk, rfl⟩ : ∃ k : Nat, nn = k := ⟨nn.toNat, by omega⟩
      obtain ⟨rn, rfl⟩ : ∃ k : Nat, r = k := ⟨r.toNat, by omega⟩
      have HX : Hid (likeAt p q nk rn = partAt (statesK p nk rn) (statesK q nk rn) 0) := by show _ = _; unfold likeAt; rw [if_pos (HGg.out.trans h0), Int.toNat_natCast, Int.toNat_natCast]
      have HSa : Hid (∀ W, Below w.heap.size w W → Calls Tryz.prog 9 #[.agg #[.slice ca p.code.length cc, .int .i64 p.ticks, .slice sa p.spans.length sc, .slice wa p.wires.length wc'], .int .i64 nk, .int .i64 rn] W fun e w' => ∃ b off cap, e = .returned (.slice (some ⟨b, off, none⟩) (nk + 1) cap) ∧ b < w'.heap.size ∧ (∀ (i : Nat) s, (statesK p nk rn)[i]? = some s → StC w' b (off + i * 8) s) ∧ Below W.heap.size W w') := fun W hb => by
        refine (hSt p _ _ _ nk rn W hp0 (HP.out.all hb) (by omega) (by omega)).mono ?_
        rintro e w' ⟨v, rfl, h1, h2⟩
        rcases h1 with ⟨h3, _⟩ | ⟨b, off, cap, rfl, _, h4, h5⟩
        · have := statesK_len p nk rn
          rw [h3] at this
          cases this
        · exact ⟨b, off, cap, by rw [statesK_len], h4, h5, h2⟩
      have HSb : Hid (∀ W, Below w.heap.size w W → Calls Tryz.prog 9 #[.agg #[.slice xa q.code.length xc, .int .i64 q.ticks, .slice ya q.spans.length yc, .slice za q.wires.length zc'], .int .i64 nk, .int .i64 rn] W fun e w' => ∃ b off cap, e = .returned (.slice (some ⟨b, off, none⟩) (nk + 1) cap) ∧ b < w'.heap.size ∧ (∀ (i : Nat) s, (statesK q nk rn)[i]? = some s → StC w' b (off + i * 8) s) ∧ Below W.heap.size W w') := fun W hb => by
        refine (hSt q _ _ _ nk rn W hq0 (HQ.out.all hb) (by omega) (by omega)).mono ?_
        rintro e w' ⟨v, rfl, h1, h2⟩
        rcases h1 with ⟨h3, _⟩ | ⟨b, off, cap, rfl, _, h4, h5⟩
        · have := statesK_len q nk rn
          rw [h3] at this
          cases this
        · exact ⟨b, off, cap, by rw [statesK_len], h4, h5, h2⟩
      clear h0 hd hPu hSt
      have q8 := HSa.out W5 hx8.below
      go_wp2_with (first
        | (go_at_call 9; refine q8.mono ?_; rintro e w8 ⟨ab, ao, ac, rfl, ha1, ha2, b8⟩; clear q8 d0 d1 d2 d3; have hx9 := hx8.step b8; obtain ⟨d0, d1, d2, d3⟩ := hx9.ds; have q9 := HSb.out w8 hx9.below)
        | (go_at_call 9; refine q9.mono ?_; rintro e w9 ⟨bb, bo, bc, rfl, hb1, hb2, b9⟩; clear q9))
      have hx10 := hx9.step b9
      have ha3 : ab < w9.heap.size := Nat.lt_of_lt_of_le ha1 b9.size
      have HA : Hid (∀ (i : Nat) s, (statesK p nk rn)[i]? = some s → StC w9 ab (ao + i * 8) s) := fun i s h => (ha2 i s h).block (b9.block ab ha1)
      have HB : Hid (∀ (i : Nat) s, (statesK q nk rn)[i]? = some s → StC w9 bb (bo + i * 8) s) := hb2
      have hla := statesK_len p nk rn
      have hlb := statesK_len q nk rn
      clear ha2 hb2 hx8 hx9 d0 d1 d2 d3 k0 k1 k2 k3
      go_loopw [15, 18] (fun s15 s18 wr => ∃ (j : Nat) (t : Int), j ≤ nk + 1 ∧ t = (j : Int) - 1 ∧ s18 = .int .i64 t ∧ s15 = .int .i64 (partAt ((statesK p nk rn).drop j) ((statesK q nk rn).drop j) j) ∧ Below w9.heap.size w9 wr) (fun _ s18 _ => (intOf s18 + 1).toNat)
      case atStart => exact ⟨nk + 1, nk, Nat.le_refl _, by omega, rfl, by rw [partAt_end (by omega)], Below.refl _ _⟩
      case round =>
        obtain ⟨j, t, hj, ht, rfl, rfl, hbw⟩ := hrel
        cases j with
        | zero =>
          obtain rfl : t = -1 := by omega
          clear ht hj
          have HX2 : Hid (likeAt p q nk rn = partAt (List.drop 0 (statesK p nk rn)) (List.drop 0 (statesK q nk rn)) 0) := HX.out
          go_wp2_with fail
          go_meet
          case rel => exact ⟨by rw [HX2.out], hx10.step hbw⟩
        | succ i =>
          obtain rfl : t = (i : Int) := by omega
          have hil : i < nk + 1 := by omega
          clear ht
          obtain ⟨s, hs⟩ : ∃ s, (statesK p nk rn)[i]? = some s := ⟨_, List.getElem?_eq_getElem (by omega)⟩
          obtain ⟨u, hu⟩ : ∃ u, (statesK q nk rn)[i]? = some u := ⟨_, List.getElem?_eq_getElem (by omega)⟩
          have HD : Hid (partAt ((statesK p nk rn).drop i) ((statesK q nk rn).drop i) i = if sameS s u = true then partAt ((statesK p nk rn).drop (i + 1)) ((statesK q nk rn).drop (i + 1)) (i + 1) else (i : Int)) := partAt_drop hs hu
          obtain ⟨s0, s1, s2, s3, s4, s5, s6, s7⟩ := (HA.out i s hs).block (hbw.block ab ha3)
          obtain ⟨t0, t1, t2, t3, t4, t5, t6, t7⟩ := (HB.out i u hu).block (hbw.block bb hb1)
          have hii : (i : Int) < ((nk + 1 : Nat) : Int) := by omega
          have hi0 : (0 : Int) ≤ (i : Int) := by omega
          have hnq := neq_st2 s u
          have hgd := guardSt
          clear hs hu
          generalize partAt ((statesK p nk rn).drop (i + 1)) ((statesK q nk rn).drop (i + 1)) (i + 1) = old at HD ⊢
          cases hss : sameS s u with
          | true =>
            rw [hss] at hnq HD
            clear hss
            go_wp2
            go_quiet (fail)
            go_wp2
            go_roundw
            case rel => exact ⟨i, (i : Int) - 1, by omega, rfl, by go_num, by rw [HD.out]; rfl, below_dN hbw _⟩
            case measure => simp [intOf]
          | false =>
            rw [hss] at hnq HD
            clear hss
            go_wp2
            go_quiet (fail)
            go_wp2
            go_roundw
            case rel => exact ⟨i, (i : Int) - 1, by omega, rfl, by go_num, by rw [HD.out]; rfl, below_dN hbw _⟩
            case measure => simp [intOf]
    · have hd : decide (g = 0) = false := decide_eq_false h0
      rw [hd]
      have HX : Hid (likeAt p q nn r = 0) := by show _ = _; unfold likeAt; rw [if_neg (by rw [HGg.out]; exact h0)]
      clear h0 hd
      go_wp2_with fail
      go_meet
      case rel => exact ⟨by rw [HX.out], hx8⟩
  case rest =>
  clear hx8 k0 k1 k2 k3 d0 d1 d2 d3
  obtain ⟨rfl, hx9⟩ := hcut
  generalize wc = W6 at *
  have HSm : Hid (∀ W, Below w.heap.size w W → Calls Tryz.prog 10 #[.agg #[.slice ca p.code.length cc, .int .i64 p.ticks, .slice sa p.spans.length sc, .slice wa p.wires.length wc'], .agg #[.slice xa q.code.length xc, .int .i64 q.ticks, .slice ya q.spans.length yc, .slice za q.wires.length zc'], .int .i64 nn, .int .i64 r] W fun e w' => e = .returned (.tuple #[.int .i64 (likeAt p q nn r), wErr g]) ∧ Below W.heap.size W w') := fun W hb => by
    have := S p q _ _ _ _ _ _ nn r W (HG.out W hb) (HP.out.all hb) (HQ.out.all hb)
    rw [HGg.out] at this
    exact this
  have HEg : Hid (∀ W, Below w.heap.size w W → Calls Tryz.prog 7 #[wErr g, .int .i64 g] W fun r w' => r = .returned (.bool true) ∧ Below W.heap.size W w') := fun W hb => HE.out g W hb
  obtain ⟨ev2, hev⟩ : ∃ v, v = wErr g := ⟨_, rfl⟩
  rw [← hev] at HSm HEg
  clear hev
  generalize likeAt p q nn r = t9 at HSm ⊢
  obtain ⟨k0, k1, k2, k3⟩ := hx9.cs
  obtain ⟨d0, d1, d2, d3⟩ := hx9.ds
  have q9 := HSm.out W6 hx9.below
  go_wp2_with (first
    | (go_at_call 10; refine q9.mono ?_; rintro e w10 ⟨rfl, b10⟩; clear q9; have hx10 := hx9.step b10; have q10 := HEg.out _ hx10.below)
    | (go_at_call 7; refine q10.mono ?_; rintro e w11 ⟨rfl, b11⟩; clear q10; have hx11 := hx10.step b11))
  go_ret
  exact ⟨rfl, hx11.below⟩
end Go.Proofs.YtjbbpbhlbmmekaeGreatDoor

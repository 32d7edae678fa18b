/-
  Package purge: Same.
-/
import Derived.Test.YteoemcekkcnplaeGreatDoorJe4
import Derived.Test.YteoemcekkcnplaeGreatDoorPlCheck
import Derived.Deep.CutRange
import Derived.Deep.RegionWith
import Derived.BigQuiet
import Derived.RangeFuncNested
namespace Go.Proofs.YteoemcekkcnplaeGreatDoor
open Go.RowKit

theorem index_two (a b c d a' b' c' d' : Value) (w : World) : (Instr.index 77 (.agg #[a, b, c, d, a', b', c', d']) (.int .i64 0)).run Tryz.prog w = .ok (.agg #[a, b, c, d]) w ∧ (Instr.index 77 (.agg #[a, b, c, d, a', b', c', d']) (.int .i64 1)).run Tryz.prog w = .ok (.agg #[a', b', c', d']) w := by
  constructor <;> kernel_rfl
set_option maxRecDepth 100000 in
set_option maxHeartbeats 8000000 in
theorem psm_p (p q : PD) (vc vs vw ic is iw : Value) (n r : Int) (w : World) (hfm : Forms w) (hP : Pln w vc vs vw p) (hQ : Pln w ic is iw q) (hp : plchk p ≠ 0) :
    Calls Tryz.prog 10 #[plV vc p.ticks vs vw, plV ic q.ticks is iw, .int .i64 n, .int .i64 r] w fun e w' => e = .returned (.tuple #[.int .i64 0, wErr (plchk p)]) ∧ Below w.heap.size w w' := by
  obtain ⟨ca, cc, rfl⟩ := hP.code.form
  obtain ⟨sa, sc, rfl⟩ := hP.spans.form
  obtain ⟨wa, wc', rfl⟩ := hP.wires.form
  obtain ⟨xa, xc, rfl⟩ := hQ.code.form
  obtain ⟨ya, yc, rfl⟩ := hQ.spans.form
  obtain ⟨za, zc', rfl⟩ := hQ.wires.form
  have hx1 := Bxt.first w (.slice ca p.code.length cc) p.ticks (.slice sa p.spans.length sc) (.slice wa p.wires.length wc') (.slice xa q.code.length xc) q.ticks (.slice ya q.spans.length yc) (.slice za q.wires.length zc')
  generalize hWA : (w.alloc (.cells #[.slice ca p.code.length cc, .int .i64 p.ticks, .slice sa p.spans.length sc, .slice wa p.wires.length wc'] 26)).alloc (.cells #[.slice xa q.code.length xc, .int .i64 q.ticks, .slice ya q.spans.length yc, .slice za q.wires.length zc'] 26) = WA at hx1
  have HC : Hid (∀ W, Below w.heap.size w W → Calls Tryz.prog 16 #[.agg #[.slice ca p.code.length cc, .int .i64 p.ticks, .slice sa p.spans.length sc, .slice wa p.wires.length wc']] W fun e w' => e = .returned (wErr (plchk p)) ∧ Below W.heap.size W w') := fun W hb => plcheck_any p _ _ _ _ (hfm.all hb) (hP.all hb)
  have HD : Hid (∀ W, Below w.heap.size w W → Calls Tryz.prog 16 #[.agg #[.slice xa q.code.length xc, .int .i64 q.ticks, .slice ya q.spans.length yc, .slice za q.wires.length zc']] W fun e w' => e = .returned (wErr (plchk q)) ∧ Below W.heap.size W w') := fun W hb => plcheck_any q _ _ _ _ (hfm.all hb) (hQ.all hb)
  unfold plV
  rw [wErr_not hp] at HC ⊢
  generalize plchk p = ec at HC hp ⊢
  obtain ⟨k0, k1, k2, k3⟩ := hx1.cs
  obtain ⟨d0, d1, d2, d3⟩ := hx1.ds
  have hi0 := fun W => (index_two (.slice ca p.code.length cc) (.int .i64 p.ticks) (.slice sa p.spans.length sc) (.slice wa p.wires.length wc') (.slice xa q.code.length xc) (.int .i64 q.ticks) (.slice ya q.spans.length yc) (.slice za q.wires.length zc') W).1
  have hi1 := fun W => (index_two (.slice ca p.code.length cc) (.int .i64 p.ticks) (.slice sa p.spans.length sc) (.slice wa p.wires.length wc') (.slice xa q.code.length xc) (.int .i64 q.ticks) (.slice ya q.spans.length yc) (.slice za q.wires.length zc') W).2
  clear hP hQ hfm HD
  go_enter Tryz.func10, Tryz.ntmps10
  go_upto_region 1 with fail
  clear hWA
  go_wp2
  refine wp_loop_rounds 3 ?_
  rw [rounds_succ]
  go_upto_region 4 with fail
  have hx2 := hx1.step ((Below.refl _ _).alloc (Nat.le_refl _) (.cells #[.slice ca p.code.length cc, .int .i64 p.ticks, .slice sa p.spans.length sc, .slice wa p.wires.length wc'] 26))
  have q1 := HC.out _ hx2.below
  clear HC
  go_wp2_with (go_at_call 16; refine q1.mono ?_; rintro e w2 ⟨rfl, b2⟩; clear q1)
  go_ret2
  exact ⟨rfl, (hx2.step b2).below⟩
set_option maxRecDepth 100000 in
set_option maxHeartbeats 8000000 in
theorem psm_q (p q : PD) (vc vs vw ic is iw : Value) (n r : Int) (w : World) (hfm : Forms w) (hP : Pln w vc vs vw p) (hQ : Pln w ic is iw q) (hp : plchk p = 0) (hq : plchk q ≠ 0) :
    Calls Tryz.prog 10 #[plV vc p.ticks vs vw, plV ic q.ticks is iw, .int .i64 n, .int .i64 r] w fun e w' => e = .returned (.tuple #[.int .i64 0, wErr (plchk q)]) ∧ Below w.heap.size w w' := by
  obtain ⟨ca, cc, rfl⟩ := hP.code.form
  obtain ⟨sa, sc, rfl⟩ := hP.spans.form
  obtain ⟨wa, wc', rfl⟩ := hP.wires.form
  obtain ⟨xa, xc, rfl⟩ := hQ.code.form
  obtain ⟨ya, yc, rfl⟩ := hQ.spans.form
  obtain ⟨za, zc', rfl⟩ := hQ.wires.form
  have hx1 := Bxt.first w (.slice ca p.code.length cc) p.ticks (.slice sa p.spans.length sc) (.slice wa p.wires.length wc') (.slice xa q.code.length xc) q.ticks (.slice ya q.spans.length yc) (.slice za q.wires.length zc')
  generalize hWA : (w.alloc (.cells #[.slice ca p.code.length cc, .int .i64 p.ticks, .slice sa p.spans.length sc, .slice wa p.wires.length wc'] 26)).alloc (.cells #[.slice xa q.code.length xc, .int .i64 q.ticks, .slice ya q.spans.length yc, .slice za q.wires.length zc'] 26) = WA at hx1
  have HC : Hid (∀ W, Below w.heap.size w W → Calls Tryz.prog 16 #[.agg #[.slice ca p.code.length cc, .int .i64 p.ticks, .slice sa p.spans.length sc, .slice wa p.wires.length wc']] W fun e w' => e = .returned (wErr (plchk p)) ∧ Below W.heap.size W w') := fun W hb => plcheck_any p _ _ _ _ (hfm.all hb) (hP.all hb)
  have HD : Hid (∀ W, Below w.heap.size w W → Calls Tryz.prog 16 #[.agg #[.slice xa q.code.length xc, .int .i64 q.ticks, .slice ya q.spans.length yc, .slice za q.wires.length zc']] W fun e w' => e = .returned (wErr (plchk q)) ∧ Below W.heap.size W w') := fun W hb => plcheck_any q _ _ _ _ (hfm.all hb) (hQ.all hb)
  unfold plV
  rw [wErr_not hq] at HD ⊢
  rw [hp] at HC
  simp only [wErr, if_true] at HC
  generalize plchk q = ec at HD hq ⊢
  obtain ⟨k0, k1, k2, k3⟩ := hx1.cs
  obtain ⟨d0, d1, d2, d3⟩ := hx1.ds
  have hi0 := fun W => (index_two (.slice ca p.code.length cc) (.int .i64 p.ticks) (.slice sa p.spans.length sc) (.slice wa p.wires.length wc') (.slice xa q.code.length xc) (.int .i64 q.ticks) (.slice ya q.spans.length yc) (.slice za q.wires.length zc') W).1
  have hi1 := fun W => (index_two (.slice ca p.code.length cc) (.int .i64 p.ticks) (.slice sa p.spans.length sc) (.slice wa p.wires.length wc') (.slice xa q.code.length xc) (.int .i64 q.ticks) (.slice ya q.spans.length yc) (.slice za q.wires.length zc') W).2
  clear hP hQ hfm hp
  go_enter Tryz.func10, Tryz.ntmps10
  go_upto_region 1 with fail
  clear hWA
  go_wp2
  refine wp_loop_rounds 3 ?_
  rw [rounds_succ]
  go_upto_region 4 with fail
  have hx2 := hx1.step ((Below.refl _ _).alloc (Nat.le_refl _) (.cells #[.slice ca p.code.length cc, .int .i64 p.ticks, .slice sa p.spans.length sc, .slice wa p.wires.length wc'] 26))
  have q1 := HC.out _ hx2.below
  clear HC
  go_wp2_with (go_at_call 16; refine q1.mono ?_; rintro e w2 ⟨rfl, b2⟩; clear q1)
  have hx3 := hx2.step b2
  clear k0 k1 k2 k3 d0 d1 d2 d3 hi0 hx1 hx2 b2
  rw [rounds_succ]
  go_upto_region 4 with fail
  have hx4 := hx3.step ((Below.refl _ _).alloc (Nat.le_refl _) (.cells #[.slice xa q.code.length xc, .int .i64 q.ticks, .slice ya q.spans.length yc, .slice za q.wires.length zc'] 26))
  have q2 := HD.out _ hx4.below
  clear HD
  go_wp2_with (go_at_call 16; refine q2.mono ?_; rintro e w4 ⟨rfl, b4⟩; clear q2)
  go_ret2
  exact ⟨rfl, (hx4.step b4).below⟩
set_option maxRecDepth 100000 in
set_option maxHeartbeats 8000000 in
theorem psm_rp {G : World → Prop} (p q : PD) (vc vs vw ic is iw : Value) (n r : Int) (w : World) (hfm : Forms w) (hP : Pln w vc vs vw p) (hQ : Pln w ic is iw q) (hG : G w) (hall : ∀ w w', G w → Below w.heap.size w w' → G w') (R : SgtRun G) (hp : plchk p = 0) (hq : plchk q = 0) (hr : runE p n r = 1) :
    Calls Tryz.prog 10 #[plV vc p.ticks vs vw, plV ic q.ticks is iw, .int .i64 n, .int .i64 r] w fun e w' => e = .returned (.tuple #[.int .i64 0, wErr 1]) ∧ Below w.heap.size w w' := by
  obtain ⟨ca, cc, rfl⟩ := hP.code.form
  obtain ⟨sa, sc, rfl⟩ := hP.spans.form
  obtain ⟨wa, wc', rfl⟩ := hP.wires.form
  obtain ⟨xa, xc, rfl⟩ := hQ.code.form
  obtain ⟨ya, yc, rfl⟩ := hQ.spans.form
  obtain ⟨za, zc', rfl⟩ := hQ.wires.form
  have hx1 := Bxt.first w (.slice ca p.code.length cc) p.ticks (.slice sa p.spans.length sc) (.slice wa p.wires.length wc') (.slice xa q.code.length xc) q.ticks (.slice ya q.spans.length yc) (.slice za q.wires.length zc')
  generalize hWA : (w.alloc (.cells #[.slice ca p.code.length cc, .int .i64 p.ticks, .slice sa p.spans.length sc, .slice wa p.wires.length wc'] 26)).alloc (.cells #[.slice xa q.code.length xc, .int .i64 q.ticks, .slice ya q.spans.length yc, .slice za q.wires.length zc'] 26) = WA at hx1
  have HC : Hid (∀ W, Below w.heap.size w W → Calls Tryz.prog 16 #[.agg #[.slice ca p.code.length cc, .int .i64 p.ticks, .slice sa p.spans.length sc, .slice wa p.wires.length wc']] W fun e w' => e = .returned (wErr (plchk p)) ∧ Below W.heap.size W w') := fun W hb => plcheck_any p _ _ _ _ (hfm.all hb) (hP.all hb)
  have HD : Hid (∀ W, Below w.heap.size w W → Calls Tryz.prog 16 #[.agg #[.slice xa q.code.length xc, .int .i64 q.ticks, .slice ya q.spans.length yc, .slice za q.wires.length zc']] W fun e w' => e = .returned (wErr (plchk q)) ∧ Below W.heap.size W w') := fun W hb => plcheck_any q _ _ _ _ (hfm.all hb) (hQ.all hb)
  unfold plV
  rw [hq] at HD
  rw [hp] at HC
  simp only [wErr, if_true] at HC HD
  have HR : Hid (∀ W, Below w.heap.size w W → Calls Tryz.prog 26 #[.agg #[.slice ca p.code.length cc, .int .i64 p.ticks, .slice sa p.spans.length sc, .slice wa p.wires.length wc'], .int .i64 n, .int .i64 r] W fun e w' => ∃ ao cap, e = .returned (.tuple #[.slice ao 0 cap, .iface 60 (.int .i64 1)]) ∧ Below W.heap.size W w') := fun W hb => by
    refine (R p _ _ _ n r W (hall w W hG hb) (hP.all hb)).mono ?_
    rintro e w' ⟨v, rfl, h1, h2⟩
    rw [hr, if_neg (by decide)] at h1
    obtain ⟨ao, cap, rfl⟩ := h1.form
    rw [hr]
    exact ⟨ao, cap, rfl, h2⟩
  rw [show wErr 1 = .iface 60 (.int .i64 1) from rfl]
  obtain ⟨k0, k1, k2, k3⟩ := hx1.cs
  obtain ⟨d0, d1, d2, d3⟩ := hx1.ds
  have hi0 := fun W => (index_two (.slice ca p.code.length cc) (.int .i64 p.ticks) (.slice sa p.spans.length sc) (.slice wa p.wires.length wc') (.slice xa q.code.length xc) (.int .i64 q.ticks) (.slice ya q.spans.length yc) (.slice za q.wires.length zc') W).1
  have hi1 := fun W => (index_two (.slice ca p.code.length cc) (.int .i64 p.ticks) (.slice sa p.spans.length sc) (.slice wa p.wires.length wc') (.slice xa q.code.length xc) (.int .i64 q.ticks) (.slice ya q.spans.length yc) (.slice za q.wires.length zc') W).2
  clear hP hQ hfm hp hq hr hall hG R
  go_enter Tryz.func10, Tryz.ntmps10
  go_upto_region 1 with fail
  clear hWA
  go_wp2
  refine wp_loop_rounds 3 ?_
  rw [rounds_succ]
  go_upto_region 4 with fail
  have hx2 := hx1.step ((Below.refl _ _).alloc (Nat.le_refl _) (.cells #[.slice ca p.code.length cc, .int .i64 p.ticks, .slice sa p.spans.length sc, .slice wa p.wires.length wc'] 26))
  have q1 := HC.out _ hx2.below
  clear HC
  go_wp2_with (go_at_call 16; refine q1.mono ?_; rintro e w2 ⟨rfl, b2⟩; clear q1)
  have hx3 := hx2.step b2
  clear k0 k1 k2 k3 d0 d1 d2 d3 hi0 hx1 hx2 b2
  rw [rounds_succ]
  go_upto_region 4 with fail
  have hx4 := hx3.step ((Below.refl _ _).alloc (Nat.le_refl _) (.cells #[.slice xa q.code.length xc, .int .i64 q.ticks, .slice ya q.spans.length yc, .slice za q.wires.length zc'] 26))
  have q2 := HD.out _ hx4.below
  clear HD
  go_wp2_with (go_at_call 16; refine q2.mono ?_; rintro e w4 ⟨rfl, b4⟩; clear q2)
  have hx5 := hx4.step b4
  clear hx3 hx4 b4 hi1
  rw [rounds_succ]
  obtain ⟨k0, k1, k2, k3⟩ := hx5.cs
  have q3 := HR.out w4 hx5.below
  clear HR
  go_wp2_with (go_at_call 26; refine q3.mono ?_; rintro e w6 ⟨ao, cap, rfl, b6⟩; clear q3)
  go_ret2
  exact ⟨rfl, (hx5.step b6).below⟩
set_option maxRecDepth 100000 in
set_option maxHeartbeats 8000000 in
theorem psm_rq {G : World → Prop} (p q : PD) (vc vs vw ic is iw : Value) (n r : Int) (w : World) (hfm : Forms w) (hP : Pln w vc vs vw p) (hQ : Pln w ic is iw q) (hG : G w) (hall : ∀ w w', G w → Below w.heap.size w w' → G w') (R : SgtRun G) (hp : plchk p = 0) (hq : plchk q = 0) (hr : runE p n r = 0) (hs : runE q n r = 1) :
    Calls Tryz.prog 10 #[plV vc p.ticks vs vw, plV ic q.ticks is iw, .int .i64 n, .int .i64 r] w fun e w' => e = .returned (.tuple #[.int .i64 0, wErr 1]) ∧ Below w.heap.size w w' := by
  obtain ⟨ca, cc, rfl⟩ := hP.code.form
  obtain ⟨sa, sc, rfl⟩ := hP.spans.form
  obtain ⟨wa, wc', rfl⟩ := hP.wires.form
  obtain ⟨xa, xc, rfl⟩ := hQ.code.form
  obtain ⟨ya, yc, rfl⟩ := hQ.spans.form
  obtain ⟨za, zc', rfl⟩ := hQ.wires.form
  have hx1 := Bxt.first w (.slice ca p.code.length cc) p.ticks (.slice sa p.spans.length sc) (.slice wa p.wires.length wc') (.slice xa q.code.length xc) q.ticks (.slice ya q.spans.length yc) (.slice za q.wires.length zc')
  generalize hWA : (w.alloc (.cells #[.slice ca p.code.length cc, .int .i64 p.ticks, .slice sa p.spans.length sc, .slice wa p.wires.length wc'] 26)).alloc (.cells #[.slice xa q.code.length xc, .int .i64 q.ticks, .slice ya q.spans.length yc, .slice za q.wires.length zc'] 26) = WA at hx1
  have HC : Hid (∀ W, Below w.heap.size w W → Calls Tryz.prog 16 #[.agg #[.slice ca p.code.length cc, .int .i64 p.ticks, .slice sa p.spans.length sc, .slice wa p.wires.length wc']] W fun e w' => e = .returned (wErr (plchk p)) ∧ Below W.heap.size W w') := fun W hb => plcheck_any p _ _ _ _ (hfm.all hb) (hP.all hb)
  have HD : Hid (∀ W, Below w.heap.size w W → Calls Tryz.prog 16 #[.agg #[.slice xa q.code.length xc, .int .i64 q.ticks, .slice ya q.spans.length yc, .slice za q.wires.length zc']] W fun e w' => e = .returned (wErr (plchk q)) ∧ Below W.heap.size W w') := fun W hb => plcheck_any q _ _ _ _ (hfm.all hb) (hQ.all hb)
  unfold plV
  rw [hq] at HD
  rw [hp] at HC
  simp only [wErr, if_true] at HC HD
  have HR : Hid (∀ W, Below w.heap.size w W → Calls Tryz.prog 26 #[.agg #[.slice ca p.code.length cc, .int .i64 p.ticks, .slice sa p.spans.length sc, .slice wa p.wires.length wc'], .int .i64 n, .int .i64 r] W fun e w' => ∃ b off cap, e = .returned (.tuple #[.slice (some ⟨b, off, none⟩) (statesK p n.toNat r.toNat).length cap, .nilIface]) ∧ b < w'.heap.size ∧ (∀ (i : Nat) s, (statesK p n.toNat r.toNat)[i]? = some s → StC w' b (off + i * 8) s) ∧ Below W.heap.size W w') := fun W hb => by
    refine (R p _ _ _ n r W (hall w W hG hb) (hP.all hb)).mono ?_
    rintro e w' ⟨v, rfl, h1, h2⟩
    rw [hr, if_pos rfl] at h1
    rw [hr]
    rcases h1 with ⟨h3, _⟩ | ⟨b, off, cap, rfl, _, h4, h5⟩
    · have := statesK_len p n.toNat r.toNat
      rw [h3] at this
      cases this
    · exact ⟨b, off, cap, rfl, h4, h5, h2⟩
  have HS : Hid (∀ W, Below w.heap.size w W → Calls Tryz.prog 26 #[.agg #[.slice xa q.code.length xc, .int .i64 q.ticks, .slice ya q.spans.length yc, .slice za q.wires.length zc'], .int .i64 n, .int .i64 r] W fun e w' => ∃ ao cap, e = .returned (.tuple #[.slice ao 0 cap, .iface 60 (.int .i64 1)]) ∧ Below W.heap.size W w') := fun W hb => by
    refine (R q _ _ _ n r W (hall w W hG hb) (hQ.all hb)).mono ?_
    rintro e w' ⟨v, rfl, h1, h2⟩
    rw [hs, if_neg (by decide)] at h1
    obtain ⟨ao, cap, rfl⟩ := h1.form
    rw [hs]
    exact ⟨ao, cap, rfl, h2⟩
  rw [show wErr 1 = .iface 60 (.int .i64 1) from rfl]
  obtain ⟨k0, k1, k2, k3⟩ := hx1.cs
  obtain ⟨d0, d1, d2, d3⟩ := hx1.ds
  have hi0 := fun W => (index_two (.slice ca p.code.length cc) (.int .i64 p.ticks) (.slice sa p.spans.length sc) (.slice wa p.wires.length wc') (.slice xa q.code.length xc) (.int .i64 q.ticks) (.slice ya q.spans.length yc) (.slice za q.wires.length zc') W).1
  have hi1 := fun W => (index_two (.slice ca p.code.length cc) (.int .i64 p.ticks) (.slice sa p.spans.length sc) (.slice wa p.wires.length wc') (.slice xa q.code.length xc) (.int .i64 q.ticks) (.slice ya q.spans.length yc) (.slice za q.wires.length zc') W).2
  clear hP hQ hfm hp hq hr hs hall hG R
  generalize statesK p n.toNat r.toNat = l at HR
  go_enter Tryz.func10, Tryz.ntmps10
  go_upto_region 1 with fail
  clear hWA
  go_wp2
  refine wp_loop_rounds 3 ?_
  rw [rounds_succ]
  go_upto_region 4 with fail
  have hx2 := hx1.step ((Below.refl _ _).alloc (Nat.le_refl _) (.cells #[.slice ca p.code.length cc, .int .i64 p.ticks, .slice sa p.spans.length sc, .slice wa p.wires.length wc'] 26))
  have q1 := HC.out _ hx2.below
  clear HC
  go_wp2_with (go_at_call 16; refine q1.mono ?_; rintro e w2 ⟨rfl, b2⟩; clear q1)
  have hx3 := hx2.step b2
  clear k0 k1 k2 k3 d0 d1 d2 d3 hi0 hx1 hx2 b2
  rw [rounds_succ]
  go_upto_region 4 with fail
  have hx4 := hx3.step ((Below.refl _ _).alloc (Nat.le_refl _) (.cells #[.slice xa q.code.length xc, .int .i64 q.ticks, .slice ya q.spans.length yc, .slice za q.wires.length zc'] 26))
  have q2 := HD.out _ hx4.below
  clear HD
  go_wp2_with (go_at_call 16; refine q2.mono ?_; rintro e w4 ⟨rfl, b4⟩; clear q2)
  have hx5 := hx4.step b4
  clear hx3 hx4 b4 hi1
  rw [rounds_succ]
  obtain ⟨k0, k1, k2, k3⟩ := hx5.cs
  have q3 := HR.out w4 hx5.below
  clear HR
  go_wp2_with (first
    | (go_at_call 26; refine q3.mono ?_; rintro e w6 ⟨lb, lo, lc, rfl, hl1, hl2, b6⟩; clear q3 k0 k1 k2 k3; have hx6 := hx5.step b6; obtain ⟨d0, d1, d2, d3⟩ := hx6.ds; have q4 := HS.out w6 hx6.below; clear HS)
    | (go_at_call 26; refine q4.mono ?_; rintro e w7 ⟨ao, cap, rfl, b7⟩; clear q4))
  go_ret2
  exact ⟨rfl, (hx6.step b7).below⟩
theorem partAt_yes {l m : List St} {k : Nat} (h : ∀ (j : Nat) s t, j < k → l[j]? = some s → m[j]? = some t → likeS s t = true) (hl : k ≤ l.length) (hm : k ≤ m.length) : partAt l m 0 = partAt (l.drop k) (m.drop k) k := by
  induction k with
  | zero => rfl
  | succ k ih =>
    rw [ih (fun j s t hj => h j s t (by omega)) (by omega) (by omega), partAt_drop (List.getElem?_eq_getElem (show k < l.length by omega)) (List.getElem?_eq_getElem (show k < m.length by omega))]
    rw [if_pos (h k _ _ (by omega) (List.getElem?_eq_getElem _) (List.getElem?_eq_getElem _))]
set_option maxRecDepth 100000 in
set_option maxHeartbeats 8000000 in
theorem psm_ok {G : World → Prop} (p q : PD) (vc vs vw ic is iw : Value) (n r : Int) (w : World) (hfm : Forms w) (hP : Pln w vc vs vw p) (hQ : Pln w ic is iw q) (hG : G w) (hall : ∀ w w', G w → Below w.heap.size w w' → G w') (R : SgtRun G) (hp : plchk p = 0) (hq : plchk q = 0) (hr : runE p n r = 0) (hs : runE q n r = 0) :
    Calls Tryz.prog 10 #[plV vc p.ticks vs vw, plV ic q.ticks is iw, .int .i64 n, .int .i64 r] w fun e w' => e = .returned (.tuple #[.int .i64 (partAt (statesK p n.toNat r.toNat) (statesK q n.toNat r.toNat) 0), .nilIface]) ∧ Below w.heap.size w w' := by
  obtain ⟨ca, cc, rfl⟩ := hP.code.form
  obtain ⟨sa, sc, rfl⟩ := hP.spans.form
  obtain ⟨wa, wc', rfl⟩ := hP.wires.form
  obtain ⟨xa, xc, rfl⟩ := hQ.code.form
  obtain ⟨ya, yc, rfl⟩ := hQ.spans.form
  obtain ⟨za, zc', rfl⟩ := hQ.wires.form
  have hx1 := Bxt.first w (.slice ca p.code.length cc) p.ticks (.slice sa p.spans.length sc) (.slice wa p.wires.length wc') (.slice xa q.code.length xc) q.ticks (.slice ya q.spans.length yc) (.slice za q.wires.length zc')
  generalize hWA : (w.alloc (.cells #[.slice ca p.code.length cc, .int .i64 p.ticks, .slice sa p.spans.length sc, .slice wa p.wires.length wc'] 26)).alloc (.cells #[.slice xa q.code.length xc, .int .i64 q.ticks, .slice ya q.spans.length yc, .slice za q.wires.length zc'] 26) = WA at hx1
  have HC : Hid (∀ W, Below w.heap.size w W → Calls Tryz.prog 16 #[.agg #[.slice ca p.code.length cc, .int .i64 p.ticks, .slice sa p.spans.length sc, .slice wa p.wires.length wc']] W fun e w' => e = .returned (wErr (plchk p)) ∧ Below W.heap.size W w') := fun W hb => plcheck_any p _ _ _ _ (hfm.all hb) (hP.all hb)
  have HD : Hid (∀ W, Below w.heap.size w W → Calls Tryz.prog 16 #[.agg #[.slice xa q.code.length xc, .int .i64 q.ticks, .slice ya q.spans.length yc, .slice za q.wires.length zc']] W fun e w' => e = .returned (wErr (plchk q)) ∧ Below W.heap.size W w') := fun W hb => plcheck_any q _ _ _ _ (hfm.all hb) (hQ.all hb)
  unfold plV
  rw [hq] at HD
  rw [hp] at HC
  simp only [wErr, if_true] at HC HD
  have HR : Hid (∀ W, Below w.heap.size w W → Calls Tryz.prog 26 #[.agg #[.slice ca p.code.length cc, .int .i64 p.ticks, .slice sa p.spans.length sc, .slice wa p.wires.length wc'], .int .i64 n, .int .i64 r] W fun e w' => ∃ b off cap, e = .returned (.tuple #[.slice (some ⟨b, off, none⟩) (statesK p n.toNat r.toNat).length cap, .nilIface]) ∧ b < w'.heap.size ∧ (∀ (i : Nat) s, (statesK p n.toNat r.toNat)[i]? = some s → StC w' b (off + i * 8) s) ∧ Below W.heap.size W w') := fun W hb => by
    refine (R p _ _ _ n r W (hall w W hG hb) (hP.all hb)).mono ?_
    rintro e w' ⟨v, rfl, h1, h2⟩
    rw [hr, if_pos rfl] at h1
    rw [hr]
    rcases h1 with ⟨h3, _⟩ | ⟨b, off, cap, rfl, _, h4, h5⟩
    · have := statesK_len p n.toNat r.toNat
      rw [h3] at this
      cases this
    · exact ⟨b, off, cap, rfl, h4, h5, h2⟩
  have HS : Hid (∀ W, Below w.heap.size w W → Calls Tryz.prog 26 #[.agg #[.slice xa q.code.length xc, .int .i64 q.ticks, .slice ya q.spans.length yc, .slice za q.wires.length zc'], .int .i64 n, .int .i64 r] W fun e w' => ∃ b off cap, e = .returned (.tuple #[.slice (some ⟨b, off, none⟩) (statesK q n.toNat r.toNat).length cap, .nilIface]) ∧ b < w'.heap.size ∧ (∀ (i : Nat) s, (statesK q n.toNat r.toNat)[i]? = some s → StC w' b (off + i * 8) s) ∧ Below W.heap.size W w') := fun W hb => by
    refine (R q _ _ _ n r W (hall w W hG hb) (hQ.all hb)).mono ?_
    rintro e w' ⟨v, rfl, h1, h2⟩
    rw [hs, if_pos rfl] at h1
    rw [hs]
    rcases h1 with ⟨h3, _⟩ | ⟨b, off, cap, rfl, _, h4, h5⟩
    · have := statesK_len q n.toNat r.toNat
      rw [h3] at this
      cases this
    · exact ⟨b, off, cap, rfl, h4, h5, h2⟩
  obtain ⟨k0, k1, k2, k3⟩ := hx1.cs
  obtain ⟨d0, d1, d2, d3⟩ := hx1.ds
  have hi0 := fun W => (index_two (.slice ca p.code.length cc) (.int .i64 p.ticks) (.slice sa p.spans.length sc) (.slice wa p.wires.length wc') (.slice xa q.code.length xc) (.int .i64 q.ticks) (.slice ya q.spans.length yc) (.slice za q.wires.length zc') W).1
  have hi1 := fun W => (index_two (.slice ca p.code.length cc) (.int .i64 p.ticks) (.slice sa p.spans.length sc) (.slice wa p.wires.length wc') (.slice xa q.code.length xc) (.int .i64 q.ticks) (.slice ya q.spans.length yc) (.slice za q.wires.length zc') W).2
  have hll : (statesK p n.toNat r.toNat).length = (statesK q n.toNat r.toNat).length := by rw [statesK_len, statesK_len]
  have hl3 : (statesK p n.toNat r.toNat).length ≤ 2001 := by
    rw [statesK_len]
    unfold runE at hr
    rw [if_pos hp] at hr
    split at hr
    · cases hr
    · omega
  have HLL : Hid ((statesK p n.toNat r.toNat).length = (statesK q n.toNat r.toNat).length) := hll
  clear hP hQ hfm hp hq hr hs hall hG R hll
  generalize statesK p n.toNat r.toNat = l at *
  generalize statesK q n.toNat r.toNat = m at *
  go_enter Tryz.func10, Tryz.ntmps10
  go_upto_region 1 with fail
  clear hWA
  go_wp2
  refine wp_loop_rounds 3 ?_
  rw [rounds_succ]
  go_upto_region 4 with fail
  have hx2 := hx1.step ((Below.refl _ _).alloc (Nat.le_refl _) (.cells #[.slice ca p.code.length cc, .int .i64 p.ticks, .slice sa p.spans.length sc, .slice wa p.wires.length wc'] 26))
  have q1 := HC.out _ hx2.below
  clear HC
  go_wp2_with (go_at_call 16; refine q1.mono ?_; rintro e w2 ⟨rfl, b2⟩; clear q1)
  have hx3 := hx2.step b2
  clear k0 k1 k2 k3 d0 d1 d2 d3 hi0 hx1 hx2 b2
  rw [rounds_succ]
  go_upto_region 4 with fail
  have hx4 := hx3.step ((Below.refl _ _).alloc (Nat.le_refl _) (.cells #[.slice xa q.code.length xc, .int .i64 q.ticks, .slice ya q.spans.length yc, .slice za q.wires.length zc'] 26))
  have q2 := HD.out _ hx4.below
  clear HD
  go_wp2_with (go_at_call 16; refine q2.mono ?_; rintro e w4 ⟨rfl, b4⟩; clear q2)
  have hx5 := hx4.step b4
  clear hx3 hx4 b4 hi1
  rw [rounds_succ]
  obtain ⟨k0, k1, k2, k3⟩ := hx5.cs
  have q3 := HR.out w4 hx5.below
  clear HR
  go_wp2_with (first
    | (go_at_call 26; refine q3.mono ?_; rintro e w6 ⟨lb, lo, lc, rfl, hl1, hl2, b6⟩; clear q3 k0 k1 k2 k3; have hx6 := hx5.step b6; obtain ⟨d0, d1, d2, d3⟩ := hx6.ds; have q4 := HS.out w6 hx6.below; clear HS)
    | (go_at_call 26; refine q4.mono ?_; rintro e w7 ⟨mb, mo, mc, rfl, hm1, hm2, b7⟩; clear q4))
  have hx7 := hx6.step b7
  have HA : Hid (∀ (i : Nat) s, l[i]? = some s → StC w7 lb (lo + i * 8) s) := fun i s h => (hl2 i s h).block (b7.block lb hl1)
  have HB : Hid (∀ (i : Nat) s, m[i]? = some s → StC w7 mb (mo + i * 8) s) := hm2
  have hl4 : lb < w7.heap.size := Nat.lt_of_lt_of_le hl1 b7.size
  clear hl2 hm2 d0 d1 d2 d3 hx5 hx6 b6 b7 hl1
  have hgd := guardSt
  go_loopw [52] (fun i wr => ∃ k : Nat, k ≤ l.length ∧ i = .int .i64 k ∧ (∀ (j : Nat) s t, j < k → l[j]? = some s → m[j]? = some t → likeS s t = true) ∧ Below w7.heap.size w7 wr) (fun i _ => l.length - (intOf i).toNat)
  case atStart => exact ⟨0, Nat.zero_le _, rfl, fun j s t hj => by omega, Below.refl _ _⟩
  case round =>
    obtain ⟨k, hk, rfl, hall, hbw⟩ := hrel
    have HY : Hid (∀ (j : Nat) s t, j < k → l[j]? = some s → m[j]? = some t → likeS s t = true) := hall
    have hsz := hbw.size
    clear hall
    by_cases hkl : k < l.length
    · have hki : (k : Int) < (l.length : Int) := by omega
      have hkm' : k < m.length := by rw [← HLL.out]; exact hkl
      have hkm : (k : Int) < (m.length : Int) := by omega
      obtain ⟨s, hs⟩ : ∃ s, l[k]? = some s := ⟨_, List.getElem?_eq_getElem hkl⟩
      obtain ⟨u, hu⟩ : ∃ u, m[k]? = some u := ⟨_, List.getElem?_eq_getElem hkm'⟩
      have HD : Hid (∀ h : (∀ (j : Nat) s t, j < k → l[j]? = some s → m[j]? = some t → likeS s t = true), partAt l m 0 = if sameS s u = true then partAt (l.drop (k + 1)) (m.drop (k + 1)) (k + 1) else (k : Int)) := fun h => (partAt_yes h (by omega) (by omega)).trans (partAt_drop hs hu)
      have HSU : Hid (l[k]? = some s ∧ m[k]? = some u) := ⟨hs, hu⟩
      obtain ⟨s0, s1, s2, s3, s4, s5, s6, s7⟩ := (HA.out k s hs).block (hbw.block lb hl4)
      have HT : Hid (∀ o, StC (wr.alloc o) mb (mo + k * 8) u) := fun o => ((HB.out k u hu).block (hbw.block mb hm1)).block (((Below.refl wr.heap.size wr).alloc (Nat.le_refl _) o).block mb (by omega))
      have hnq := neq_st2 s u
      clear hs hu
      cases hss : sameS s u with
      | true =>
        rw [hss] at hnq
        have HSS : Hid (likeS s u = true) := hss
        clear hss HD
        go_upto_region 17 with fail
        obtain ⟨t0, t1, t2, t3, t4, t5, t6, t7⟩ := HT.out (.cells #[.int .i64 s.p, .int .i64 (s.c 0), .int .i64 (s.c 1), .int .i64 (s.c 2), .int .i64 (s.c 3), .int .i64 (s.c 4), .int .i64 (s.c 5), .bool s.f] 39)
        go_quiet (fail)
        go_wp2
        go_roundw
        case rel =>
          refine ⟨k + 1, by omega, by go_num, fun j x y hj hx hy => ?_, below_dN (hbw.alloc hbw.size _) _⟩
          by_cases hjk : j < k
          · exact HY.out j x y hjk hx hy
          · obtain rfl : j = k := by omega
            rw [HSU.out.1] at hx
            rw [HSU.out.2] at hy
            obtain rfl := Option.some.inj hx
            obtain rfl := Option.some.inj hy
            exact HSS.out
        case measure => simp [intOf]; omega
      | false =>
        have HX : Hid (partAt l m 0 = (k : Int)) := by
          show _ = _
          rw [HD.out HY.out, hss, if_neg (by decide)]
        rw [hss] at hnq
        clear hss HD
        go_upto_region 17 with fail
        obtain ⟨t0, t1, t2, t3, t4, t5, t6, t7⟩ := HT.out (.cells #[.int .i64 s.p, .int .i64 (s.c 0), .int .i64 (s.c 1), .int .i64 (s.c 2), .int .i64 (s.c 3), .int .i64 (s.c 4), .int .i64 (s.c 5), .bool s.f] 39)
        go_quiet (fail)
        go_wp2
        go_ret2
        exact ⟨by rw [HX.out]; rfl, (hx7.step (below_dN (hbw.alloc hbw.size _) _)).below⟩
    · obtain rfl : k = l.length := by omega
      have hki : decide ((l.length : Int) < (l.length : Int)) = false := decide_eq_false (by omega)
      have HX : Hid (partAt l m 0 = -1) := by
        show _ = _
        rw [partAt_yes HY.out (Nat.le_refl _) (Nat.le_of_eq HLL.out), partAt_end (Nat.le_refl _)]
      clear HY
      go_wp2
      go_ret2
      exact ⟨by rw [HX.out]; rfl, (hx7.step hbw).below⟩
/-- Same does what the laws ask of it. -/
theorem prg_same {G : World → Prop} (hF : ∀ w, G w → Forms w) (hall : ∀ w w', G w → Below w.heap.size w w' → G w') (R : SgtRun G) : PrgSame G := fun p q vc vs vw ic is iw n r W hG hP hQ => by
  by_cases hp : plchk p = 0
  · by_cases hq : plchk q = 0
    · by_cases h1 : r < 0 ∨ (p.code.length : Int) ≤ r ∨ n < 0 ∨ 2000 < n
      · have he : likeE p q n r = 1 := by
          unfold likeE
          rw [if_pos hp, if_pos hq, if_pos (by omega)]
        have ha : likeAt p q n r = 0 := by
          unfold likeAt
          rw [if_neg (by omega)]
        rw [he, ha]
        exact psm_rp p q vc vs vw ic is iw n r W (hF W hG) hP hQ hG hall R hp hq (by unfold runE; rw [if_pos hp, if_pos h1])
      · have hr : runE p n r = 0 := by
          unfold runE
          rw [if_pos hp, if_neg h1]
        by_cases h2 : (q.code.length : Int) ≤ r
        · have he : likeE p q n r = 1 := by
            unfold likeE
            rw [if_pos hp, if_pos hq, if_pos (by omega)]
          have ha : likeAt p q n r = 0 := by
            unfold likeAt
            rw [if_neg (by omega)]
          rw [he, ha]
          exact psm_rq p q vc vs vw ic is iw n r W (hF W hG) hP hQ hG hall R hp hq hr (by unfold runE; rw [if_pos hq, if_pos (by omega)])
        · have he : likeE p q n r = 0 := by
            unfold likeE
            rw [if_pos hp, if_pos hq, if_neg (by omega)]
          have ha : likeAt p q n r = partAt (statesK p n.toNat r.toNat) (statesK q n.toNat r.toNat) 0 := by
            unfold likeAt
            rw [if_pos he]
          rw [he, ha]
          exact psm_ok p q vc vs vw ic is iw n r W (hF W hG) hP hQ hG hall R hp hq hr (by unfold runE; rw [if_pos hq, if_neg (by omega)])
    · have he : likeE p q n r = plchk q := by
        unfold likeE
        rw [if_pos hp, if_neg hq]
      have ha : likeAt p q n r = 0 := by
        unfold likeAt
        rw [if_neg (by rw [he]; exact hq)]
      rw [he, ha]
      exact psm_q p q vc vs vw ic is iw n r W (hF W hG) hP hQ hp hq
  · have he : likeE p q n r = plchk p := by
      unfold likeE
      rw [if_neg hp]
    have ha : likeAt p q n r = 0 := by
      unfold likeAt
      rw [if_neg (by rw [he]; exact hp)]
    rw [he, ha]
    exact psm_p p q vc vs vw ic is iw n r W (hF W hG) hP hQ hp
end Go.Proofs.YteoemcekkcnplaeGreatDoor

/-
  The law PlanBack: the walks, under what package plan does.
-/
import Derived.Test.YtamnfadngbbaeacGreatDoorPBack0
namespace Go.Proofs.YtamnfadngbbaeacGreatDoor
open Go.RowKit

set_option maxRecDepth 1000000 in
set_option maxHeartbeats 8000000 in
theorem pback_wrong_bad {G : World → Prop} (C : PlanCb G) (p : PD) (vc vs vw : Value) (t : ByteArray) (w : World) (hG : G w) (hp : Pln w vc vs vw p) (hs : t.size ≤ 1099511627776) (hE : (planP t.data.toList).2 ≠ 0) (hz : plchk p ≠ 0) :
    Calls Tryz.prog 4 #[plV vc p.ticks vs vw, .string t] w fun e w' => e = .returned (.bool true) ∧ Below w.heap.size w w' := by
  obtain ⟨ca, cc, rfl⟩ := hp.code.form
  obtain ⟨sa, sc, rfl⟩ := hp.spans.form
  obtain ⟨wa, wc, rfl⟩ := hp.wires.form
  have HC : Hid (PlanCb G) := C
  have HG : Hid (∀ W, Below w.heap.size w W → G W) := fun W hb => C.all w W hG hb
  have HP : Hid (∀ W, Below w.heap.size w W → Pln W (.slice ca p.code.length cc) (.slice sa p.spans.length sc) (.slice wa p.wires.length wc) p) := fun W hb => hp.all hb
  have HT : Hid (t.size ≤ 1099511627776) := hs
  have hx0 := Bx.first w (.slice ca p.code.length cc) p.ticks (.slice sa p.spans.length sc) (.slice wa p.wires.length wc)
  have q1 := C.fact _ (HG.out _ hx0.below)
  clear hp C hG hs
  unfold plV
  go_enter Tryz.func4, Tryz.ntmps4
  go_wp2_with (first
    | (go_at_call 11; refine q1.mono ?_; rintro e w1 ⟨fa, fb, fc, fd, fe, ff, rfl, b1⟩; clear q1; have hx1 := hx0.step b1; have hf0 := Bx.first w1 (.slice fa 1 fb) 3 (.slice fc 1 fd) (.slice fe 0 ff); have hx2 := hx1.step hf0.below; obtain ⟨f0, f1, f2, f3⟩ := hf0.cs; have q2 := HC.out.bad t _ (HG.out _ hx2.below) HT.out hE; clear b1 hx0)
    | (go_at_call 11; refine q2.mono ?_; rintro e w3 ⟨ya, yb, yc, yn, yd, ye, yf, yg, yh, yi, yj, rfl, b3⟩; clear q2 f0 f1 f2 f3; have hx3 := hx2.step b3; have hy4 := Bx.first w3 (.slice ya yb yc) yn (.slice yd ye yf) (.slice yg yh yi); have hx4 := hx3.step hy4.below; obtain ⟨k0, k1, k2, k3⟩ := hx4.cs; have q3 := HC.out.unprinted p _ _ _ _ (HG.out _ hx4.below) (HP.out _ hx4.below) hz; clear b3 hx1 hx2)
    | (go_at_call 9; refine q3.mono ?_; rintro e w5 ⟨s, rfl, b5⟩; clear q3 k0 k1 k2 k3; have hx5 := hx4.step b5; obtain ⟨k0, k1, k2, k3⟩ := hx5.cs; have q4 := HC.out.wrong p _ _ _ _ (HG.out _ hx5.below) (HP.out _ hx5.below) hz; clear b5 hx3 hx4)
    | (go_at_call 7; refine q4.mono ?_; rintro e w6 ⟨rfl, b6⟩; clear q4; have hx6 := hx5.step b6; clear b6))
  go_ret
  exact ⟨rfl, hx6.below⟩
set_option maxRecDepth 1000000 in
set_option maxHeartbeats 8000000 in
theorem pback_wrong_good {G : World → Prop} (C : PlanCb G) (p : PD) (vc vs vw : Value) (t : ByteArray) (w : World) (hG : G w) (hp : Pln w vc vs vw p) (hs : t.size ≤ 1099511627776) (X : PD) (hX : planP t.data.toList = (X, 0)) (hz : plchk p ≠ 0) :
    Calls Tryz.prog 4 #[plV vc p.ticks vs vw, .string t] w fun e w' => e = .returned (.bool true) ∧ Below w.heap.size w w' := by
  obtain ⟨ca, cc, rfl⟩ := hp.code.form
  obtain ⟨sa, sc, rfl⟩ := hp.spans.form
  obtain ⟨wa, wc, rfl⟩ := hp.wires.form
  have HC : Hid (PlanCb G) := C
  have HG : Hid (∀ W, Below w.heap.size w W → G W) := fun W hb => C.all w W hG hb
  have HP : Hid (∀ W, Below w.heap.size w W → Pln W (.slice ca p.code.length cc) (.slice sa p.spans.length sc) (.slice wa p.wires.length wc) p) := fun W hb => hp.all hb
  have HT : Hid (t.size ≤ 1099511627776) := hs
  have HX : Hid (planP t.data.toList = (X, 0)) := hX
  have HB : Hid (plchk X = 0 ∧ planB X = t.data.toList) := by
    have := plan_back (t := t.data.toList) (by rw [hX])
    rw [hX] at this
    exact this
  clear hX
  have hx0 := Bx.first w (.slice ca p.code.length cc) p.ticks (.slice sa p.spans.length sc) (.slice wa p.wires.length wc)
  have q1 := C.fact _ (HG.out _ hx0.below)
  clear hp C hG hs
  unfold plV
  go_enter Tryz.func4, Tryz.ntmps4
  go_wp2_with (first
    | (go_at_call 11; refine q1.mono ?_; rintro e w1 ⟨fa, fb, fc, fd, fe, ff, rfl, b1⟩; clear q1; have hx1 := hx0.step b1; have hf0 := Bx.first w1 (.slice fa 1 fb) 3 (.slice fc 1 fd) (.slice fe 0 ff); have hx2 := hx1.step hf0.below; obtain ⟨f0, f1, f2, f3⟩ := hf0.cs; have q2 := HC.out.good t X _ (HG.out _ hx2.below) HT.out HX.out; clear b1 hx0)
    | (go_at_call 11; refine q2.mono ?_; rintro e w3 ⟨ya, yb, yd, ye, yg, yh, rfl, py, b3⟩; clear q2 f0 f1 f2 f3; have hx3 := hx2.step b3; have hy0 := Bx.first w3 (.slice ya X.code.length yb) X.ticks (.slice yd X.spans.length ye) (.slice yg X.wires.length yh); have hxa := hx3.step hy0.below; obtain ⟨j0, j1, j2, j3⟩ := hy0.cs; have qa := HC.out.printed X _ _ _ t _ (HG.out _ hxa.below) (py.all hy0.below) HB.out.1 HB.out.2; clear b3 hx1 hx2 py)
    | (go_at_call 9; refine qa.mono ?_; rintro e w4 ⟨rfl, b4⟩; clear qa j0 j1 j2 j3; have hx4 := hxa.step b4; have hy4 := hy0.step b4; obtain ⟨k0, k1, k2, k3⟩ := hx4.cs; have q3 := HC.out.unprinted p _ _ _ _ (HG.out _ hx4.below) (HP.out _ hx4.below) hz; clear b4 hxa)
    | (go_at_call 9; refine q3.mono ?_; rintro e w5 ⟨s, rfl, b5⟩; clear q3 k0 k1 k2 k3; have hx5 := hx4.step b5; obtain ⟨k0, k1, k2, k3⟩ := hx5.cs; have q4 := HC.out.wrong p _ _ _ _ (HG.out _ hx5.below) (HP.out _ hx5.below) hz; clear b5 hx3 hx4)
    | (go_at_call 7; refine q4.mono ?_; rintro e w6 ⟨rfl, b6⟩; clear q4; have hx6 := hx5.step b6; clear b6))
  go_ret
  exact ⟨rfl, hx6.below⟩
set_option maxRecDepth 1000000 in
set_option maxHeartbeats 8000000 in
theorem pback_right_bad {G : World → Prop} (C : PlanCb G) (FR : PlanFr G) (p : PD) (vc vs vw : Value) (t : ByteArray) (w : World) (hG : G w) (hp : Pln w vc vs vw p) (hs : t.size ≤ 1099511627776) (hE : (planP t.data.toList).2 ≠ 0) (hz : plchk p = 0) :
    Calls Tryz.prog 4 #[plV vc p.ticks vs vw, .string t] w fun e w' => e = .returned (.bool true) ∧ Below w.heap.size w w' := by
  obtain ⟨ca, cc, rfl⟩ := hp.code.form
  obtain ⟨sa, sc, rfl⟩ := hp.spans.form
  obtain ⟨wa, wc, rfl⟩ := hp.wires.form
  have HC : Hid (PlanCb G) := C
  have HG : Hid (∀ W, Below w.heap.size w W → G W) := fun W hb => C.all w W hG hb
  have HP : Hid (∀ W, Below w.heap.size w W → Pln W (.slice ca p.code.length cc) (.slice sa p.spans.length sc) (.slice wa p.wires.length wc) p) := fun W hb => hp.all hb
  have HT : Hid (t.size ≤ 1099511627776) := hs
  have HF : Hid (PlanFr G) := FR
  have HZ : Hid (plchk p = 0) := hz
  have HS : Hid _ := small_of hz
  obtain ⟨T, hT⟩ : ∃ T : ByteArray, T = ⟨(planB p).toArray⟩ := ⟨_, rfl⟩
  have HTT : Hid (planB p = T.data.toList) := by rw [hT]; exact (rfl : planB p = planB p)
  have HTS : Hid (T.size ≤ 1099511627776) := by rw [hT]; exact planB_size hz
  have HTP : Hid (planP T.data.toList = (p, 0)) := by rw [← HTT.out]; exact plan_read hz
  clear FR hz hT
  have hx0 := Bx.first w (.slice ca p.code.length cc) p.ticks (.slice sa p.spans.length sc) (.slice wa p.wires.length wc)
  have q1 := C.fact _ (HG.out _ hx0.below)
  clear hp C hG hs
  unfold plV
  go_enter Tryz.func4, Tryz.ntmps4
  go_wp2_with (first
    | (go_at_call 11; refine q1.mono ?_; rintro e w1 ⟨fa, fb, fc, fd, fe, ff, rfl, b1⟩; clear q1; have hx1 := hx0.step b1; have hf0 := Bx.first w1 (.slice fa 1 fb) 3 (.slice fc 1 fd) (.slice fe 0 ff); have hx2 := hx1.step hf0.below; obtain ⟨f0, f1, f2, f3⟩ := hf0.cs; have q2 := HC.out.bad t _ (HG.out _ hx2.below) HT.out hE; clear b1 hx0)
    | (go_at_call 11; refine q2.mono ?_; rintro e w3 ⟨ya, yb, yc, yn, yd, ye, yf, yg, yh, yi, yj, rfl, b3⟩; clear q2 f0 f1 f2 f3; have hx3 := hx2.step b3; have hy4 := Bx.first w3 (.slice ya yb yc) yn (.slice yd ye yf) (.slice yg yh yi); have hx4 := hx3.step hy4.below; obtain ⟨k0, k1, k2, k3⟩ := hx4.cs; have q3 := HC.out.printed p _ _ _ T _ (HG.out _ hx4.below) (HP.out _ hx4.below) HZ.out HTT.out; clear b3 hx1 hx2)
    | (go_at_call 9; refine q3.mono ?_; rintro e w5 ⟨rfl, b5⟩; clear q3 k0 k1 k2 k3; have hx5 := hx4.step b5; have hy5 := hy4.step b5; have q4 := HF.out T p _ (HG.out _ hx5.below) HTS.out HTP.out; clear b5 hx4 hy4)
    | (go_at_call 11; refine q4.mono ?_; rintro e w7 ⟨za, zb, zc, zd, ze, zf, rfl, pz, b7⟩; clear q4; have hx7 := hx5.step b7; have hy7 := hy5.step b7; have h35 := hy5.size; have hw3 := hx3.size; obtain ⟨m0, m1, m2, m3⟩ := hy7.cs; obtain ⟨g0, g1, g2, g3⟩ := hy7.f; have hxl := hx7.over hw3 (.slice za p.code.length zb) (.int .i64 p.ticks) (.slice zc p.spans.length zd) (.slice ze p.wires.length zf); have HPZ : Hid (Pln (lay4 w7 w3.heap.size (.slice za p.code.length zb) (.int .i64 p.ticks) (.slice zc p.spans.length zd) (.slice ze p.wires.length zf)) (.slice za p.code.length zb) (.slice zc p.spans.length zd) (.slice ze p.wires.length zf) p) := pz _ (lay4_size _ _ _ _ _ _) (fun b o hb => lay4_far _ _ _ _ _ _ (by omega) o); obtain ⟨k0, k1, k2, k3⟩ := hxl.cs; obtain ⟨n0, n1, n2, n3⟩ := lay4_cs hy7.cs (.slice za p.code.length zb) (.int .i64 p.ticks) (.slice zc p.spans.length zd) (.slice ze p.wires.length zf); have q5 := sameplan_any p _ _ _ _ _ _ _ HPZ.out (HP.out _ hxl.below) HS.out.1 HS.out.2.1 HS.out.2.2.1 HS.out.2.2.2; unfold plV at q5; clear b7 hx5 hy5 hx7 hx3 pz)
    | (go_at_call 12; refine q5.mono ?_; rintro e w8 ⟨rfl, b8⟩; clear q5; have hx8 := hxl.step b8; clear b8))
  go_ret
  exact ⟨rfl, hx8.below⟩
set_option maxRecDepth 1000000 in
set_option maxHeartbeats 8000000 in
theorem pback_right_good {G : World → Prop} (C : PlanCb G) (FR : PlanFr G) (p : PD) (vc vs vw : Value) (t : ByteArray) (w : World) (hG : G w) (hp : Pln w vc vs vw p) (hs : t.size ≤ 1099511627776) (X : PD) (hX : planP t.data.toList = (X, 0)) (hz : plchk p = 0) :
    Calls Tryz.prog 4 #[plV vc p.ticks vs vw, .string t] w fun e w' => e = .returned (.bool true) ∧ Below w.heap.size w w' := by
  obtain ⟨ca, cc, rfl⟩ := hp.code.form
  obtain ⟨sa, sc, rfl⟩ := hp.spans.form
  obtain ⟨wa, wc, rfl⟩ := hp.wires.form
  have HC : Hid (PlanCb G) := C
  have HG : Hid (∀ W, Below w.heap.size w W → G W) := fun W hb => C.all w W hG hb
  have HP : Hid (∀ W, Below w.heap.size w W → Pln W (.slice ca p.code.length cc) (.slice sa p.spans.length sc) (.slice wa p.wires.length wc) p) := fun W hb => hp.all hb
  have HT : Hid (t.size ≤ 1099511627776) := hs
  have HX : Hid (planP t.data.toList = (X, 0)) := hX
  have HB : Hid (plchk X = 0 ∧ planB X = t.data.toList) := by
    have := plan_back (t := t.data.toList) (by rw [hX])
    rw [hX] at this
    exact this
  clear hX
  have HF : Hid (PlanFr G) := FR
  have HZ : Hid (plchk p = 0) := hz
  have HS : Hid _ := small_of hz
  obtain ⟨T, hT⟩ : ∃ T : ByteArray, T = ⟨(planB p).toArray⟩ := ⟨_, rfl⟩
  have HTT : Hid (planB p = T.data.toList) := by rw [hT]; exact (rfl : planB p = planB p)
  have HTS : Hid (T.size ≤ 1099511627776) := by rw [hT]; exact planB_size hz
  have HTP : Hid (planP T.data.toList = (p, 0)) := by rw [← HTT.out]; exact plan_read hz
  clear FR hz hT
  have hx0 := Bx.first w (.slice ca p.code.length cc) p.ticks (.slice sa p.spans.length sc) (.slice wa p.wires.length wc)
  have q1 := C.fact _ (HG.out _ hx0.below)
  clear hp C hG hs
  unfold plV
  go_enter Tryz.func4, Tryz.ntmps4
  go_wp2_with (first
    | (go_at_call 11; refine q1.mono ?_; rintro e w1 ⟨fa, fb, fc, fd, fe, ff, rfl, b1⟩; clear q1; have hx1 := hx0.step b1; have hf0 := Bx.first w1 (.slice fa 1 fb) 3 (.slice fc 1 fd) (.slice fe 0 ff); have hx2 := hx1.step hf0.below; obtain ⟨f0, f1, f2, f3⟩ := hf0.cs; have q2 := HC.out.good t X _ (HG.out _ hx2.below) HT.out HX.out; clear b1 hx0)
    | (go_at_call 11; refine q2.mono ?_; rintro e w3 ⟨ya, yb, yd, ye, yg, yh, rfl, py, b3⟩; clear q2 f0 f1 f2 f3; have hx3 := hx2.step b3; have hy0 := Bx.first w3 (.slice ya X.code.length yb) X.ticks (.slice yd X.spans.length ye) (.slice yg X.wires.length yh); have hxa := hx3.step hy0.below; obtain ⟨j0, j1, j2, j3⟩ := hy0.cs; have qa := HC.out.printed X _ _ _ t _ (HG.out _ hxa.below) (py.all hy0.below) HB.out.1 HB.out.2; clear b3 hx1 hx2 py)
    | (go_at_call 9; refine qa.mono ?_; rintro e w4 ⟨rfl, b4⟩; clear qa j0 j1 j2 j3; have hx4 := hxa.step b4; have hy4 := hy0.step b4; obtain ⟨k0, k1, k2, k3⟩ := hx4.cs; have q3 := HC.out.printed p _ _ _ T _ (HG.out _ hx4.below) (HP.out _ hx4.below) HZ.out HTT.out; clear b4 hxa)
    | (go_at_call 9; refine q3.mono ?_; rintro e w5 ⟨rfl, b5⟩; clear q3 k0 k1 k2 k3; have hx5 := hx4.step b5; have hy5 := hy4.step b5; have q4 := HF.out T p _ (HG.out _ hx5.below) HTS.out HTP.out; clear b5 hx4 hy4)
    | (go_at_call 11; refine q4.mono ?_; rintro e w7 ⟨za, zb, zc, zd, ze, zf, rfl, pz, b7⟩; clear q4; have hx7 := hx5.step b7; have hy7 := hy5.step b7; have h35 := hy5.size; have hw3 := hx3.size; obtain ⟨m0, m1, m2, m3⟩ := hy7.cs; obtain ⟨g0, g1, g2, g3⟩ := hy7.f; have hxl := hx7.over hw3 (.slice za p.code.length zb) (.int .i64 p.ticks) (.slice zc p.spans.length zd) (.slice ze p.wires.length zf); have HPZ : Hid (Pln (lay4 w7 w3.heap.size (.slice za p.code.length zb) (.int .i64 p.ticks) (.slice zc p.spans.length zd) (.slice ze p.wires.length zf)) (.slice za p.code.length zb) (.slice zc p.spans.length zd) (.slice ze p.wires.length zf) p) := pz _ (lay4_size _ _ _ _ _ _) (fun b o hb => lay4_far _ _ _ _ _ _ (by omega) o); obtain ⟨k0, k1, k2, k3⟩ := hxl.cs; obtain ⟨n0, n1, n2, n3⟩ := lay4_cs hy7.cs (.slice za p.code.length zb) (.int .i64 p.ticks) (.slice zc p.spans.length zd) (.slice ze p.wires.length zf); have q5 := sameplan_any p _ _ _ _ _ _ _ HPZ.out (HP.out _ hxl.below) HS.out.1 HS.out.2.1 HS.out.2.2.1 HS.out.2.2.2; unfold plV at q5; clear b7 hx5 hy5 hx7 hx3 pz)
    | (go_at_call 12; refine q5.mono ?_; rintro e w8 ⟨rfl, b8⟩; clear q5; have hx8 := hxl.step b8; clear b8))
  go_ret
  exact ⟨rfl, hx8.below⟩
/-- PlanBack answers yes, under what package plan does. -/
theorem pback_of {G : World → Prop} (C : PlanCb G) (FR : PlanFr G) (p : PD) (vc vs vw : Value) (t : ByteArray) (w : World) (hG : G w) (hp : Pln w vc vs vw p) (hs : t.size ≤ 1099511627776) :
    Calls Tryz.prog 4 #[plV vc p.ticks vs vw, .string t] w fun e w' => e = .returned (.bool true) ∧ Below w.heap.size w w' := by
  by_cases hz : plchk p = 0
  · by_cases hE : (planP t.data.toList).2 = 0
    · exact pback_right_good C FR p vc vs vw t w hG hp hs _ (Prod.ext rfl hE) hz
    · exact pback_right_bad C FR p vc vs vw t w hG hp hs hE hz
  · by_cases hE : (planP t.data.toList).2 = 0
    · exact pback_wrong_good C p vc vs vw t w hG hp hs _ (Prod.ext rfl hE) hz
    · exact pback_wrong_bad C p vc vs vw t w hG hp hs hE hz
end Go.Proofs.YtamnfadngbbaeacGreatDoor

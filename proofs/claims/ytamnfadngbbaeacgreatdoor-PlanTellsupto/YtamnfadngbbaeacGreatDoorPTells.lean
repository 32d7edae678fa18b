/-
  The law PlanTells: the walk, under what package plan does.
-/
import Derived.Test.YtamnfadngbbaeacGreatDoorPlanLaw0
namespace Go.Proofs.YtamnfadngbbaeacGreatDoor
open Go.RowKit

set_option maxRecDepth 1000000 in
set_option maxHeartbeats 8000000 in
theorem ptells_of {G : World → Prop} (C : PlanCs G) (p : PD) (vc vs vw : Value) (t : ByteArray) (w : World) (hG : G w) (hp : Pln w vc vs vw p) (hs : t.size ≤ 1099511627776) :
    Calls Tryz.prog 3 #[plV vc p.ticks vs vw, .string t] w fun e w' => e = .returned (.bool true) ∧ Below w.heap.size w w' := by
  obtain ⟨ca, cc, rfl⟩ := hp.code.form
  obtain ⟨sa, sc, rfl⟩ := hp.spans.form
  obtain ⟨wa, wc, rfl⟩ := hp.wires.form
  have HC : Hid (PlanCs G) := C
  have HG : Hid (∀ W, Below w.heap.size w W → G W) := fun W hb => C.all w W hG hb
  have HP : Hid (∀ W, Below w.heap.size w W → Pln W (.slice ca p.code.length cc) (.slice sa p.spans.length sc) (.slice wa p.wires.length wc) p) := fun W hb => hp.all hb
  have hx0 := Bx.first w (.slice ca p.code.length cc) p.ticks (.slice sa p.spans.length sc) (.slice wa p.wires.length wc)
  have q1 := refplan_any p _ _ _ _ (HP.out _ hx0.below)
  have hrd := fun W (_ : Below w.heap.size w W) => readplan_any t W hs
  have hpl := prtB_len p
  have HPT : Hid (plchk p = 0 → ∀ W, Below w.heap.size w W → Calls Tryz.prog 8 #[plV (.slice ca p.code.length cc) p.ticks (.slice sa p.spans.length sc) (.slice wa p.wires.length wc)] W fun e w' => e = .returned (.string ⟨(prtB p).toArray⟩) ∧ Below W.heap.size W w') := fun h0 W hb => by
    have := plantext_any p _ _ _ W (HP.out W hb) h0
    rw [show prtB p = planB p from by unfold prtB; rw [if_pos h0]]
    exact this
  have HPE : Hid (plchk p ≠ 0 → prtB p = []) := fun h0 => by unfold prtB; rw [if_neg h0]
  have HRD : Hid (∀ W, Calls Tryz.prog 10 #[.string t] W (RdP W (planP t.data.toList))) := fun W => readplan_any t W hs
  have HPS : Hid (∀ W, G W → Calls Tryz.prog 11 #[.string t] W fun e w' => ∃ vc vs vw, e = .returned (.tuple #[plV vc (planP t.data.toList).1.ticks vs vw, wErr (planP t.data.toList).2]) ∧ Pln w' vc vs vw (planP t.data.toList).1 ∧ Below W.heap.size W w') := fun W hg => C.prs t W hg hs
  have HSM := planP_small t.data.toList
  have HSM' : Hid _ := HSM
  clear hp C hG hs hrd HSM
  generalize planP t.data.toList = R at HRD HPS HSM'
  obtain ⟨P, E⟩ := R
  simp only at HPS
  obtain ⟨z, hz⟩ : ∃ z, z = plchk p := ⟨_, rfl⟩
  have HK : Hid (∀ W, Below w.heap.size w W → Calls Tryz.prog 7 #[.agg #[.slice ca p.code.length cc, .int .i64 p.ticks, .slice sa p.spans.length sc, .slice wa p.wires.length wc]] W fun e w' => e = .returned (wErr z) ∧ Below W.heap.size W w') := fun W hb => by rw [hz]; exact HC.out.chk p _ _ _ W (HG.out W hb) (HP.out W hb)
  have HT : Hid (∀ W, Below w.heap.size w W → Calls Tryz.prog 9 #[.agg #[.slice ca p.code.length cc, .int .i64 p.ticks, .slice sa p.spans.length sc, .slice wa p.wires.length wc]] W fun e w' => e = .returned (.tuple #[.string ⟨(prtB p).toArray⟩, wErr z]) ∧ Below W.heap.size W w') := fun W hb => by rw [hz]; exact HC.out.prt p _ _ _ W (HG.out W hb) (HP.out W hb)
  rw [← hz] at q1 HPT HPE
  clear hz
  unfold plV at q1 HPT ⊢
  obtain ⟨X, hX⟩ : ∃ X, X = prtB p := ⟨_, rfl⟩
  rw [← hX] at hpl HPT HPE HT
  clear hX
  have hXX : (X == X) = true := by simp
  have tail : ∀ W, Below w.heap.size w W → True := fun _ _ => trivial
  clear tail
  by_cases h0 : z = 0
  · subst h0
    have HPT0 := fun W hb => HPT.out rfl W hb
    have HPT1 : Hid _ := HPT0
    clear HPT HPT0 HPE
    go_enter Tryz.func3, Tryz.ntmps3
    go_wp2_with (first
      | (go_at_call 5; refine q1.mono ?_; rintro e w1 ⟨rfl, b1⟩; clear q1; have hx1 := hx0.step b1; obtain ⟨k0, k1, k2, k3⟩ := hx1.cs; have q2 := HK.out w1 hx1.below; clear b1)
      | (go_at_call 7; refine q2.mono ?_; rintro e w2 ⟨rfl, b2⟩; clear q2 k0 k1 k2 k3; have hx2 := hx1.step b2; obtain ⟨k0, k1, k2, k3⟩ := hx2.cs; have q3 := HC.out.err 0 w2 (HG.out w2 hx2.below); clear b2 hx1)
      | (go_at_call 6; refine q3.mono ?_; rintro e w3 ⟨rfl, b3⟩; clear q3 k0 k1 k2 k3; have hx3 := hx2.step b3; obtain ⟨k0, k1, k2, k3⟩ := hx3.cs; have q4 := HPT1.out w3 hx3.below; clear b3 hx2)
      | (go_at_call 8; refine q4.mono ?_; rintro e w4 ⟨rfl, b4⟩; clear q4 k0 k1 k2 k3; have hx4 := hx3.step b4; obtain ⟨k0, k1, k2, k3⟩ := hx4.cs; have q5 := HT.out w4 hx4.below; clear b4 hx3)
      | (go_at_call 9; refine q5.mono ?_; rintro e w5 ⟨rfl, b5⟩; clear q5 k0 k1 k2 k3; have hx5 := hx4.step b5; have q6 := HC.out.err 0 w5 (HG.out w5 hx5.below); clear b5 hx4)
      | (go_at_call 6; refine q6.mono ?_; rintro e w6 ⟨rfl, b6⟩; clear q6; have hx6 := hx5.step b6; have q7 := HRD.out w6; clear b6 hx5)
      | (go_at_call 10; refine q7.mono ?_; rintro e w7 ⟨xc, xs, xw, rfl, px, b7⟩; clear q7; have hx7 := hx6.step b7; obtain ⟨xa, xb, rfl⟩ := px.code.form; obtain ⟨xd, xe, rfl⟩ := px.spans.form; obtain ⟨xf, xg, rfl⟩ := px.wires.form; have hy0 := Bx.first w7 (.slice xa P.code.length xb) P.ticks (.slice xd P.spans.length xe) (.slice xf P.wires.length xg); have hx8 := hx7.step hy0.below; have q8 := HPS.out _ (HG.out _ hx8.below); unfold plV; clear b7 hx6)
      | (go_at_call 11; refine q8.mono ?_; rintro e w9 ⟨yc, ys, yw, rfl, py, b9⟩; clear q8; have hx9 := hx8.step b9; have hy9 := hy0.step b9; obtain ⟨ya, yb, rfl⟩ := py.code.form; obtain ⟨yd, ye, rfl⟩ := py.spans.form; obtain ⟨yf, yg, rfl⟩ := py.wires.form; have hz0 := Bx.first w9 (.slice ya P.code.length yb) P.ticks (.slice yd P.spans.length ye) (.slice yf P.wires.length yg); have hx10 := hx9.step hz0.below; have hy10 := hy9.step hz0.below; have q9 := HC.out.err E _ (HG.out _ hx10.below); have HPX : Hid (Pln w9 (.slice xa P.code.length xb) (.slice xd P.spans.length xe) (.slice xf P.wires.length xg) P) := (px.all hy0.below).all b9; have HPY : Hid (Pln w9 (.slice ya P.code.length yb) (.slice yd P.spans.length ye) (.slice yf P.wires.length yg) P) := py; unfold plV; clear b9 hx8 px py)
      | (go_at_call 6; refine q9.mono ?_; rintro e w11 ⟨rfl, b11⟩; clear q9; have hx11 := hx10.step b11; have hy11 := hy10.step b11; have hz11 := hz0.step b11; obtain ⟨m0, m1, m2, m3⟩ := hy11.cs; obtain ⟨n0, n1, n2, n3⟩ := hz11.cs; have q10 := sameplan_any P _ _ _ _ _ _ w11 ((HPY.out.all hz0.below).all b11) ((HPX.out.all hz0.below).all b11) HSM'.out.1 HSM'.out.2.1 HSM'.out.2.2.1 HSM'.out.2.2.2; unfold plV at q10; clear b11)
      | (go_at_call 12; refine q10.mono ?_; rintro e w12 ⟨rfl, b12⟩; clear q10; have hx12 := hx11.step b12; clear b12))
    go_ret
    exact ⟨rfl, hx12.below⟩
  · have hz : (z == 0) = false := by simpa using h0
    obtain rfl : X = [] := HPE.out h0
    clear HPT HPE hXX h0
    go_enter Tryz.func3, Tryz.ntmps3
    go_wp2_with (first
      | (go_at_call 5; refine q1.mono ?_; rintro e w1 ⟨rfl, b1⟩; clear q1; have hx1 := hx0.step b1; obtain ⟨k0, k1, k2, k3⟩ := hx1.cs; have q2 := HK.out w1 hx1.below; clear b1)
      | (go_at_call 7; refine q2.mono ?_; rintro e w2 ⟨rfl, b2⟩; clear q2 k0 k1 k2 k3; have hx2 := hx1.step b2; obtain ⟨k0, k1, k2, k3⟩ := hx2.cs; have q3 := HC.out.err z w2 (HG.out w2 hx2.below); clear b2 hx1)
      | (go_at_call 6; refine q3.mono ?_; rintro e w4 ⟨rfl, b3⟩; clear q3 k0 k1 k2 k3; have hx4 := hx2.step b3; obtain ⟨k0, k1, k2, k3⟩ := hx4.cs; have q5 := HT.out w4 hx4.below; clear b3 hx2)
      | (go_at_call 9; refine q5.mono ?_; rintro e w5 ⟨rfl, b5⟩; clear q5 k0 k1 k2 k3; have hx5 := hx4.step b5; have q6 := HC.out.err z w5 (HG.out w5 hx5.below); clear b5 hx4)
      | (go_at_call 6; refine q6.mono ?_; rintro e w6 ⟨rfl, b6⟩; clear q6; have hx6 := hx5.step b6; have q7 := HRD.out w6; clear b6 hx5)
      | (go_at_call 10; refine q7.mono ?_; rintro e w7 ⟨xc, xs, xw, rfl, px, b7⟩; clear q7; have hx7 := hx6.step b7; obtain ⟨xa, xb, rfl⟩ := px.code.form; obtain ⟨xd, xe, rfl⟩ := px.spans.form; obtain ⟨xf, xg, rfl⟩ := px.wires.form; have hy0 := Bx.first w7 (.slice xa P.code.length xb) P.ticks (.slice xd P.spans.length xe) (.slice xf P.wires.length xg); have hx8 := hx7.step hy0.below; have q8 := HPS.out _ (HG.out _ hx8.below); unfold plV; clear b7 hx6)
      | (go_at_call 11; refine q8.mono ?_; rintro e w9 ⟨yc, ys, yw, rfl, py, b9⟩; clear q8; have hx9 := hx8.step b9; have hy9 := hy0.step b9; obtain ⟨ya, yb, rfl⟩ := py.code.form; obtain ⟨yd, ye, rfl⟩ := py.spans.form; obtain ⟨yf, yg, rfl⟩ := py.wires.form; have hz0 := Bx.first w9 (.slice ya P.code.length yb) P.ticks (.slice yd P.spans.length ye) (.slice yf P.wires.length yg); have hx10 := hx9.step hz0.below; have hy10 := hy9.step hz0.below; have q9 := HC.out.err E _ (HG.out _ hx10.below); have HPX : Hid (Pln w9 (.slice xa P.code.length xb) (.slice xd P.spans.length xe) (.slice xf P.wires.length xg) P) := (px.all hy0.below).all b9; have HPY : Hid (Pln w9 (.slice ya P.code.length yb) (.slice yd P.spans.length ye) (.slice yf P.wires.length yg) P) := py; unfold plV; clear b9 hx8 px py)
      | (go_at_call 6; refine q9.mono ?_; rintro e w11 ⟨rfl, b11⟩; clear q9; have hx11 := hx10.step b11; have hy11 := hy10.step b11; have hz11 := hz0.step b11; obtain ⟨m0, m1, m2, m3⟩ := hy11.cs; obtain ⟨n0, n1, n2, n3⟩ := hz11.cs; have q10 := sameplan_any P _ _ _ _ _ _ w11 ((HPY.out.all hz0.below).all b11) ((HPX.out.all hz0.below).all b11) HSM'.out.1 HSM'.out.2.1 HSM'.out.2.2.1 HSM'.out.2.2.2; unfold plV at q10; clear b11)
      | (go_at_call 12; refine q10.mono ?_; rintro e w12 ⟨rfl, b12⟩; clear q10; have hx12 := hx11.step b12; clear b12))
    go_ret
    exact ⟨rfl, hx12.below⟩
end Go.Proofs.YtamnfadngbbaeacGreatDoor

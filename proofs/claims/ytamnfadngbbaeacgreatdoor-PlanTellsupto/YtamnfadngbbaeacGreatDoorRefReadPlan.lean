/-
  frameref1.ReadPlan: the document's reading of a text as a plan.
-/
import Derived.Test.YtamnfadngbbaeacGreatDoorReadPl0
import Derived.Test.YtamnfadngbbaeacGreatDoorRefPlan
import Derived.Deep.CutRange
namespace Go.Proofs.YtamnfadngbbaeacGreatDoor
open Go.RowKit

theorem Bx.cs {w W : World} {vc vs vw : Value} {n : Int} (h : Bx w W vc n vs vw) : W.cell? ⟨w.heap.size, 0, none⟩ = some vc ∧ W.cell? ⟨w.heap.size, 1, none⟩ = some (.int .i64 n) ∧ W.cell? ⟨w.heap.size, 2, none⟩ = some vs ∧ W.cell? ⟨w.heap.size, 3, none⟩ = some vw := ⟨h.c0, h.c1, h.c2, h.c3⟩
/-- The result is laid. -/
theorem Bx.lay {w W : World} {vc vs vw : Value} {n : Int} (h : Bx w W vc n vs vw) (x0 x1 x2 x3 : Value) : Below w.heap.size w ((((W.setCell ⟨w.heap.size, 0, none⟩ x0).setCell ⟨w.heap.size, 1, none⟩ x1).setCell ⟨w.heap.size, 2, none⟩ x2).setCell ⟨w.heap.size, 3, none⟩ x3) :=
  (((h.below.setCell (p := ⟨w.heap.size, 0, none⟩) (Nat.le_refl _) x0).setCell (p := ⟨w.heap.size, 1, none⟩) (Nat.le_refl _) x1).setCell (p := ⟨w.heap.size, 2, none⟩) (Nat.le_refl _) x2).setCell (p := ⟨w.heap.size, 3, none⟩) (Nat.le_refl _) x3
theorem pln_none (w : World) : Pln w (.slice none 0 0) (.slice none 0 0) (.slice none 0 0) PD.none := ⟨Or.inl ⟨rfl, _, _, rfl⟩, Or.inl ⟨rfl, _, _, rfl⟩, Or.inl ⟨rfl, _, _, rfl⟩⟩
/-- What ReadPlan answers. -/
def RdP (w : World) (r : PD × Int) (e : Ending) (w' : World) : Prop := ∃ vc vs vw, e = .returned (.tuple #[plV vc r.1.ticks vs vw, .int .i64 r.2]) ∧ Pln w' vc vs vw r.1 ∧ Below w.heap.size w w'
theorem rdp_none {w w' : World} {r : PD × Int} {z : Int} (hr : r = (PD.none, z)) (hb : Below w.heap.size w w') : RdP w r (.returned (.tuple #[.agg #[.slice none 0 0, .int .i64 0, .slice none 0 0, .slice none 0 0], .int .i64 z])) w' := by
  subst hr
  exact ⟨_, _, _, rfl, pln_none w', hb⟩

set_option maxRecDepth 1000000 in
set_option maxHeartbeats 16000000 in
theorem readplan_open (t : ByteArray) (ps : List (List UInt8)) (q : List UInt8) (w : World) (hs : t.size ≤ 1099511627776) (hc : cutB 10 t.data.toList = ps ++ [q]) (hq : q ≠ []) :
    Calls Tryz.prog 10 #[.string t] w (RdP w (planP t.data.toList)) := by
  have HR : Hid (planP t.data.toList = (PD.none, 2)) := planP_open hc hq
  have hx0 := Bx.first w (.slice none 0 0) 0 (.slice none 0 0) (.slice none 0 0)
  have hcut := rcut_text t ps q (w.alloc (.cells #[.slice none 0 0, .int .i64 0, .slice none 0 0, .slice none 0 0] 26)) hs hc
  have hne : (q == []) = false := by simpa using hq
  have hlen : ps.length ≤ 1099511627776 := by
    have := (cutGo_len 10 t.data.toList []).2
    rw [show cutGo 10 [] t.data.toList = ps ++ [q] from hc] at this
    simp at this
    omega
  clear hc hq
  go_enter Tryz.func10, Tryz.ntmps10
  go_wp2_with (go_at_call 28; refine hcut.mono ?_; rintro e w1 ⟨⟨g, cap, rfl, hg, hgq, hgc⟩, b1⟩; clear hcut hgc; have hx := hx0.step b1; obtain ⟨k0, k1, k2, k3⟩ := hx.cs; obtain ⟨j0, j1, j2, j3⟩ := hx.f)
  refine bodyPost_ret (v := .tuple #[.agg #[.slice none 0 0, .int .i64 0, .slice none 0 0, .slice none 0 0], .int .i64 2]) ?_ rfl (rdp_none HR.out (hx.lay _ _ _ _))
  simp [results, Tryz.results10, go_sem, k0, k1, k2, k3]
set_option maxRecDepth 1000000 in
set_option maxHeartbeats 16000000 in
theorem readplan_empty (t : ByteArray) (w : World) (hs : t.size ≤ 1099511627776) (hc : cutB 10 t.data.toList = [] ++ [[]]) :
    Calls Tryz.prog 10 #[.string t] w (RdP w (planP t.data.toList)) := by
  have HR : Hid (planP t.data.toList = (PD.none, 2)) := by show _ = _; rw [planP_shut hc]; rfl
  have hx0 := Bx.first w (.slice none 0 0) 0 (.slice none 0 0) (.slice none 0 0)
  have hcut := rcut_text t [] [] (w.alloc (.cells #[.slice none 0 0, .int .i64 0, .slice none 0 0, .slice none 0 0] 26)) hs hc
  have hne : (([] : List UInt8) == []) = true := rfl
  clear hc
  simp only [List.length_nil, Nat.zero_add] at hcut
  go_enter Tryz.func10, Tryz.ntmps10
  go_wp2_with (go_at_call 28; refine hcut.mono ?_; rintro e w1 ⟨⟨g, cap, rfl, hg, hgq, hgc⟩, b1⟩; clear hcut hgc; have hx := hx0.step b1; obtain ⟨k0, k1, k2, k3⟩ := hx.cs; obtain ⟨j0, j1, j2, j3⟩ := hx.f)
  refine bodyPost_ret (v := .tuple #[.agg #[.slice none 0 0, .int .i64 0, .slice none 0 0, .slice none 0 0], .int .i64 2]) ?_ rfl (rdp_none HR.out (hx.lay _ _ _ _))
  simp [results, Tryz.results10, go_sem, k0, k1, k2, k3]
set_option maxRecDepth 1000000 in
set_option maxHeartbeats 16000000 in
theorem readplan_first_nums (t : ByteArray) (u : List UInt8) (r : List (List UInt8)) (p : List UInt8) (pps : List (List UInt8)) (w : World) (hs : t.size ≤ 1099511627776) (hc : cutB 10 t.data.toList = (u :: r) ++ [[]]) (hw : cutB 32 u = p :: pps) (hn : numsOf pps = none) :
    Calls Tryz.prog 10 #[.string t] w (RdP w (planP t.data.toList)) := by
  have HR : Hid (planP t.data.toList = (PD.none, 2)) := by
    show _ = _
    rw [planP_shut hc, planOf, frameOf_bad (body_none hw hn)]
    rfl
  have hx0 := Bx.first w (.slice none 0 0) 0 (.slice none 0 0) (.slice none 0 0)
  have hcut := rcut_text t (u :: r) [] (w.alloc (.cells #[.slice none 0 0, .int .i64 0, .slice none 0 0, .slice none 0 0] 26)) hs hc
  have hne : (([] : List UInt8) == []) = true := rfl
  have hlen : r.length ≤ 1099511627776 := by
    have := (cutGo_len 10 t.data.toList []).2
    rw [show cutGo 10 [] t.data.toList = (u :: r) ++ [[]] from hc] at this
    simp at this
    omega
  have hul : (⟨u.toArray⟩ : ByteArray).size ≤ 1099511627776 := by
    have := piece_len t.data.toList [] u (by rw [show cutGo 10 [] t.data.toList = (u :: r) ++ [[]] from hc]; simp)
    rw [ba_size]
    simp at this
    omega
  have hpl : pps.length ≤ 1099511627776 := by
    have := (cutGo_len 32 u []).2
    rw [show cutGo 32 [] u = p :: pps from hw] at this
    rw [ba_size] at hul
    simp at this
    omega
  have hcl := fun W => rcut_line ⟨u.toArray⟩ p pps W hul hw
  have hnum := fun W v h => rnums_none v p pps W h hpl hn
  clear hc hw hn
  simp only [List.length_cons] at hcut
  go_enter Tryz.func10, Tryz.ntmps10
  go_wp2_with (first
    | (go_at_call 28; refine hcut.mono ?_; rintro e w1 ⟨⟨g, cap, rfl, hg, hgq, hgc⟩, b1⟩; clear hcut; have hx := hx0.step b1; have hg0 := hgc 0 u rfl; clear hgc b1)
    | (go_at_call 28; refine (hcl _).mono ?_; rintro e w2 ⟨⟨g2, cap2, rfl, hst, hg2, hgc2⟩, b2⟩; clear hcl; have hx2 := hx.step b2; clear b2 hgq hg0)
    | (go_at_call 29; refine (hnum _ _ hst).mono ?_; rintro e w3 ⟨⟨ao, n, cap3, rfl⟩, b3⟩; clear hnum; have hx3 := hx2.step b3; obtain ⟨k0, k1, k2, k3⟩ := hx3.cs; obtain ⟨j0, j1, j2, j3⟩ := hx3.f; clear b3 hst hgc2))
  refine bodyPost_ret (v := .tuple #[.agg #[.slice none 0 0, .int .i64 0, .slice none 0 0, .slice none 0 0], .int .i64 2]) ?_ rfl (rdp_none HR.out (hx3.lay _ _ _ _))
  simp [results, Tryz.results10, go_sem, k0, k1, k2, k3]
set_option maxRecDepth 1000000 in
set_option maxHeartbeats 16000000 in
theorem readplan_first_word (t : ByteArray) (u : List UInt8) (r : List (List UInt8)) (p : List UInt8) (pps : List (List UInt8)) (ns : List Int) (w : World) (hs : t.size ≤ 1099511627776) (hc : cutB 10 t.data.toList = (u :: r) ++ [[]]) (hw : cutB 32 u = p :: pps) (hn : numsOf pps = some ns) (hp : p ≠ wFrame) :
    Calls Tryz.prog 10 #[.string t] w (RdP w (planP t.data.toList)) := by
  have HR : Hid (planP t.data.toList = (PD.none, 2)) := by
    show _ = _
    rw [planP_shut hc, planOf, frameOf_no (body_some hw hn) (Or.inl hp)]
    rfl
  have hx0 := Bx.first w (.slice none 0 0) 0 (.slice none 0 0) (.slice none 0 0)
  have hcut := rcut_text t (u :: r) [] (w.alloc (.cells #[.slice none 0 0, .int .i64 0, .slice none 0 0, .slice none 0 0] 26)) hs hc
  have hne : (([] : List UInt8) == []) = true := rfl
  have hlen : r.length ≤ 1099511627776 := by
    have := (cutGo_len 10 t.data.toList []).2
    rw [show cutGo 10 [] t.data.toList = (u :: r) ++ [[]] from hc] at this
    simp at this
    omega
  have hul : (⟨u.toArray⟩ : ByteArray).size ≤ 1099511627776 := by
    have := piece_len t.data.toList [] u (by rw [show cutGo 10 [] t.data.toList = (u :: r) ++ [[]] from hc]; simp)
    rw [ba_size]
    simp at this
    omega
  have hpl : pps.length ≤ 1099511627776 := by
    have := (cutGo_len 32 u []).2
    rw [show cutGo 32 [] u = p :: pps from hw] at this
    rw [ba_size] at hul
    simp at this
    omega
  have hcl := fun W => rcut_line ⟨u.toArray⟩ p pps W hul hw
  have hnum := fun W v h => rnums_some v p pps ns W h hpl hn
  have hpb : (p == [102, 114, 97, 109, 101]) = false := by simpa [wFrame] using hp
  clear hc hw hn
  simp only [List.length_cons] at hcut
  go_enter Tryz.func10, Tryz.ntmps10
  go_wp2_with (first
    | (go_at_call 28; refine hcut.mono ?_; rintro e w1 ⟨⟨g, cap, rfl, hg, hgq, hgc⟩, b1⟩; clear hcut; have hx := hx0.step b1; have hg0 := hgc 0 u rfl; clear hgc b1)
    | (go_at_call 28; refine (hcl _).mono ?_; rintro e w2 ⟨⟨g2, cap2, rfl, hst, hg2, hgc2⟩, b2⟩; clear hcl; have hx2 := hx.step b2; clear b2 hgq hg0)
    | (go_at_call 29; refine (hnum _ _ hst).mono ?_; rintro e w3 ⟨⟨ao, n, cap3, rfl, hnl, hat⟩, b3⟩; clear hnum; have hx3 := hx2.step b3; have hg3 : w3.cell? ⟨g2, 0, none⟩ = some (.string ⟨p.toArray⟩) := (b3.cell (p := ⟨g2, 0, none⟩) hg2).trans hgc2; obtain ⟨k0, k1, k2, k3⟩ := hx3.cs; obtain ⟨j0, j1, j2, j3⟩ := hx3.f; clear b3 hst hgc2 hat))
  refine bodyPost_ret (v := .tuple #[.agg #[.slice none 0 0, .int .i64 0, .slice none 0 0, .slice none 0 0], .int .i64 2]) ?_ rfl (rdp_none HR.out (hx3.lay _ _ _ _))
  simp [results, Tryz.results10, go_sem, k0, k1, k2, k3]
set_option maxRecDepth 1000000 in
set_option maxHeartbeats 16000000 in
theorem readplan_first_len (t : ByteArray) (u : List UInt8) (r : List (List UInt8)) (p : List UInt8) (pps : List (List UInt8)) (ns : List Int) (w : World) (hs : t.size ≤ 1099511627776) (hc : cutB 10 t.data.toList = (u :: r) ++ [[]]) (hw : cutB 32 u = p :: pps) (hn : numsOf pps = some ns) (hp : p = wFrame) (hl : ns.length ≠ 1) :
    Calls Tryz.prog 10 #[.string t] w (RdP w (planP t.data.toList)) := by
  have HR : Hid (planP t.data.toList = (PD.none, 2)) := by
    show _ = _
    rw [planP_shut hc, planOf, frameOf_no (body_some hw hn) (Or.inr hl)]
    rfl
  have hx0 := Bx.first w (.slice none 0 0) 0 (.slice none 0 0) (.slice none 0 0)
  have hcut := rcut_text t (u :: r) [] (w.alloc (.cells #[.slice none 0 0, .int .i64 0, .slice none 0 0, .slice none 0 0] 26)) hs hc
  have hne : (([] : List UInt8) == []) = true := rfl
  have hlen : r.length ≤ 1099511627776 := by
    have := (cutGo_len 10 t.data.toList []).2
    rw [show cutGo 10 [] t.data.toList = (u :: r) ++ [[]] from hc] at this
    simp at this
    omega
  have hul : (⟨u.toArray⟩ : ByteArray).size ≤ 1099511627776 := by
    have := piece_len t.data.toList [] u (by rw [show cutGo 10 [] t.data.toList = (u :: r) ++ [[]] from hc]; simp)
    rw [ba_size]
    simp at this
    omega
  have hpl : pps.length ≤ 1099511627776 := by
    have := (cutGo_len 32 u []).2
    rw [show cutGo 32 [] u = p :: pps from hw] at this
    rw [ba_size] at hul
    simp at this
    omega
  have hcl := fun W => rcut_line ⟨u.toArray⟩ p pps W hul hw
  have hnum := fun W v h => rnums_some v p pps ns W h hpl hn
  subst hp
  unfold wFrame at *
  clear hc hw hn
  simp only [List.length_cons] at hcut
  go_enter Tryz.func10, Tryz.ntmps10
  go_wp2_with (first
    | (go_at_call 28; refine hcut.mono ?_; rintro e w1 ⟨⟨g, cap, rfl, hg, hgq, hgc⟩, b1⟩; clear hcut; have hx := hx0.step b1; have hg0 := hgc 0 u rfl; clear hgc b1)
    | (go_at_call 28; refine (hcl _).mono ?_; rintro e w2 ⟨⟨g2, cap2, rfl, hst, hg2, hgc2⟩, b2⟩; clear hcl; have hx2 := hx.step b2; clear b2 hgq hg0)
    | (go_at_call 29; refine (hnum _ _ hst).mono ?_; rintro e w3 ⟨⟨ao, n, cap3, rfl, hnl, hat⟩, b3⟩; clear hnum; have hx3 := hx2.step b3; have hg3 : w3.cell? ⟨g2, 0, none⟩ = some (.string ⟨#[102, 114, 97, 109, 101]⟩) := (b3.cell (p := ⟨g2, 0, none⟩) hg2).trans hgc2; obtain ⟨k0, k1, k2, k3⟩ := hx3.cs; obtain ⟨j0, j1, j2, j3⟩ := hx3.f; clear b3 hst hgc2 hat; have hnb : ((n : Int) == 1) = false := (by simp; omega)))
  refine bodyPost_ret (v := .tuple #[.agg #[.slice none 0 0, .int .i64 0, .slice none 0 0, .slice none 0 0], .int .i64 2]) ?_ rfl (rdp_none HR.out (hx3.lay _ _ _ _))
  simp [results, Tryz.results10, go_sem, k0, k1, k2, k3]
end Go.Proofs.YtamnfadngbbaeacGreatDoor

/-
  The law PlanPorts: the walks, under what package plan, and wire.Check, do.
-/
import Derived.Test.YtamnfadngbbaeadDoorPPorts
namespace Go.Proofs.YtamnfadngbbaeadDoor
open Go.RowKit

/-- What wire.Check does. -/
def WireC : Prop := ∀ (f t k d : Int) (W : World), Calls Tryd.prog 5 #[.agg #[.int .i64 f, .int .i64 t, .int .i64 k, .int .i64 d]] W fun e w' => e = .returned (wErr (wchk f t k d)) ∧ Below W.heap.size W w'
set_option maxRecDepth 1000000 in
set_option maxHeartbeats 8000000 in
theorem pports_bad {G : World → Prop} (C : PlanC0 G) (hw : WireC) (k d : Int) (w : World) (hG : G w) (hz : wchk 0 1 k d ≠ 0) :
    Calls Tryd.prog 3 #[.int .i64 k, .int .i64 d] w fun e w' => e = .returned (.bool true) ∧ Below w.heap.size w w' := by
  have c0 := PtC.first w k d
  have d0 := PtD.first w k d
  have hs0 := c0.size
  have q1 := C.chk (ptP 0 1 k d) _ _ _ _ (C.all w _ hG c0.below) (pt_pln (f := 0) (t := 1) (k := k) (d := d) (by omega) (by omega) (by omega) (b := w.heap.size + 1 + 1 + 1 + 1) (by omega) c0.o1 c0.o2 c0.c (by simp [ptW, go_sem]))
  rw [wErr_not (pt_bad hz)] at q1
  have hw2 := fun W => hw 0 1 k d W
  rw [wErr_not hz] at hw2
  have q1' : Calls Tryd.prog 4 #[.agg #[.slice (some ⟨w.heap.size + 1 + 1 + 1, 0, none⟩) 2 2, .int .i64 1, .slice none 0 0, .slice (some ⟨w.heap.size + 1 + 1 + 1 + 1, 0, none⟩) 1 1]] (ptW w k d) _ := q1
  clear q1 hG C hw hz
  go_enter Tryd.func3, Tryd.ntmps3
  go_wp2_with (first
    | (go_at_call 4; refine q1'.mono ?_; rintro e w1 ⟨rfl, b1⟩; clear q1'; have c1 := c0.step b1; have d1 := d0.step hs0 b1; obtain ⟨x0, x1, x2, x3⟩ := d1.x; have q2 := hw2 w1; clear b1 c0 d0)
    | (go_at_call 5; refine q2.mono ?_; rintro e w2 ⟨rfl, b2⟩; clear q2 hw2; have c2 := c1.step b2; clear b2))
  go_ret
  exact ⟨rfl, c2.below⟩
set_option maxRecDepth 1000000 in
set_option maxHeartbeats 8000000 in
theorem pports_good {G : World → Prop} (C : PlanC0 G) (hw : WireC) (k d : Int) (w : World) (hG : G w) (hz : wchk 0 1 k d = 0) :
    Calls Tryd.prog 3 #[.int .i64 k, .int .i64 d] w fun e w' => e = .returned (.bool true) ∧ Below w.heap.size w w' := by
  have c0 := PtC.first w k d
  have d0 := PtD.first w k d
  have hs0 := c0.size
  have q1 := C.chk (ptP 0 1 k d) _ _ _ _ (C.all w _ hG c0.below) (pt_pln (f := 0) (t := 1) (k := k) (d := d) (by omega) (by omega) (by omega) (b := w.heap.size + 1 + 1 + 1 + 1) (by omega) c0.o1 c0.o2 c0.c (by simp [ptW, go_sem]))
  rw [pt_not hz, wErr_not (by decide)] at q1
  have hw2 := fun W => hw 0 1 k d W
  rw [hz, show wErr 0 = .nilIface from rfl] at hw2
  have q1' : Calls Tryd.prog 4 #[.agg #[.slice (some ⟨w.heap.size + 1 + 1 + 1, 0, none⟩) 2 2, .int .i64 1, .slice none 0 0, .slice (some ⟨w.heap.size + 1 + 1 + 1 + 1, 0, none⟩) 1 1]] (ptW w k d) _ := q1
  have HC : Hid (PlanC0 G) := C
  have HG : Hid (∀ W, Below w.heap.size w W → G W) := fun W hb => C.all w W hG hb
  have HK : Hid (∀ W b, PtC w W → PtE w W b k d → Calls Tryd.prog 4 #[.agg #[.slice (some ⟨w.heap.size + 1 + 1 + 1, 0, none⟩) 2 2, .int .i64 1, .slice none 0 0, .slice (some ⟨b, 0, none⟩) 1 1]] W fun e w' => e = .returned .nilIface ∧ Below W.heap.size W w') := fun W b hc he => by
    have hs := hc.size
    have := C.chk (ptP 1 0 k d) _ _ _ _ (C.all w _ hG hc.below) (pt_pln (f := 1) (t := 0) (k := k) (d := d) (by omega) (by omega) (by omega) he.lt hc.o1 hc.o2 hc.c he.x)
    rw [pt_own hz] at this
    exact this
  clear q1 hG C hw hz
  go_enter Tryd.func3, Tryd.ntmps3
  go_wp2_with (first
    | (go_at_call 4; refine q1'.mono ?_; rintro e w1 ⟨rfl, b1⟩; clear q1'; have c1 := c0.step b1; have d1 := d0.step hs0 b1; obtain ⟨x0, x1, x2, x3⟩ := d1.x; have q2 := hw2 w1; clear b1 c0 d0)
    | (go_at_call 5; refine q2.mono ?_; rintro e w2 ⟨rfl, b2⟩; clear q2 hw2 x0 x1 x2 x3; have c2 := c1.step b2; have d2 := d1.step c1.size b2; obtain ⟨x0, x1, x2, x3⟩ := d2.x; obtain ⟨f0, f1, f2⟩ := d2.f; have v2 := d2.v; have hs2 := c2.size; obtain ⟨g0, g1⟩ := d2.ready c2; have c3 : PtC w (ptL w w2 k d) := c2.turned; have e3 := d2.turned c2; have q3 := HC.out.err 3 (ptL w w2 k d) (HG.out _ c3.below); rw [wErr_not (by decide)] at q3; clear b2 c1 d1)
    | (go_at_call 6; refine q3.mono ?_; rintro e w4 ⟨rfl, b4⟩; clear q3; have c4 := c3.step b4; have e4 := e3.step c3.size b4; obtain ⟨p0, p1, p2⟩ := c4.p; have p3 := e4.v; have q4 := HK.out w4 _ c4 e4; clear b4)
    | (go_at_call 4; refine q4.mono ?_; rintro e w5 ⟨rfl, b5⟩; clear q4; have c5 := c4.step b5; clear b5))
  go_ret
  exact ⟨rfl, c5.below⟩
/-- PlanPorts answers yes, under what package plan, and wire.Check, do. -/
theorem pports_of {G : World → Prop} (C : PlanC0 G) (hw : WireC) (k d : Int) (w : World) (hG : G w) :
    Calls Tryd.prog 3 #[.int .i64 k, .int .i64 d] w fun e w' => e = .returned (.bool true) ∧ Below w.heap.size w w' := by
  by_cases hz : wchk 0 1 k d = 0
  · exact pports_good C hw k d w hG hz
  · exact pports_bad C hw k d w hG hz
end Go.Proofs.YtamnfadngbbaeadDoor

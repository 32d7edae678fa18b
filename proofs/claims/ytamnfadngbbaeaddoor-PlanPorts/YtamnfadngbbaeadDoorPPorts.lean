/-
  The law PlanPorts: the walk, under what package plan, and wire.Check, do.
-/
import Derived.Test.YtamnfadngbbaeadDoorPlanC0
import Derived.Test.YtamnfadngbbaeadDoorPPortsM
namespace Go.Proofs.YtamnfadngbbaeadDoor
open Go.RowKit

/-- The plan of the law can be read. -/
theorem pt_pln {W : World} {a1 a2 a3 b : Nat} {f t k d : Int} (l1 : a1 < W.heap.size) (l2 : a2 < W.heap.size) (l3 : a3 < W.heap.size) (lb : b < W.heap.size)
    (h1 : W.cell? ⟨a1, 0, none⟩ = some (.int .i64 10) ∧ W.cell? ⟨a1, 1, none⟩ = some (.int .i64 0) ∧ W.cell? ⟨a1, 2, none⟩ = some (.int .i64 0))
    (h2 : W.cell? ⟨a2, 0, none⟩ = some (.int .i64 8) ∧ W.cell? ⟨a2, 1, none⟩ = some (.int .i64 0) ∧ W.cell? ⟨a2, 2, none⟩ = some (.int .i64 0))
    (h3 : W.cell? ⟨a3, 0, none⟩ = some (.slice (some ⟨a1, 0, none⟩) 1 1) ∧ W.cell? ⟨a3, 1, none⟩ = some (.slice (some ⟨a2, 0, none⟩) 1 1))
    (h4 : W.cell? ⟨b, 0, none⟩ = some (.int .i64 f) ∧ W.cell? ⟨b, 1, none⟩ = some (.int .i64 t) ∧ W.cell? ⟨b, 2, none⟩ = some (.int .i64 k) ∧ W.cell? ⟨b, 3, none⟩ = some (.int .i64 d)) :
    Pln W (.slice (some ⟨a3, 0, none⟩) 2 2) (.slice none 0 0) (.slice (some ⟨b, 0, none⟩) 1 1) (ptP f t k d) := by
  refine ⟨Or.inr ⟨a3, 0, 2, rfl, Nat.le_refl _, l3, fun i c hc => ?_⟩, Or.inl ⟨rfl, _, _, rfl⟩, Or.inr ⟨b, 0, 1, rfl, Nat.le_refl _, lb, fun i o ho => ?_⟩⟩
  · match i with
    | 0 =>
      obtain rfl : [((10 : Int), (0 : Int), (0 : Int))] = c := Option.some.inj hc
      refine ⟨_, h3.1, Or.inr ⟨a1, 0, 1, rfl, l1, fun j o ho => ?_⟩⟩
      match j with
      | 0 => obtain rfl : ((10 : Int), (0 : Int), (0 : Int)) = o := Option.some.inj ho; exact h1
      | j + 1 => simp at ho
    | 1 =>
      obtain rfl : [((8 : Int), (0 : Int), (0 : Int))] = c := Option.some.inj hc
      refine ⟨_, h3.2, Or.inr ⟨a2, 0, 1, rfl, l2, fun j o ho => ?_⟩⟩
      match j with
      | 0 => obtain rfl : ((8 : Int), (0 : Int), (0 : Int)) = o := Option.some.inj ho; exact h2
      | j + 1 => simp at ho
    | i + 2 => simp [ptP] at hc
  · match i with
    | 0 => obtain rfl : (f, t, k, d) = o := Option.some.inj ho; exact h4
    | i + 1 => simp [ptP] at ho
/-- The world when the plan was made. -/
abbrev ptW (w : World) (k d : Int) : World := ((((((w.alloc (.cells #[.int .i64 0, .int .i64 1, .int .i64 k, .int .i64 d] 23)).alloc (.cells #[.int .i64 10, .int .i64 0, .int .i64 0] 25)).alloc (.cells #[.int .i64 8, .int .i64 0, .int .i64 0] 25)).alloc (.cells #[.slice (some ⟨w.heap.size + 1, 0, none⟩) 1 1, .slice (some ⟨w.heap.size + 1 + 1, 0, none⟩) 1 1] 26)).alloc (.cells #[.int .i64 0, .int .i64 1, .int .i64 k, .int .i64 d] 23)).alloc (.cells #[.slice (some ⟨w.heap.size + 1 + 1 + 1, 0, none⟩) 2 2, .int .i64 1, .slice none 0 0, .slice (some ⟨w.heap.size + 1 + 1 + 1 + 1, 0, none⟩) 1 1] 31))
/-- What lies there from then on, the wire and the plan's box aside. -/
structure PtC (w W : World) : Prop where
  size : w.heap.size + 6 ≤ W.heap.size
  below : Below w.heap.size w W
  o1 : W.cell? ⟨w.heap.size + 1, 0, none⟩ = some (.int .i64 10) ∧ W.cell? ⟨w.heap.size + 1, 1, none⟩ = some (.int .i64 0) ∧ W.cell? ⟨w.heap.size + 1, 2, none⟩ = some (.int .i64 0)
  o2 : W.cell? ⟨w.heap.size + 1 + 1, 0, none⟩ = some (.int .i64 8) ∧ W.cell? ⟨w.heap.size + 1 + 1, 1, none⟩ = some (.int .i64 0) ∧ W.cell? ⟨w.heap.size + 1 + 1, 2, none⟩ = some (.int .i64 0)
  c : W.cell? ⟨w.heap.size + 1 + 1 + 1, 0, none⟩ = some (.slice (some ⟨w.heap.size + 1, 0, none⟩) 1 1) ∧ W.cell? ⟨w.heap.size + 1 + 1 + 1, 1, none⟩ = some (.slice (some ⟨w.heap.size + 1 + 1, 0, none⟩) 1 1)
  p : W.cell? ⟨w.heap.size + 1 + 1 + 1 + 1 + 1, 0, none⟩ = some (.slice (some ⟨w.heap.size + 1 + 1 + 1, 0, none⟩) 2 2) ∧ W.cell? ⟨w.heap.size + 1 + 1 + 1 + 1 + 1, 1, none⟩ = some (.int .i64 1) ∧ W.cell? ⟨w.heap.size + 1 + 1 + 1 + 1 + 1, 2, none⟩ = some (.slice none 0 0)
/-- The wire, and what the plan's box holds of wires, as they were made. -/
structure PtD (w W : World) (k d : Int) : Prop where
  x : W.cell? ⟨w.heap.size, 0, none⟩ = some (.int .i64 0) ∧ W.cell? ⟨w.heap.size, 1, none⟩ = some (.int .i64 1) ∧ W.cell? ⟨w.heap.size, 2, none⟩ = some (.int .i64 k) ∧ W.cell? ⟨w.heap.size, 3, none⟩ = some (.int .i64 d)
  f : W.frozen? ⟨w.heap.size, 0, none⟩ = false ∧ W.frozen? ⟨w.heap.size, 1, none⟩ = false ∧ W.frozen? ⟨w.heap.size + 1 + 1 + 1 + 1 + 1, 3, none⟩ = false
  v : W.cell? ⟨w.heap.size + 1 + 1 + 1 + 1 + 1, 3, none⟩ = some (.slice (some ⟨w.heap.size + 1 + 1 + 1 + 1, 0, none⟩) 1 1)
theorem PtC.step {w W W' : World} (h : PtC w W) (hb : Below W.heap.size W W') : PtC w W' := by
  have hs := h.size
  have q : ∀ b o, b < w.heap.size + 6 → W'.cell? ⟨b, o, none⟩ = W.cell? ⟨b, o, none⟩ := fun b o hlt => hb.cell (p := ⟨b, o, none⟩) (show b < W.heap.size by omega)
  refine ⟨Nat.le_trans hs hb.size, h.below.trans (hb.mono (by omega)), ?_, ?_, ?_, ?_⟩
  · rw [q _ _ (by omega), q _ _ (by omega), q _ _ (by omega)]; exact h.o1
  · rw [q _ _ (by omega), q _ _ (by omega), q _ _ (by omega)]; exact h.o2
  · rw [q _ _ (by omega), q _ _ (by omega)]; exact h.c
  · rw [q _ _ (by omega), q _ _ (by omega), q _ _ (by omega)]; exact h.p
theorem PtD.step {w W W' : World} {k d : Int} (h : PtD w W k d) (hs : w.heap.size + 6 ≤ W.heap.size) (hb : Below W.heap.size W W') : PtD w W' k d := by
  have q : ∀ b o, b < w.heap.size + 6 → W'.cell? ⟨b, o, none⟩ = W.cell? ⟨b, o, none⟩ := fun b o hlt => hb.cell (p := ⟨b, o, none⟩) (show b < W.heap.size by omega)
  have q' : ∀ b o, b < w.heap.size + 6 → W'.frozen? ⟨b, o, none⟩ = W.frozen? ⟨b, o, none⟩ := fun b o hlt => hb.frozen (p := ⟨b, o, none⟩) (show b < W.heap.size by omega)
  refine ⟨?_, ?_, ?_⟩
  · rw [q _ _ (by omega), q _ _ (by omega), q _ _ (by omega), q _ _ (by omega)]; exact h.x
  · rw [q' _ _ (by omega), q' _ _ (by omega), q' _ _ (by omega)]; exact h.f
  · rw [q _ _ (by omega)]; exact h.v
theorem PtC.first (w : World) (k d : Int) : PtC w (ptW w k d) := by
  refine ⟨by simp [ptW], ?_, ?_, ?_, ?_, ?_⟩
  · exact ((((((Below.refl _ _).alloc (Nat.le_refl _) _).alloc (by simp) _).alloc (by simp; omega) _).alloc (by simp; omega) _).alloc (by simp; omega) _).alloc (by simp; omega) _
  all_goals simp [ptW, go_sem]
theorem PtD.first (w : World) (k d : Int) : PtD w (ptW w k d) k d := by
  refine ⟨?_, ?_, ?_⟩
  all_goals simp [ptW, go_sem]
/-- The world when the plan was turned round. -/
abbrev ptL (w w2 : World) (k d : Int) : World := (((w2.setCell ⟨w.heap.size, 0, none⟩ (.int .i64 1)).setCell ⟨w.heap.size, 1, none⟩ (.int .i64 0)).alloc (.cells #[.int .i64 1, .int .i64 0, .int .i64 k, .int .i64 d] 23)).setCell ⟨w.heap.size + 1 + 1 + 1 + 1 + 1, 3, none⟩ (.slice (some ⟨w2.heap.size, 0, none⟩) 1 1)
structure PtE (w W : World) (b : Nat) (k d : Int) : Prop where
  lt : b < W.heap.size
  v : W.cell? ⟨w.heap.size + 1 + 1 + 1 + 1 + 1, 3, none⟩ = some (.slice (some ⟨b, 0, none⟩) 1 1)
  x : W.cell? ⟨b, 0, none⟩ = some (.int .i64 1) ∧ W.cell? ⟨b, 1, none⟩ = some (.int .i64 0) ∧ W.cell? ⟨b, 2, none⟩ = some (.int .i64 k) ∧ W.cell? ⟨b, 3, none⟩ = some (.int .i64 d)
theorem PtE.step {w W W' : World} {b : Nat} {k d : Int} (h : PtE w W b k d) (hs : w.heap.size + 6 ≤ W.heap.size) (hb : Below W.heap.size W W') : PtE w W' b k d := by
  have q : ∀ c o, c < W.heap.size → W'.cell? ⟨c, o, none⟩ = W.cell? ⟨c, o, none⟩ := fun c o hlt => hb.cell (p := ⟨c, o, none⟩) hlt
  have hl := h.lt
  refine ⟨Nat.lt_of_lt_of_le hl hb.size, ?_, ?_⟩
  · rw [q _ _ (by omega)]; exact h.v
  · rw [q _ _ hl, q _ _ hl, q _ _ hl, q _ _ hl]; exact h.x
theorem pt_far {w w2 : World} {k d : Int} {c o : Nat} (h1 : c ≠ w.heap.size) (h2 : c ≠ w.heap.size + 1 + 1 + 1 + 1 + 1 ∨ o ≠ 3) (h3 : c < w2.heap.size) : (ptL w w2 k d).cell? ⟨c, o, none⟩ = w2.cell? ⟨c, o, none⟩ := by
  unfold ptL
  rw [World.cell?_setCell_other (h := fun e => by injection e with e1 e2; omega), World.cell?_alloc_lt (h := by simpa using h3), World.cell?_setCell_other (h := fun e => by injection e with e1 e2; omega), World.cell?_setCell_other (h := fun e => by injection e with e1 e2; omega)]
theorem PtC.turned {w w2 : World} {k d : Int} (h : PtC w w2) : PtC w (ptL w w2 k d) := by
  have hs := h.size
  refine ⟨by simp [ptL]; omega, ?_, ?_, ?_, ?_, ?_⟩
  · exact (((h.below.setCell (p := ⟨w.heap.size, 0, none⟩) (Nat.le_refl _) _).setCell (p := ⟨w.heap.size, 1, none⟩) (Nat.le_refl _) _).alloc (by simp; omega) _).setCell (p := ⟨w.heap.size + 1 + 1 + 1 + 1 + 1, 3, none⟩) (show w.heap.size ≤ w.heap.size + 1 + 1 + 1 + 1 + 1 by omega) _
  · rw [pt_far (by omega) (by omega) (by omega), pt_far (by omega) (by omega) (by omega), pt_far (by omega) (by omega) (by omega)]; exact h.o1
  · rw [pt_far (by omega) (by omega) (by omega), pt_far (by omega) (by omega) (by omega), pt_far (by omega) (by omega) (by omega)]; exact h.o2
  · rw [pt_far (by omega) (by omega) (by omega), pt_far (by omega) (by omega) (by omega)]; exact h.c
  · rw [pt_far (by omega) (by omega) (by omega), pt_far (by omega) (by omega) (by omega), pt_far (by omega) (by omega) (by omega)]; exact h.p
theorem PtD.turned {w w2 : World} {k d : Int} (hc : PtC w w2) (h : PtD w w2 k d) : PtE w (ptL w w2 k d) w2.heap.size k d := by
  have hs := hc.size
  have hv := h.v
  refine ⟨by simp [ptL], ?_, ?_⟩
  · unfold ptL
    have e : ((((w2.setCell ⟨w.heap.size, 0, none⟩ (.int .i64 1)).setCell ⟨w.heap.size, 1, none⟩ (.int .i64 0)).alloc (.cells #[.int .i64 1, .int .i64 0, .int .i64 k, .int .i64 d] 23))).cell? ⟨w.heap.size + 1 + 1 + 1 + 1 + 1, 3, none⟩ = w2.cell? ⟨w.heap.size + 1 + 1 + 1 + 1 + 1, 3, none⟩ := by
      rw [World.cell?_alloc_lt (h := by simp; omega), World.cell?_setCell_other (h := fun e => by injection e with e1 e2; omega), World.cell?_setCell_other (h := fun e => by injection e with e1 e2; omega)]
    exact World.cell?_setCell_same _ _ _ (e.trans hv)
  · have n : ∀ o : Nat, ((⟨w.heap.size + 1 + 1 + 1 + 1 + 1, 3, none⟩ : Addr) ≠ ⟨w2.heap.size, o, none⟩) := fun o e => by injection e with e1 e2; omega
    unfold ptL
    rw [World.cell?_setCell_other (h := n 0), World.cell?_setCell_other (h := n 1), World.cell?_setCell_other (h := n 2), World.cell?_setCell_other (h := n 3)]
    simp [go_sem]
theorem PtD.ready {w w2 : World} {k d : Int} (hc : PtC w w2) (h : PtD w w2 k d) :
    (((w2.setCell ⟨w.heap.size, 0, none⟩ (.int .i64 1)).setCell ⟨w.heap.size, 1, none⟩ (.int .i64 0)).alloc (.cells #[.int .i64 1, .int .i64 0, .int .i64 k, .int .i64 d] 23)).frozen? ⟨w.heap.size + 1 + 1 + 1 + 1 + 1, 3, none⟩ = false ∧
    (((w2.setCell ⟨w.heap.size, 0, none⟩ (.int .i64 1)).setCell ⟨w.heap.size, 1, none⟩ (.int .i64 0)).alloc (.cells #[.int .i64 1, .int .i64 0, .int .i64 k, .int .i64 d] 23)).cell? ⟨w.heap.size + 1 + 1 + 1 + 1 + 1, 3, none⟩ = some (.slice (some ⟨w.heap.size + 1 + 1 + 1 + 1, 0, none⟩) 1 1) := by
  have hs := hc.size
  have hf := h.f.2.2
  constructor
  · have := ((Below.refl (w2.heap.size) ((w2.setCell ⟨w.heap.size, 0, none⟩ (.int .i64 1)).setCell ⟨w.heap.size, 1, none⟩ (.int .i64 0))).alloc (by simp) (.cells #[.int .i64 1, .int .i64 0, .int .i64 k, .int .i64 d] 23)).frozen (p := ⟨w.heap.size + 1 + 1 + 1 + 1 + 1, 3, none⟩) (show w.heap.size + 1 + 1 + 1 + 1 + 1 < w2.heap.size by omega)
    rw [this]
    simp [go_sem, hf]
  · rw [World.cell?_alloc_lt (h := by simp; omega), World.cell?_setCell_other (h := fun e => by injection e with e1 e2; omega), World.cell?_setCell_other (h := fun e => by injection e with e1 e2; omega)]
    exact h.v
end Go.Proofs.YtamnfadngbbaeadDoor

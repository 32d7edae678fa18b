/-
  Arguments read as data: wires.
-/
import Derived.Test.YtbnliibgnnegeagDoorFlowBase
import Derived.Test.YtbnliibgnnegeagDoorWOpen
namespace Go.Proofs.YtbnliibgnnegeagDoor
open Go.ChangeShapes Go.WideShapes Go.ChangeAt Go.WideElems Go.RowKit Go.Deep

theorem cWire : Tryd.prog.cellsOf 47 = 4 := by kernel_rfl
theorem cOne : Tryd.prog.cellsOf 3 = 1 := by kernel_rfl
set_option maxRecDepth 100000 in
theorem wr_cells {H : Type} {enc : TypeId × Value → H} {W : World} {base : Nat} {sp : Nat → Bool} {held : Bool} {fuel : Nat} {cs : List Value} {x : DataW H × List MemPlace}
    (h : DataW.trod enc Tryd.prog W base sp held fuel 47 cs = some x) : ∃ o : W4, cs = [.int .i64 o.1, .int .i64 o.2.1, .int .i64 o.2.2.1, .int .i64 o.2.2.2] := by
  obtain ⟨y0, y1, y2, y3, n, _, hl, h0, h1, h2, h3⟩ := Joins.trod_struct4 Tryd.underlying47 h
  rw [cWire] at hl
  match cs, hl with
  | [c0, c1, c2, c3], _ =>
    simp only [cOne] at h0 h1 h2 h3
    simp at h0 h1 h2 h3
    obtain ⟨n, e0, _, _⟩ := DataW.trod_int Tryd.underlying3 h0
    obtain ⟨a, e1, _, _⟩ := DataW.trod_int Tryd.underlying3 h1
    obtain ⟨b, e2, _, _⟩ := DataW.trod_int Tryd.underlying3 h2
    obtain ⟨c, e3, _, _⟩ := DataW.trod_int Tryd.underlying3 h3
    simp only [List.cons.injEq, and_true] at e0 e1 e2 e3
    subst e0; subst e1; subst e2; subst e3
    exact ⟨(n, a, b, c), rfl⟩
theorem pick_lt {α : Type} [Inhabited α] {p : Nat → α → Prop} {n : Nat} (h : ∀ i, i < n → ∃ x, p i x) : ∃ f : Nat → α, ∀ i, i < n → p i (f i) := by
  refine ⟨fun i => if hi : i < n then (h i hi).choose else default, fun i hi => ?_⟩
  simp only [hi, dif_pos]
  exact (h i hi).choose_spec
set_option maxRecDepth 100000 in
theorem open_wrs {H : Type} {enc : TypeId × Value → H} {W : World} {b0 : Nat} {r : Reach} {v : Value} {d : DataW H} {p : List MemPlace} (hv : Value.okWide Tryd.prog W r b0 22 v)
    (h : DataW.Trod enc Tryd.prog W 0 (fun _ => true) true 22 v d p) : ∃ l : List W4, Wrs W v l := by
  obtain ⟨a0, len0, cap0, rfl⟩ := okWide_slice Tryd.underlying22 hv
  obtain ⟨fuel, hf⟩ := h
  rcases open_slice Tryd.underlying22 hf with ⟨hcs, _⟩ | ⟨a, len, cap, m, n, D, Pl, hcs, _, hl, _, hm, hx, hel⟩
  · simp [Value.cells] at hcs
    obtain ⟨rfl, rfl, rfl⟩ := hcs
    exact ⟨[], Or.inl ⟨rfl, _, _, rfl⟩⟩
  · simp [Value.cells] at hcs
    obtain ⟨rfl, rfl, rfl⟩ := hcs
    have hlm : len0 ≤ m := by rw [hm]; simpa using hl
    have each : ∀ i, i < len0 → ∃ o : W4, W.cell? (a.add (i * 4)) = some (.int .i64 o.1) ∧ W.cell? ((a.add (i * 4)).add 1) = some (.int .i64 o.2.1) ∧ W.cell? ((a.add (i * 4)).add 2) = some (.int .i64 o.2.2.1) ∧ W.cell? ((a.add (i * 4)).add 3) = some (.int .i64 o.2.2.2) := fun i hi => by
      obtain ⟨cs', h1, h2⟩ := hel i (by omega)
      rw [cWire] at h1
      obtain ⟨o, rfl⟩ := wr_cells h2
      obtain ⟨_, _, hc⟩ := World.cells?_some h1
      exact ⟨o, by simpa [Addr.add] using hc 0 (by omega), hc 1 (by omega), hc 2 (by omega), hc 3 (by omega)⟩
    by_cases h0 : len0 = 0
    · subst h0
      exact ⟨[], Or.inl ⟨rfl, _, _, rfl⟩⟩
    · obtain ⟨f, hfo⟩ := pick_lt (α := W4) (p := fun i o => W.cell? (a.add (i * 4)) = some (.int .i64 o.1) ∧ W.cell? ((a.add (i * 4)).add 1) = some (.int .i64 o.2.1) ∧ W.cell? ((a.add (i * 4)).add 2) = some (.int .i64 o.2.2.1) ∧ W.cell? ((a.add (i * 4)).add 3) = some (.int .i64 o.2.2.2)) each
      have hz := (hfo 0 (by omega)).1
      rw [show a.add (0 * 4) = a from by simp [Addr.add]] at hz
      obtain ⟨ha, hlt⟩ := spot_none hz
      refine ⟨(List.range len0).map f, Or.inr ⟨a.block, a.off, cap0, by rw [List.length_map, List.length_range, ← ha], by simpa using hl, hlt, fun i o ho => ?_⟩⟩
      have hi : i < len0 := by
        have := (List.getElem?_eq_some_iff.1 ho).1
        simpa using this
      have hoi : f i = o := by simpa [hi] using ho
      obtain ⟨h1, h2, h3, h4⟩ := hfo i hi
      rw [hoi] at h1 h2 h3 h4
      rw [ha] at h1 h2 h3 h4
      simp only [Addr.add_lit] at h1 h2 h3 h4
      exact ⟨h1, h2, h3, h4⟩
end Go.Proofs.YtbnliibgnnegeagDoor

/-
  Spans that came in, loose of package code.
-/
import Derived.Test.YtheenonakbokpagDoorLaw
import Derived.Test.YtheenonakbokpagDoorFBase
import Derived.Lib.SmallJoins
import Derived.Deep.Slices
import Derived.Deep.Strs
namespace Go.Proofs.YtheenonakbokpagDoor
open Go.ChangeShapes Go.WideShapes Go.ChangeAt Go.WideElems Go.RowKit Go.Deep

theorem spcInt : Tryd.prog.cellsOf 3 = 1 := by kernel_rfl
theorem sp_spot {W : World} {a : Addr} {v : Value} (h : W.cell? a = some v) : a = ⟨a.block, a.off, none⟩ ∧ a.block < W.heap.size := by
  obtain ⟨b, o, s⟩ := a
  unfold World.cell? at h
  simp only at h
  cases hb : W.heap[b]? with
  | none => rw [hb] at h; cases h
  | some x =>
    rw [hb] at h
    refine ⟨?_, (Array.getElem?_eq_some_iff.1 hb).1⟩
    cases x <;> simp at h
    cases s with
    | none => rfl
    | some s => simp at h
theorem spcSp : Tryd.prog.cellsOf 64 = 3 := by kernel_rfl
set_option maxRecDepth 100000 in
theorem spn_cells {H : Type} {enc : TypeId × Value → H} {W : World} {base : Nat} {sp : Nat → Bool} {held : Bool} {fuel : Nat} {cs : List Value} {x : DataW H × List MemPlace}
    (h : DataW.trod enc Tryd.prog W base sp held fuel 64 cs = some x) : ∃ o : S3, cs = [.int .i64 o.1, .int .i64 o.2.1, .int .i64 o.2.2] := by
  obtain ⟨y0, y1, y2, n, _, hl, h0, h1, h2⟩ := trod_struct3 Tryd.underlying64 h
  rw [spcSp] at hl
  match cs, hl with
  | [c0, c1, c2], _ =>
    simp only [spcInt] at h0 h1 h2
    simp at h0 h1 h2
    obtain ⟨n, e0, _, _⟩ := DataW.trod_int Tryd.underlying3 h0
    obtain ⟨a, e1, _, _⟩ := DataW.trod_int Tryd.underlying3 h1
    obtain ⟨b, e2, _, _⟩ := DataW.trod_int Tryd.underlying3 h2
    simp only [List.cons.injEq, and_true] at e0 e1 e2
    subst e0; subst e1; subst e2
    exact ⟨(n, a, b), rfl⟩
set_option maxRecDepth 100000 in
theorem open_spans {H : Type} {enc : TypeId × Value → H} {W : World} {b0 : Nat} {r : Reach} {v : Value} {d : DataW H} {p : List MemPlace} (hv : Value.okWide Tryd.prog W r b0 45 v)
    (h : DataW.Trod enc Tryd.prog W 0 (fun _ => true) true 45 v d p) : ∃ l : List S3, Sps W v l := by
  obtain ⟨a0, len0, cap0, rfl⟩ := okWide_slice Tryd.underlying45 hv
  obtain ⟨fuel, hf⟩ := h
  rcases open_slice Tryd.underlying45 hf with ⟨hcs, _⟩ | ⟨a, len, cap, m, n, D, Pl, hcs, _, hl, _, hm, hx, hel⟩
  · simp [Value.cells] at hcs
    obtain ⟨rfl, rfl, rfl⟩ := hcs
    exact ⟨[], Or.inl ⟨rfl, _, _, rfl⟩⟩
  · simp [Value.cells] at hcs
    obtain ⟨rfl, rfl, rfl⟩ := hcs
    have hlm : len0 ≤ m := by rw [hm]; simpa using hl
    have each : ∀ i, i < len0 → ∃ o : S3, W.cell? (a.add (i * 3)) = some (.int .i64 o.1) ∧ W.cell? ((a.add (i * 3)).add 1) = some (.int .i64 o.2.1) ∧ W.cell? ((a.add (i * 3)).add 2) = some (.int .i64 o.2.2) := fun i hi => by
      obtain ⟨cs', h1, h2⟩ := hel i (by omega)
      rw [spcSp] at h1
      obtain ⟨o, rfl⟩ := spn_cells h2
      obtain ⟨_, _, hc⟩ := World.cells?_some h1
      exact ⟨o, by simpa [Addr.add] using hc 0 (by omega), hc 1 (by omega), hc 2 (by omega)⟩
    by_cases h0 : len0 = 0
    · subst h0
      exact ⟨[], Or.inl ⟨rfl, _, _, rfl⟩⟩
    · obtain ⟨f, hfo⟩ := choose_lt (α := S3) (p := fun i o => W.cell? (a.add (i * 3)) = some (.int .i64 o.1) ∧ W.cell? ((a.add (i * 3)).add 1) = some (.int .i64 o.2.1) ∧ W.cell? ((a.add (i * 3)).add 2) = some (.int .i64 o.2.2)) each
      have hz := (hfo 0 (by omega)).1
      rw [show a.add (0 * 3) = a from by simp [Addr.add]] at hz
      obtain ⟨ha, hlt⟩ := sp_spot hz
      refine ⟨(List.range len0).map f, Or.inr ⟨a.block, a.off, cap0, by rw [List.length_map, List.length_range, ← ha], by simpa using hl, hlt, fun i o ho => ?_⟩⟩
      have hi : i < len0 := by
        have := (List.getElem?_eq_some_iff.1 ho).1
        simpa using this
      have hoi : f i = o := by simpa [hi] using ho
      obtain ⟨h1, h2, h3⟩ := hfo i hi
      rw [hoi] at h1 h2 h3
      rw [add_add] at h2 h3
      have hadd : ∀ j, a.add j = ⟨a.block, a.off + j, none⟩ := fun j => by
        unfold Addr.add
        split
        · rename_i h; subst h; rw [Nat.add_zero]; exact ha
        · rfl
      rw [hadd] at h1 h2 h3
      exact ⟨h1, by rw [Nat.add_assoc]; exact h2, by rw [Nat.add_assoc]; exact h3⟩
end Go.Proofs.YtheenonakbokpagDoor

/-
  An argument read as data: a state.
-/
import Derived.Test.YthbcbdedmillaaaDoorOpen
import Derived.Test.YthbcbdedmillaaaDoorRoomBase
namespace Go.Proofs.YthbcbdedmillaaaDoor
open Go.ChangeShapes Go.WideShapes Go.ChangeAt Go.WideElems Go.RowKit Go.Deep

theorem cSix : Tryd.prog.cellsOf 38 = 6 := by kernel_rfl
theorem cSt : Tryd.prog.cellsOf 40 = 8 := by kernel_rfl
theorem cBool : Tryd.prog.cellsOf 4 = 1 := by kernel_rfl
theorem len6 {α : Type} {l : List α} (h : l.length = 6) : ∃ a b c d e f, l = [a, b, c, d, e, f] := by
  match l, h with
  | [a, b, c, d, e, f], _ => exact ⟨a, b, c, d, e, f, rfl⟩
theorem len8 {α : Type} {l : List α} (h : l.length = 8) : ∃ p a b c d e f g, l = [p, a, b, c, d, e, f, g] := by
  match l, h with
  | [p, a, b, c, d, e, f, g], _ => exact ⟨p, a, b, c, d, e, f, g, rfl⟩
set_option maxRecDepth 100000 in
theorem six_cells {H : Type} {enc : TypeId × Value → H} {W : World} {base : Nat} {sp : Nat → Bool} {held : Bool} {fuel : Nat} {cs : List Value} {x : DataW H × List MemPlace}
    (h : DataW.trod enc Tryd.prog W base sp held fuel 38 cs = some x) (hl : cs.length = 6) : ∃ c : Nat → Int, cs = [.int .i64 (c 0), .int .i64 (c 1), .int .i64 (c 2), .int .i64 (c 3), .int .i64 (c 4), .int .i64 (c 5)] := by
  obtain ⟨xs, m, _, _, _, hxl, hel⟩ := DataW.trod_array Tryd.underlying38 h
  obtain ⟨v0, v1, v2, v3, v4, v5, rfl⟩ := len6 hl
  have each : ∀ (i : Nat) (v : Value), i < 6 → ([v0, v1, v2, v3, v4, v5].drop (i * 1)).take 1 = [v] → ∃ n : Int, v = .int .i64 n := fun i v hi hv => by
    have e := hel i hi
    rw [cInt1, hv] at e
    have hlt : i < xs.length := by rw [hxl]; exact hi
    rw [List.getElem?_eq_getElem hlt] at e
    obtain ⟨n, e0, _, _⟩ := DataW.trod_int Tryd.underlying3 e
    simp only [List.cons.injEq, and_true] at e0
    exact ⟨n, e0⟩
  obtain ⟨n0, rfl⟩ := each 0 v0 (by omega) rfl
  obtain ⟨n1, rfl⟩ := each 1 v1 (by omega) rfl
  obtain ⟨n2, rfl⟩ := each 2 v2 (by omega) rfl
  obtain ⟨n3, rfl⟩ := each 3 v3 (by omega) rfl
  obtain ⟨n4, rfl⟩ := each 4 v4 (by omega) rfl
  obtain ⟨n5, rfl⟩ := each 5 v5 (by omega) rfl
  exact ⟨fun i => [n0, n1, n2, n3, n4, n5].getD i 0, rfl⟩
set_option maxRecDepth 100000 in
theorem open_st {H : Type} {enc : TypeId × Value → H} {W : World} {base b0 : Nat} {sp : Nat → Bool} {held : Bool} {r : Reach} {v : Value} {d : DataW H} {p : List MemPlace} (hv : Value.okWide Tryd.prog W r b0 40 v)
    (h : DataW.Trod enc Tryd.prog W base sp held 40 v d p) : ∃ s : St, v = stV s := by
  obtain ⟨cs, rfl, hsz⟩ := okWide_struct Tryd.underlying40 hv
  obtain ⟨fuel, hf⟩ := h
  obtain ⟨xs, n, _, _, hl, hxl, hfl⟩ := DataW.trod_struct Tryd.underlying40 hf
  obtain ⟨cs⟩ := cs
  simp only [Value.cells] at hl hfl
  rw [cSt] at hl
  have f0 : DataW.trod enc Tryd.prog W base sp held n 3 ((cs.drop 0).take (Tryd.prog.cellsOf 3)) = xs[0]? := hfl 0 _ rfl
  have f1 : DataW.trod enc Tryd.prog W base sp held n 38 ((cs.drop 1).take (Tryd.prog.cellsOf 38)) = xs[1]? := hfl 1 _ rfl
  have f2 : DataW.trod enc Tryd.prog W base sp held n 4 ((cs.drop 7).take (Tryd.prog.cellsOf 4)) = xs[2]? := hfl 2 _ rfl
  have hxl3 : xs.length = 3 := hxl
  obtain ⟨x0, x1, x2, rfl⟩ : ∃ a b c, xs = [a, b, c] := by
    match xs, hxl3 with
    | [a, b, c], _ => exact ⟨a, b, c, rfl⟩
  rw [cInt1] at f0
  rw [cSix] at f1
  rw [cBool] at f2
  obtain ⟨c0, c1, c2, c3, c4, c5, c6, c7, rfl⟩ := len8 hl
  simp at f0 f1 f2
  obtain ⟨n0, e0, _, _⟩ := DataW.trod_int Tryd.underlying3 f0
  obtain ⟨c, e1⟩ := six_cells f1 rfl
  obtain ⟨g, e2, _⟩ := DataW.trod_bool Tryd.underlying4 f2
  simp only [List.cons.injEq, and_true] at e0 e1 e2
  obtain ⟨rfl, rfl, rfl, rfl, rfl, rfl⟩ := e1
  subst e0; subst e2
  exact ⟨⟨n0, c, g⟩, rfl⟩
end Go.Proofs.YthbcbdedmillaaaDoor

/-
  framesame.Plan: of two that are the same.
-/
import Derived.Test.YtjbbpbhlbmmekaeGreatDoorJb3
import Derived.Test.YtjbbpbhlbmmekaeGreatDoorJb4
import Derived.Deep.RegionWith
namespace Go.Proofs.YtjbbpbhlbmmekaeGreatDoor
open Go.RowKit

theorem fieldsSp : Tryz.prog.underlying 47 = some (.struct (Tryz.prog.fieldsOf 47)) := by kernel_rfl
theorem stoodSp : Tryz.prog.stoodInHeld 47 = false := by kernel_rfl
theorem fieldsSpIs : Tryz.prog.fieldsOf 47 = #[{ name := "From", type := 3, offset := 0, embedded := false, tag := "", pkgPath := "", byteOffset := 0 }, { name := "To", type := 3, offset := 1, embedded := false, tag := "", pkgPath := "", byteOffset := 8 }, { name := "Room", type := 3, offset := 2, embedded := false, tag := "", pkgPath := "", byteOffset := 16 }] := by kernel_rfl
theorem guardSp : Tryz.prog.eqGuardType Tryz.prog.depth 47 = false := by kernel_rfl
theorem neq_sp (a b c : Int) (w : World) : (binOp .neq 47 (.agg #[.int .i64 a, .int .i64 b, .int .i64 c]) (.agg #[.int .i64 a, .int .i64 b, .int .i64 c])).run Tryz.prog w = .ok (.bool false) w := by
  rw [run_neq_struct, run_equalIn_agg _ _ _ _ _ fieldsSp stoodSp, fieldsSpIs]
  simp [go_sem, Tryz.underlying3]
theorem fieldsWr : Tryz.prog.underlying 49 = some (.struct (Tryz.prog.fieldsOf 49)) := by kernel_rfl
theorem stoodWr : Tryz.prog.stoodInHeld 49 = false := by kernel_rfl
theorem fieldsWrIs : Tryz.prog.fieldsOf 49 = #[{ name := "From", type := 3, offset := 0, embedded := false, tag := "", pkgPath := "", byteOffset := 0 }, { name := "To", type := 3, offset := 1, embedded := false, tag := "", pkgPath := "", byteOffset := 8 }, { name := "Kind", type := 3, offset := 2, embedded := false, tag := "", pkgPath := "", byteOffset := 16 }, { name := "Deep", type := 3, offset := 3, embedded := false, tag := "", pkgPath := "", byteOffset := 24 }] := by kernel_rfl
theorem guardWr : Tryz.prog.eqGuardType Tryz.prog.depth 49 = false := by kernel_rfl
theorem neq_wr (a b c d : Int) (w : World) : (binOp .neq 49 (.agg #[.int .i64 a, .int .i64 b, .int .i64 c, .int .i64 d]) (.agg #[.int .i64 a, .int .i64 b, .int .i64 c, .int .i64 d])).run Tryz.prog w = .ok (.bool false) w := by
  rw [run_neq_struct, run_equalIn_agg _ _ _ _ _ fieldsWr stoodWr, fieldsWrIs]
  simp [go_sem, Tryz.underlying3]
/-- Behind the boxes of two plans. -/
def Bx2 (w W : World) (x0 : Value) (n : Int) (x2 x3 : Value) (y0 y2 y3 : Value) : Prop := Below (w.heap.size + 2) ((w.alloc (.cells #[x0, .int .i64 n, x2, x3] 26)).alloc (.cells #[y0, .int .i64 n, y2, y3] 26)) W
theorem Bx2.size {w W : World} {x0 x2 x3 y0 y2 y3 : Value} {n : Int} (h : Bx2 w W x0 n x2 x3 y0 y2 y3) : w.heap.size + 2 ≤ W.heap.size := by
  have := Below.size h
  simpa using this
theorem Bx2.step {w W W' : World} {x0 x2 x3 y0 y2 y3 : Value} {n : Int} (h : Bx2 w W x0 n x2 x3 y0 y2 y3) (hb : Below W.heap.size W W') : Bx2 w W' x0 n x2 x3 y0 y2 y3 := Below.trans h (hb.mono h.size)
theorem Bx2.dN {w W : World} {x0 x2 x3 y0 y2 y3 : Value} {n : Int} (h : Bx2 w W x0 n x2 x3 y0 y2 y3) (k : Nat) : Bx2 w (W.drewN k) x0 n x2 x3 y0 y2 y3 := below_dN h k
theorem Bx2.below {w W : World} {x0 x2 x3 y0 y2 y3 : Value} {n : Int} (h : Bx2 w W x0 n x2 x3 y0 y2 y3) : Below w.heap.size w W := (((Below.refl _ _).alloc (Nat.le_refl _) _).alloc (by simp) _).trans (Below.mono h (by omega))
theorem Bx2.c {w W : World} {x0 x2 x3 y0 y2 y3 : Value} {n : Int} (h : Bx2 w W x0 n x2 x3 y0 y2 y3) : W.cell? ⟨w.heap.size, 0, none⟩ = some x0 ∧ W.cell? ⟨w.heap.size, 2, none⟩ = some x2 ∧ W.cell? ⟨w.heap.size, 3, none⟩ = some x3 ∧ W.cell? ⟨w.heap.size + 1, 0, none⟩ = some y0 ∧ W.cell? ⟨w.heap.size + 1, 2, none⟩ = some y2 ∧ W.cell? ⟨w.heap.size + 1, 3, none⟩ = some y3 :=
  ⟨(Below.cell h (p := ⟨w.heap.size, 0, none⟩) (by simp)).trans (by simp), (Below.cell h (p := ⟨w.heap.size, 2, none⟩) (by simp)).trans (by simp), (Below.cell h (p := ⟨w.heap.size, 3, none⟩) (by simp)).trans (by simp), (Below.cell h (p := ⟨w.heap.size + 1, 0, none⟩) (by simp)).trans (by simp), (Below.cell h (p := ⟨w.heap.size + 1, 2, none⟩) (by simp)).trans (by simp), (Below.cell h (p := ⟨w.heap.size + 1, 3, none⟩) (by simp)).trans (by simp)⟩

set_option maxRecDepth 1000000 in
set_option maxHeartbeats 8000000 in
theorem sameplan_any (p : PD) (xc xs xw yc ys yw : Value) (w : World) (hx : Pln w xc xs xw p) (hy : Pln w yc ys yw p) (l1 : p.code.length ≤ 1000) (l2 : p.spans.length ≤ 1000) (l3 : p.wires.length ≤ 1000) (l4 : ∀ c ∈ p.code, c.length ≤ 1000) :
    Calls Tryz.prog 8 #[plV xc p.ticks xs xw, plV yc p.ticks ys yw] w fun e w' => e = .returned (.bool true) ∧ Below w.heap.size w w' := by
  obtain ⟨xa, xb, rfl⟩ := hx.code.form
  obtain ⟨xd, xe, rfl⟩ := hx.spans.form
  obtain ⟨xf, xg, rfl⟩ := hx.wires.form
  obtain ⟨ya, yb, rfl⟩ := hy.code.form
  obtain ⟨yd, ye, rfl⟩ := hy.spans.form
  obtain ⟨yf, yg, rfl⟩ := hy.wires.form
  have HX : Hid (Pln w (.slice xa p.code.length xb) (.slice xd p.spans.length xe) (.slice xf p.wires.length xg) p) := hx
  have HY : Hid (Pln w (.slice ya p.code.length yb) (.slice yd p.spans.length ye) (.slice yf p.wires.length yg) p) := hy
  have HL : Hid (∀ c ∈ p.code, c.length ≤ 1000) := l4
  clear hx hy l4
  unfold plV
  have hb0 : Bx2 w _ (.slice xa p.code.length xb) p.ticks (.slice xd p.spans.length xe) (.slice xf p.wires.length xg) (.slice ya p.code.length yb) (.slice yd p.spans.length ye) (.slice yf p.wires.length yg) := Below.refl _ _
  go_enter Tryz.func8, Tryz.ntmps8
  go_wp2
  go_loopw [5] (fun i wr => ∃ k : Nat, k ≤ p.code.length ∧ i = .int .i64 k ∧ Bx2 w wr (.slice xa p.code.length xb) p.ticks (.slice xd p.spans.length xe) (.slice xf p.wires.length xg) (.slice ya p.code.length yb) (.slice yd p.spans.length ye) (.slice yf p.wires.length yg)) (fun i _ => p.code.length - (intOf i).toNat)
  case atStart => exact ⟨0, Nat.zero_le _, rfl, hb0⟩
  case round =>
  clear hb0
  obtain ⟨k, hk, rfl, hB⟩ := hrel
  obtain ⟨i0, i2, i3, j0, j2, j3⟩ := hB.c
  by_cases hkl : k < p.code.length
  · have hki : (k : Int) < (p.code.length : Int) := by omega
    obtain ⟨b, off, u, n, g, c, rfl, hlt, hc, d0, hn, ho⟩ := HX.out.code.at hkl
    obtain ⟨b', off', u', n', g', c', rfl, hlt', hc', d0', hn', ho'⟩ := HY.out.code.at hkl
    obtain rfl : c = c' := Option.some.inj (hc.symm.trans hc')
    replace d0 := (hB.below.cell (p := ⟨b, _, none⟩) hlt).trans d0
    replace d0' := (hB.below.cell (p := ⟨b', _, none⟩) hlt').trans d0'
    have q1 := same_any (.slice u n g) (.slice u' n' g') c c wr.drew ((ho.all hB.below).all (Below.refl _ _).drew) ((ho'.all hB.below).all (Below.refl _ _).drew) (by have := HL.out c (List.mem_of_getElem? hc); omega)
    rw [decide_eq_true rfl] at q1
    clear hc hc' hn hn' ho ho' i2 i3 j2 j3
    go_wp2
    go_region_with (go_at_call 23; refine q1.mono ?_; rintro e w1 ⟨rfl, b1⟩)
    all_goals (
      go_wp2
      go_roundw
      case rel => exact ⟨k + 1, by omega, by go_num, hB.step (((Below.refl _ wr).drew).trans b1)⟩
      case measure => simp [intOf]; omega)
  have hki : decide ((k : Int) < (p.code.length : Int)) = false := decide_eq_false (by omega)
  have hkn : decide (k < p.code.length) = false := decide_eq_false (by omega)
  go_wp2
  rename World => wo
  go_loopw [7] (fun i wr => ∃ k : Nat, k ≤ p.spans.length ∧ i = .int .i64 k ∧ Bx2 w wr (.slice xa p.code.length xb) p.ticks (.slice xd p.spans.length xe) (.slice xf p.wires.length xg) (.slice ya p.code.length yb) (.slice yd p.spans.length ye) (.slice yf p.wires.length yg)) (fun i _ => p.spans.length - (intOf i).toNat)
  case atStart => exact ⟨0, Nat.zero_le _, rfl, hB⟩
  case round =>
  clear hB i0 i2 i3 j0 j2 j3 hkl hki hkn hk
  obtain ⟨k, hk, rfl, hB⟩ := hrel
  obtain ⟨i0, i2, i3, j0, j2, j3⟩ := hB.c
  by_cases hkl : k < p.spans.length
  · have hki : (k : Int) < (p.spans.length : Int) := by omega
    obtain ⟨b, off, f, t, r, rfl, hlt, hc, d0, d1, d2⟩ := HX.out.spans.at hkl
    obtain ⟨b', off', f', t', r', rfl, hlt', hc', d0', d1', d2'⟩ := HY.out.spans.at hkl
    obtain ⟨rfl, rfl, rfl⟩ : f = f' ∧ t = t' ∧ r = r' := by have := Option.some.inj (hc.symm.trans hc'); simpa using this
    replace d0 := (hB.below.cell (p := ⟨b, _, none⟩) hlt).trans d0
    replace d1 := (hB.below.cell (p := ⟨b, _, none⟩) hlt).trans d1
    replace d2 := (hB.below.cell (p := ⟨b, _, none⟩) hlt).trans d2
    replace d0' := (hB.below.cell (p := ⟨b', _, none⟩) hlt').trans d0'
    replace d1' := (hB.below.cell (p := ⟨b', _, none⟩) hlt').trans d1'
    replace d2' := (hB.below.cell (p := ⟨b', _, none⟩) hlt').trans d2'
    have hgd := guardSp
    have hnq := neq_sp f t r
    clear hc hc' i0 i3 j0 j3
    go_wp2
    go_quiet (fail)
    go_wp2
    go_roundw
    case rel => exact ⟨k + 1, by omega, by go_num, hB.dN _⟩
    case measure => simp [intOf]; omega
  have hki : decide ((k : Int) < (p.spans.length : Int)) = false := decide_eq_false (by omega)
  have hkn : decide (k < p.spans.length) = false := decide_eq_false (by omega)
  go_wp2
  rename World => wp
  go_loopw [8] (fun i wr => ∃ k : Nat, k ≤ p.wires.length ∧ i = .int .i64 k ∧ Bx2 w wr (.slice xa p.code.length xb) p.ticks (.slice xd p.spans.length xe) (.slice xf p.wires.length xg) (.slice ya p.code.length yb) (.slice yd p.spans.length ye) (.slice yf p.wires.length yg)) (fun i _ => p.wires.length - (intOf i).toNat)
  case atStart => exact ⟨0, Nat.zero_le _, rfl, hB⟩
  case round =>
  clear hB i0 i2 i3 j0 j2 j3 hkl hki hkn hk
  obtain ⟨k, hk, rfl, hB⟩ := hrel
  obtain ⟨i0, i2, i3, j0, j2, j3⟩ := hB.c
  by_cases hkl : k < p.wires.length
  · have hki : (k : Int) < (p.wires.length : Int) := by omega
    obtain ⟨b, off, f, t, kd, d, rfl, hlt, hc, d0, d1, d2, d3⟩ := HX.out.wires.at hkl
    obtain ⟨b', off', f', t', kd', d', rfl, hlt', hc', d0', d1', d2', d3'⟩ := HY.out.wires.at hkl
    obtain ⟨rfl, rfl, rfl, rfl⟩ : f = f' ∧ t = t' ∧ kd = kd' ∧ d = d' := by have := Option.some.inj (hc.symm.trans hc'); simpa using this
    replace d0 := (hB.below.cell (p := ⟨b, _, none⟩) hlt).trans d0
    replace d1 := (hB.below.cell (p := ⟨b, _, none⟩) hlt).trans d1
    replace d2 := (hB.below.cell (p := ⟨b, _, none⟩) hlt).trans d2
    replace d3 := (hB.below.cell (p := ⟨b, _, none⟩) hlt).trans d3
    replace d0' := (hB.below.cell (p := ⟨b', _, none⟩) hlt').trans d0'
    replace d1' := (hB.below.cell (p := ⟨b', _, none⟩) hlt').trans d1'
    replace d2' := (hB.below.cell (p := ⟨b', _, none⟩) hlt').trans d2'
    replace d3' := (hB.below.cell (p := ⟨b', _, none⟩) hlt').trans d3'
    have hgd := guardWr
    have hnq := neq_wr f t kd d
    clear hc hc' i0 i2 j0 j2
    go_wp2
    go_quiet (fail)
    go_wp2
    go_roundw
    case rel => exact ⟨k + 1, by omega, by go_num, hB.dN _⟩
    case measure => simp [intOf]; omega
  have hki : decide ((k : Int) < (p.wires.length : Int)) = false := decide_eq_false (by omega)
  have hkn : decide (k < p.wires.length) = false := decide_eq_false (by omega)
  go_wp2
  go_ret
  exact ⟨rfl, hB.below⟩
end Go.Proofs.YtjbbpbhlbmmekaeGreatDoor

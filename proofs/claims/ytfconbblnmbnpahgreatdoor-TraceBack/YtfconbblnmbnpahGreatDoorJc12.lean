/-
  TrcCN, TrcCR, FlowOpen, EvOpen, TcCnt, TcRun: joined into one text.
-/
import Derived.Test.YtfconbblnmbnpahGreatDoorJc2
import Derived.Test.YtfconbblnmbnpahGreatDoorJc1
import Derived.Test.YtfconbblnmbnpahGreatDoorJc5
import Derived.Test.YtfconbblnmbnpahGreatDoorJc6
import Derived.Deep.RegionLaw
import Derived.Deep.CutRange
namespace Go.Proofs.YtfconbblnmbnpahGreatDoor
open Go.RowKit

def TrcCounts (G : World → Prop) : Prop := ∀ (l : List W4) (v : Value) (W : World), G W → Wrs W v l → Calls Tryz.prog 16 #[v] W fun e w' => ∃ u, e = .returned (.tuple #[u, wErr (evchk l)]) ∧ Stp w' u (countsV l) ∧ Below W.heap.size W w'
end Go.Proofs.YtfconbblnmbnpahGreatDoor
namespace Go.Proofs.YtfconbblnmbnpahGreatDoor
open Go.RowKit

def TrcRun (G : World → Prop) : Prop := ∀ (p : PD) (vc vs vw : Value) (n : Int) (W : World), G W → Pln W vc vs vw p → Calls Tryz.prog 10 #[plV vc p.ticks vs vw, .int .i64 n] W fun e w' => ∃ u, e = .returned (.tuple #[u, wErr (trE p n)]) ∧ Wrs w' u (trV p n) ∧ Below W.heap.size W w'
end Go.Proofs.YtfconbblnmbnpahGreatDoor
namespace Go.Proofs.YtfconbblnmbnpahGreatDoor
open Go.ChangeShapes Go.WideShapes Go.ChangeAt Go.WideElems Go.RowKit Go.Deep

theorem cWire : Tryz.prog.cellsOf 76 = 4 := by kernel_rfl
theorem cOne : Tryz.prog.cellsOf 3 = 1 := by kernel_rfl
set_option maxRecDepth 100000 in
theorem wr_cells {H : Type} {enc : TypeId × Value → H} {W : World} {base : Nat} {sp : Nat → Bool} {held : Bool} {fuel : Nat} {cs : List Value} {x : DataW H × List MemPlace}
    (h : DataW.trod enc Tryz.prog W base sp held fuel 76 cs = some x) : ∃ o : W4, cs = [.int .i64 o.1, .int .i64 o.2.1, .int .i64 o.2.2.1, .int .i64 o.2.2.2] := by
  obtain ⟨y0, y1, y2, y3, n, _, hl, h0, h1, h2, h3⟩ := Joins.trod_struct4 Tryz.underlying76 h
  rw [cWire] at hl
  match cs, hl with
  | [c0, c1, c2, c3], _ =>
    simp only [cOne] at h0 h1 h2 h3
    simp at h0 h1 h2 h3
    obtain ⟨n, e0, _, _⟩ := DataW.trod_int Tryz.underlying3 h0
    obtain ⟨a, e1, _, _⟩ := DataW.trod_int Tryz.underlying3 h1
    obtain ⟨b, e2, _, _⟩ := DataW.trod_int Tryz.underlying3 h2
    obtain ⟨c, e3, _, _⟩ := DataW.trod_int Tryz.underlying3 h3
    simp only [List.cons.injEq, and_true] at e0 e1 e2 e3
    subst e0; subst e1; subst e2; subst e3
    exact ⟨(n, a, b, c), rfl⟩
theorem pick_lt {α : Type} [Inhabited α] {p : Nat → α → Prop} {n : Nat} (h : ∀ i, i < n → ∃ x, p i x) : ∃ f : Nat → α, ∀ i, i < n → p i (f i) := by
  refine ⟨fun i => if hi : i < n then (h i hi).choose else default, fun i hi => ?_⟩
  simp only [hi, dif_pos]
  exact (h i hi).choose_spec
set_option maxRecDepth 100000 in
theorem open_wrs {H : Type} {enc : TypeId × Value → H} {W : World} {b0 : Nat} {r : Reach} {v : Value} {d : DataW H} {p : List MemPlace} (hv : Value.okWide Tryz.prog W r b0 24 v)
    (h : DataW.Trod enc Tryz.prog W 0 (fun _ => true) true 24 v d p) : ∃ l : List W4, Wrs W v l := by
  obtain ⟨a0, len0, cap0, rfl⟩ := okWide_slice Tryz.underlying24 hv
  obtain ⟨fuel, hf⟩ := h
  rcases open_slice Tryz.underlying24 hf with ⟨hcs, _⟩ | ⟨a, len, cap, m, n, D, Pl, hcs, _, hl, _, hm, hx, hel⟩
  · simp [Value.cells] at hcs
    obtain ⟨rfl, rfl, rfl⟩ := hcs
    exact ⟨[], Or.inl ⟨rfl, _, _, rfl⟩⟩
  · simp [Value.cells] at hcs
    obtain ⟨rfl, rfl, rfl⟩ := hcs
    have hlm : len0 ≤ m := by rw [hm]; simpa using hl
    have each : ∀ i, i < len0 → ∃ o : W4, W.cell? (a.add (i * 4)) = some (.int .i64 o.1) ∧ W.cell? ((a.add (i * 4)).add 1) = some (.int .i64 o.2.1) ∧ W.cell? ((a.add (i * 4)).add 2) = some (.int .i64 o.2.2.1) ∧ W.cell? ((a.add (i * 4)).add 3) = some (.int .i64 o.2.2.2) := fun i hi => by
      obtain ⟨cs', h1, h2⟩ := hel i (by omega)
      rw [cWire] at h1
      obtain ⟨o, rfl⟩ := wr_cells h2
      obtain ⟨_, _, hc⟩ := World.cells?_some h1
      exact ⟨o, by simpa [Addr.add] using hc 0 (by omega), hc 1 (by omega), hc 2 (by omega), hc 3 (by omega)⟩
    by_cases h0 : len0 = 0
    · subst h0
      exact ⟨[], Or.inl ⟨rfl, _, _, rfl⟩⟩
    · obtain ⟨f, hfo⟩ := pick_lt (α := W4) (p := fun i o => W.cell? (a.add (i * 4)) = some (.int .i64 o.1) ∧ W.cell? ((a.add (i * 4)).add 1) = some (.int .i64 o.2.1) ∧ W.cell? ((a.add (i * 4)).add 2) = some (.int .i64 o.2.2.1) ∧ W.cell? ((a.add (i * 4)).add 3) = some (.int .i64 o.2.2.2)) each
      have hz := (hfo 0 (by omega)).1
      rw [show a.add (0 * 4) = a from by simp [Addr.add]] at hz
      obtain ⟨ha, hlt⟩ := spot_none hz
      refine ⟨(List.range len0).map f, Or.inr ⟨a.block, a.off, cap0, by rw [List.length_map, List.length_range, ← ha], by simpa using hl, hlt, fun i o ho => ?_⟩⟩
      have hi : i < len0 := by
        have := (List.getElem?_eq_some_iff.1 ho).1
        simpa using this
      have hoi : f i = o := by simpa [hi] using ho
      obtain ⟨h1, h2, h3, h4⟩ := hfo i hi
      rw [hoi] at h1 h2 h3 h4
      rw [ha] at h1 h2 h3 h4
      simp only [Addr.add_lit] at h1 h2 h3 h4
      exact ⟨h1, h2, h3, h4⟩
end Go.Proofs.YtfconbblnmbnpahGreatDoor
namespace Go.Proofs.YtfconbblnmbnpahGreatDoor
open Go.ChangeShapes Go.WideShapes Go.ChangeAt Go.WideElems Go.RowKit Go.Deep

theorem cEvent : Tryz.prog.cellsOf 32 = 4 := by kernel_rfl
set_option maxRecDepth 100000 in
theorem evo_cells {H : Type} {enc : TypeId × Value → H} {W : World} {base : Nat} {sp : Nat → Bool} {held : Bool} {fuel : Nat} {cs : List Value} {x : DataW H × List MemPlace}
    (h : DataW.trod enc Tryz.prog W base sp held fuel 32 cs = some x) : ∃ o : W4, cs = [.int .i64 o.1, .int .i64 o.2.1, .int .i64 o.2.2.1, .int .i64 o.2.2.2] := by
  obtain ⟨y0, y1, y2, y3, n, _, hl, h0, h1, h2, h3⟩ := Joins.trod_struct4 Tryz.underlying32 h
  rw [cEvent] at hl
  match cs, hl with
  | [c0, c1, c2, c3], _ =>
    simp only [cOne] at h0 h1 h2 h3
    simp at h0 h1 h2 h3
    obtain ⟨n, e0, _, _⟩ := DataW.trod_int Tryz.underlying3 h0
    obtain ⟨a, e1, _, _⟩ := DataW.trod_int Tryz.underlying3 h1
    obtain ⟨b, e2, _, _⟩ := DataW.trod_int Tryz.underlying3 h2
    obtain ⟨c, e3, _, _⟩ := DataW.trod_int Tryz.underlying3 h3
    simp only [List.cons.injEq, and_true] at e0 e1 e2 e3
    subst e0; subst e1; subst e2; subst e3
    exact ⟨(n, a, b, c), rfl⟩
set_option maxRecDepth 100000 in
theorem open_evs {H : Type} {enc : TypeId × Value → H} {W : World} {b0 : Nat} {r : Reach} {v : Value} {d : DataW H} {p : List MemPlace} (hv : Value.okWide Tryz.prog W r b0 27 v)
    (h : DataW.Trod enc Tryz.prog W 0 (fun _ => true) true 27 v d p) : ∃ l : List W4, Wrs W v l := by
  obtain ⟨a0, len0, cap0, rfl⟩ := okWide_slice Tryz.underlying27 hv
  obtain ⟨fuel, hf⟩ := h
  rcases open_slice Tryz.underlying27 hf with ⟨hcs, _⟩ | ⟨a, len, cap, m, n, D, Pl, hcs, _, hl, _, hm, hx, hel⟩
  · simp [Value.cells] at hcs
    obtain ⟨rfl, rfl, rfl⟩ := hcs
    exact ⟨[], Or.inl ⟨rfl, _, _, rfl⟩⟩
  · simp [Value.cells] at hcs
    obtain ⟨rfl, rfl, rfl⟩ := hcs
    have hlm : len0 ≤ m := by rw [hm]; simpa using hl
    have each : ∀ i, i < len0 → ∃ o : W4, W.cell? (a.add (i * 4)) = some (.int .i64 o.1) ∧ W.cell? ((a.add (i * 4)).add 1) = some (.int .i64 o.2.1) ∧ W.cell? ((a.add (i * 4)).add 2) = some (.int .i64 o.2.2.1) ∧ W.cell? ((a.add (i * 4)).add 3) = some (.int .i64 o.2.2.2) := fun i hi => by
      obtain ⟨cs', h1, h2⟩ := hel i (by omega)
      rw [cEvent] at h1
      obtain ⟨o, rfl⟩ := evo_cells h2
      obtain ⟨_, _, hc⟩ := World.cells?_some h1
      exact ⟨o, by simpa [Addr.add] using hc 0 (by omega), hc 1 (by omega), hc 2 (by omega), hc 3 (by omega)⟩
    by_cases h0 : len0 = 0
    · subst h0
      exact ⟨[], Or.inl ⟨rfl, _, _, rfl⟩⟩
    · obtain ⟨f, hfo⟩ := pick_lt (α := W4) (p := fun i o => W.cell? (a.add (i * 4)) = some (.int .i64 o.1) ∧ W.cell? ((a.add (i * 4)).add 1) = some (.int .i64 o.2.1) ∧ W.cell? ((a.add (i * 4)).add 2) = some (.int .i64 o.2.2.1) ∧ W.cell? ((a.add (i * 4)).add 3) = some (.int .i64 o.2.2.2)) each
      have hz := (hfo 0 (by omega)).1
      rw [show a.add (0 * 4) = a from by simp [Addr.add]] at hz
      obtain ⟨ha, hlt⟩ := spot_none hz
      refine ⟨(List.range len0).map f, Or.inr ⟨a.block, a.off, cap0, by rw [List.length_map, List.length_range, ← ha], by simpa using hl, hlt, fun i o ho => ?_⟩⟩
      have hi : i < len0 := by
        have := (List.getElem?_eq_some_iff.1 ho).1
        simpa using this
      have hoi : f i = o := by simpa [hi] using ho
      obtain ⟨h1, h2, h3, h4⟩ := hfo i hi
      rw [hoi] at h1 h2 h3 h4
      rw [ha] at h1 h2 h3 h4
      simp only [Addr.add_lit] at h1 h2 h3 h4
      exact ⟨h1, h2, h3, h4⟩
end Go.Proofs.YtfconbblnmbnpahGreatDoor
namespace Go.Proofs.YtfconbblnmbnpahGreatDoor
open Go.RowKit

theorem cntW_next {l : List W4} {k : Nat} {e : W4} (h : l[k]? = some e) (q : Int) : cntW (l.take (k + 1)) q = cntW (l.take k) q + if e.2.2.2 = q then 1 else 0 := by
  obtain ⟨hk, rfl⟩ := List.getElem?_eq_some_iff.1 h
  rw [List.take_succ_eq_append_getElem hk]
  unfold cntW
  rw [List.filter_append, List.length_append]
  by_cases h2 : (l[k]).2.2.2 = q
  · rw [if_pos h2]; simp [h2]
  · rw [if_neg h2]; simp [h2]
theorem cntW_take_le (l : List W4) (k : Nat) (q : Int) : cntW (l.take k) q ≤ l.length := by
  unfold cntW
  have h1 := List.length_filter_le (fun e : W4 => decide (e.2.2.2 = q)) (l.take k)
  have h2 : (l.take k).length ≤ l.length := by simp; omega
  omega
/-- A row of numbers that is being laid. -/
def IxN (w : World) (g n : Nat) (P : Nat → Nat) : Prop := ∀ i, i < n → w.cell? ⟨g, i, none⟩ = some (.int .i64 (P i)) ∧ w.frozen? ⟨g, i, none⟩ = false
theorem IxN.below {w w' : World} {g n B : Nat} {P : Nat → Nat} (h : IxN w g n P) (hb : Below B w w') (hB : g < B) : IxN w' g n P := fun i hi =>
  ⟨(hb.cell (p := ⟨g, _, none⟩) hB).trans (h i hi).1, (hb.frozen (p := ⟨g, _, none⟩) hB).trans (h i hi).2⟩
theorem IxN.set {w : World} {g n : Nat} {P : Nat → Nat} (h : IxN w g n P) {k : Nat} (hk : k < n) (b : Nat) : IxN (w.setCell ⟨g, k, none⟩ (.int .i64 b)) g n (fun i => if i = k then b else P i) := fun i hi => by
  obtain ⟨h1, h2⟩ := h i hi
  refine ⟨?_, (World.frozen?_setCell _ _ _ _).trans h2⟩
  by_cases he : i = k
  · subst he
    simp [go_sem, h1]
  · simp only [if_neg he]
    rw [World.cell?_setCell_other _ _ _ _ (by intro e; injection e with _ e2; omega)]
    exact h1
theorem IxN.congr {w : World} {g n : Nat} {P Q : Nat → Nat} (h : IxN w g n P) (hq : ∀ i, i < n → P i = Q i) : IxN w g n Q := fun i hi => by rw [← hq i hi]; exact h i hi
theorem ixn_new (W : World) (n : Nat) (P : Nat → Nat) (hP : ∀ i, i < n → P i = 0) : IxN (W.alloc (.cells (madeCells #[.int .i64 0] n) 3)) W.heap.size n P := fun i hi => by
  have hN := World.alloc_heap_new W (.cells (madeCells #[.int .i64 0] n) 3)
  rw [hP i hi]
  generalize W.alloc (.cells (madeCells #[.int .i64 0] n) 3) = W2 at hN ⊢
  constructor
  · simp [World.cell?, hN, madeCells, hi, Nat.mod_one]
  · simp [World.frozen?, hN]
theorem made_six (W : World) : (Instr.makeSlice 41 (.int .i64 6) (.int .i64 6)).run Tryz.prog W = .ok (.slice (some ⟨W.heap.size, 0, none⟩) 6 6) (W.alloc (.cells (madeCells #[.int .i64 0] 6) 3)) := by
  obtain ⟨i, hi, hz⟩ : ∃ i, Tryz.prog.info? 3 = some i ∧ (i.zero, i.size, i.bytes) = (some (.int .i64 0), 1, 8) := by
    have : (Tryz.prog.info? 3).map (fun i => (i.zero, i.size, i.bytes)) = some (some (.int .i64 0), 1, 8) := by kernel_rfl
    cases hq : Tryz.prog.info? 3 with
    | none => rw [hq] at this; cases this
    | some i => rw [hq] at this; exact ⟨i, rfl, Option.some.inj this⟩
  simp only [Prod.mk.injEq] at hz
  obtain ⟨hz1, hz2, hz3⟩ := hz
  have := run_make (P := Tryz.prog) W 41 3 i _ (by kernel_rfl) hi hz1 .i64 .i64 6 6 (by omega) (Int.le_refl _) (by rw [hz3]; omega) (by omega)
  rw [hz2] at this
  simpa [Value.cells] using this
theorem countsL_of (l : List W4) (i : Nat) (x : Int) (h : (countsL l)[i]? = some x) : i < 6 ∧ x = (cntW l (i : Int) : Int) := by
  unfold countsL at h
  match i, h with
  | 0, h => simp at h; exact ⟨by omega, h.symm⟩
  | 1, h => simp at h; exact ⟨by omega, h.symm⟩
  | 2, h => simp at h; exact ⟨by omega, h.symm⟩
  | 3, h => simp at h; exact ⟨by omega, h.symm⟩
  | 4, h => simp at h; exact ⟨by omega, h.symm⟩
  | 5, h => simp at h; exact ⟨by omega, h.symm⟩
  | i + 6, h => simp at h
set_option maxRecDepth 100000 in
set_option maxHeartbeats 2000000 in
theorem tcnt_wrong (l : List W4) (v : Value) (w : World) (hl : Wrs w v l) (h0 : evchk l ≠ 0) :
    Calls Tryz.prog 16 #[v] w fun e w' => e = .returned (.tuple #[.slice none 0 0, wErr (evchk l)]) ∧ Below w.heap.size w w' := by
  have q := evcheck_any l v w hl
  rw [wErr_not h0] at q ⊢
  generalize evchk l = z at q ⊢
  clear hl h0
  go_enter Tryz.func16, Tryz.ntmps16
  go_wp2_with (go_at_call 40; refine q.mono ?_; rintro e w1 ⟨rfl, b1⟩; clear q)
  go_ret2
  exact ⟨rfl, b1⟩
set_option maxRecDepth 100000 in
set_option maxHeartbeats 4000000 in
theorem tcnt_ok (l : List W4) (v : Value) (w : World) (hl : Wrs w v l) (h0 : evchk l = 0) :
    Calls Tryz.prog 16 #[v] w fun e w' => ∃ u, e = .returned (.tuple #[u, .nilIface]) ∧ Stp w' u (countsL l) ∧ Below w.heap.size w w' := by
  have q := evcheck_any l v w hl
  rw [h0, show wErr 0 = .nilIface from rfl] at q
  obtain ⟨hlen, hgood⟩ := evchk_zero.1 h0
  have HK : Hid (∀ e ∈ l, evBad e = 0) := hgood
  obtain ⟨ao, cap, rfl⟩ := hl.form
  have HL : Hid (Wrs w (.slice ao l.length cap) l) := hl
  have hmk := made_six
  clear hl h0 hgood
  go_enter Tryz.func16, Tryz.ntmps16
  go_wp2_with (go_at_call 40; refine q.mono ?_; rintro e w1 ⟨rfl, b1⟩; clear q)
  clear hmk
  have HI := ixn_new w1 6 (fun j => cntW (l.take 0) (j : Int)) (fun i _ => by simp [cntW])
  generalize hW : w1.alloc (.cells (madeCells #[.int .i64 0] 6) 3) = w2 at HI ⊢
  have b2 : Below w.heap.size w w2 := by rw [← hW]; exact b1.alloc b1.size _
  have s2 : w1.heap.size < w2.heap.size := by rw [← hW]; simp
  have HI2 : Hid (IxN w2 w1.heap.size 6 (fun j => cntW (l.take 0) (j : Int))) := HI
  clear hW HI
  go_loopw [16] (fun i wr => ∃ k : Nat, k ≤ l.length ∧ i = .int .i64 k ∧ Hid (IxN wr w1.heap.size 6 (fun j => cntW (l.take k) (j : Int))) ∧ Below w.heap.size w wr ∧ w1.heap.size < wr.heap.size) (fun i _ => l.length - (intOf i).toNat)
  case atStart => exact ⟨0, Nat.zero_le _, rfl, HI2, b2, s2⟩
  case round =>
    clear HI2
    obtain ⟨k, hk, rfl, HI, hb, hsz⟩ := hrel
    have hb1 := b1.size
    by_cases hkl : k < l.length
    · obtain ⟨b, off, x0, x1, x2, x3, rfl, hlt, hx, c0, c1, c2, c3⟩ := HL.out.at hkl
      replace c0 := (hb.cell (p := ⟨b, _, none⟩) hlt).trans c0
      replace c1 := (hb.cell (p := ⟨b, _, none⟩) hlt).trans c1
      replace c2 := (hb.cell (p := ⟨b, _, none⟩) hlt).trans c2
      replace c3 := (hb.cell (p := ⟨b, _, none⟩) hlt).trans c3
      obtain ⟨_, _, _, hd, _⟩ := evBad_zero (HK.out _ (List.mem_of_getElem? hx))
      obtain ⟨m, rfl⟩ : ∃ m : Nat, x3 = m := ⟨x3.toNat, by simp only at hd; omega⟩
      have hm : m < 6 := by simp only at hd; omega
      have HN : Hid (∀ j : Nat, cntW (l.take (k + 1)) (j : Int) = cntW (l.take k) (j : Int) + if m = j then 1 else 0) := fun j => by
        rw [cntW_next hx]
        simp only [Int.natCast_inj]
      have hle := cntW_take_le l k (m : Int)
      obtain ⟨d0, f0⟩ := HI.out m hm
      simp only at d0
      obtain ⟨C, hC⟩ : ∃ C, cntW (l.take k) (m : Int) = C := ⟨_, rfl⟩
      have I1 : IxN (wr.setCell ⟨w1.heap.size, m, none⟩ (.int .i64 ((C : Int) + 1))) w1.heap.size 6 (fun j => cntW (l.take (k + 1)) (j : Int)) := by
        refine (HI.out.set hm (C + 1)).congr (fun i hi => ?_)
        rw [HN.out i]
        by_cases he : i = m
        · subst he; rw [if_pos rfl, if_pos rfl, hC]
        · rw [if_neg he, if_neg (fun e => he e.symm)]; rfl
      have z1 : (wr.setCell ⟨w1.heap.size, m, none⟩ (.int .i64 ((C : Int) + 1))).heap.size = wr.heap.size := by simp [World.setCell]
      have I8 : Hid (IxN ((wr.setCell ⟨w1.heap.size, m, none⟩ (.int .i64 ((C : Int) + 1))).alloc (.cells #[.int .i64 x0, .int .i64 x1, .int .i64 x2, .int .i64 m] 32)) w1.heap.size 6 (fun j => cntW (l.take (k + 1)) (j : Int))) := I1.below ((Below.refl _ _).alloc (Nat.le_refl _) _) (by omega)
      have B8 : Below w.heap.size w ((wr.setCell ⟨w1.heap.size, m, none⟩ (.int .i64 ((C : Int) + 1))).alloc (.cells #[.int .i64 x0, .int .i64 x1, .int .i64 x2, .int .i64 m] 32)) := (hb.setCell (p := ⟨w1.heap.size, m, none⟩) hb1 _).alloc (by rw [z1]; exact hb.size) _
      have S8 : w1.heap.size < ((wr.setCell ⟨w1.heap.size, m, none⟩ (.int .i64 ((C : Int) + 1))).alloc (.cells #[.int .i64 x0, .int .i64 x1, .int .i64 x2, .int .i64 m] 32)).heap.size := by rw [World.size_alloc, z1]; omega
      rw [hC] at d0 hle
      have hmi : (m : Int) < 6 := by omega
      clear hx hd HN I1 z1 HI hC HK
      go_wp2
      go_roundw
      case rel => exact ⟨k + 1, by omega, by go_num, I8, B8, S8⟩
      case measure => simp [intOf]; omega
    · obtain rfl : k = l.length := by omega
      have HS : Hid (Stp wr (.slice (some ⟨w1.heap.size, 0, none⟩) 6 6) (countsL l)) := by
        refine Or.inr ⟨_, 0, 6, rfl, hsz, fun i x hx => ?_⟩
        obtain ⟨hi, rfl⟩ := countsL_of l i x hx
        have := (HI.out i hi).1
        rw [List.take_length] at this
        simpa using this
      clear HI HL HK
      go_wp2
      go_ret2
      exact ⟨_, rfl, HS.out, hb⟩
/-- Counts does what the laws of traces ask of it. -/
theorem trc_counts (G : World → Prop) : TrcCounts G := fun l v W _ hl => by
  by_cases h0 : evchk l = 0
  · unfold countsV
    rw [h0, if_pos rfl]
    exact tcnt_ok l v W hl h0
  · unfold countsV
    rw [if_neg h0]
    refine (tcnt_wrong l v W hl h0).mono ?_
    rintro e w' ⟨rfl, hb⟩
    exact ⟨_, rfl, Or.inl ⟨rfl, _, _, rfl⟩, hb⟩
end Go.Proofs.YtfconbblnmbnpahGreatDoor
namespace Go.Proofs.YtfconbblnmbnpahGreatDoor
open Go.RowKit

/-- A kernel behind t ticks; the row has what was told of them. -/
structure TrK {G : World → Prop} (C : KerC G) (w0 wr : World) (p : PD) (vc vs vw : Value) (kb B t : Nat) (v : Value) (F : List Nat) : Prop where
  K : C.K w0 wr p vc vs vw (kT p t) kb F
  own : wr.ownsRow B 32 4 v t (wrCells (runL p t))
  ap : ∀ g, v.ownBlock = some g → g ∉ F
  B1 : w0.heap.size ≤ B
  B2 : B ≤ wr.heap.size
/-- A tick: what is told, the kernel then; and the row as it was. -/
theorem TrK.tick {G : World → Prop} {C : KerC G} {w0 wr : World} {p : PD} {vc vs vw : Value} {kb B t : Nat} {v : Value} {F : List Nat} (h : TrK C w0 wr p vc vs vw kb B t v F) (hG : G w0) (hp : plchk p = 0) (ht : t < 1000000) :
    Calls Tryz.prog 26 #[.pointer (some ⟨kb, 0, none⟩)] wr fun e w' => e = .returned (.agg #[.int .i64 (evK p (kT p t)).1, .int .i64 (evK p (kT p t)).2.1, .int .i64 (evK p (kT p t)).2.2.1, .int .i64 (evK p (kT p t)).2.2.2]) ∧ ∃ F', C.K w0 w' p vc vs vw (kT p (t + 1)) kb F' ∧ w'.ownsRow B 32 4 v t (wrCells (runL p t)) ∧ (∀ g, v.ownBlock = some g → g ∉ F') ∧ B ≤ w'.heap.size := by
  refine (C.tick hG h.K hp (kT_ok hp t) (by rw [kT_time]; omega)).mono ?_
  rintro e w' ⟨rfl, F', hK', tk', hF'⟩
  refine ⟨rfl, F', hK', own_block h.own (fun g hg => tk'.block g (h.own.lt g hg).2 (h.ap g hg)), fun g hg hm => ?_, Nat.le_trans h.B2 tk'.size⟩
  rcases hF' g hm with h1 | h1
  · exact h.ap g hg h1
  · have := (h.own.lt g hg).2
    omega
/-- The row has one more. -/
theorem trk_more {G : World → Prop} {C : KerC G} {w0 w3 w5 w8 : World} {p : PD} {vc vs vw : Value} {kb B t : Nat} {v v1 : Value} {F : List Nat} (hK : C.K w0 w3 p vc vs vw (kT p (t + 1)) kb F) (own : w3.ownsRow B 32 4 v t (wrCells (runL p t))) (ap : ∀ g, v.ownBlock = some g → g ∉ F) (hB1 : w0.heap.size ≤ B) (hB2 : B ≤ w3.heap.size) (hb5 : Below w3.heap.size w3 w5) (hg : w5.grownBy w8 v.ownBlock)
    (own8 : w8.ownsRow B 32 4 v1 (t + 1) (wrCells (runL p t) ++ [.int .i64 (evK p (kT p t)).1, .int .i64 (evK p (kT p t)).2.1, .int .i64 (evK p (kT p t)).2.2.1, .int .i64 (evK p (kT p t)).2.2.2])) (hnw : ∀ k, v1.ownBlock = some k → v.ownBlock = some k ∨ w5.heap.size ≤ k) : TrK C w0 w8 p vc vs vw kb B (t + 1) v1 F := by
  have tk : KTouch v.ownBlock.toList w3 w8 := ⟨hg.os.trans hb5.os, hg.tape.trans hb5.tape, hg.output.trans hb5.output, Nat.le_trans hb5.size hg.size, fun k hk hm => by
    have := hb5.size
    exact (hg.block k (by omega) (fun e => hm (by rw [← e]; simp))).trans (hb5.block k hk)⟩
  have hs5 := hb5.size
  have hm1 : ∀ m ∈ v.ownBlock.toList, v.ownBlock = some m := fun m hm => by simpa using hm
  refine ⟨C.frame hK tk (fun m hm => ⟨ap m (hm1 m hm), Nat.le_trans hB1 (own.lt m (hm1 m hm)).1⟩), ?_, fun g hg2 hm => ?_, hB1, Nat.le_trans hB2 tk.size⟩
  · rw [runL_succ, wrCells_snoc]
    exact own8
  · rcases hnw g hg2 with h1 | h1
    · exact ap g h1 hm
    · have := (C.ge hK g hm).2
      omega
set_option maxRecDepth 100000 in
set_option maxHeartbeats 8000000 in
theorem trun_wrong {G : World → Prop} (C : KerC G) (p : PD) (vc vs vw : Value) (n : Int) (W : World) (hG : G W) (hP : Pln W vc vs vw p) (hp : plchk p ≠ 0) :
    Calls Tryz.prog 10 #[plV vc p.ticks vs vw, .int .i64 n] W fun e w' => e = .returned (.tuple #[.slice none 0 0, wErr (plchk p)]) ∧ Below W.heap.size W w' := by
  obtain ⟨ca, cc, rfl⟩ := hP.code.form
  obtain ⟨sa, sc, rfl⟩ := hP.spans.form
  obtain ⟨wa, wc', rfl⟩ := hP.wires.form
  have hx0 := Bx.first W (.slice ca p.code.length cc) p.ticks (.slice sa p.spans.length sc) (.slice wa p.wires.length wc')
  have q1 := C.no p _ _ _ _ (C.all _ _ hG hx0.below) (hP.all hx0.below) hp
  rw [wErr_not hp] at q1 ⊢
  unfold plV at q1 ⊢
  have k0 := hx0.c0
  have k1 := hx0.c1
  have k2 := hx0.c2
  have k3 := hx0.c3
  clear hP hG
  generalize plchk p = z at q1 hp ⊢
  go_enter Tryz.func10, Tryz.ntmps10
  go_wp2_with (go_at_call 25; refine q1.mono ?_; rintro e w1 ⟨x, rfl, b1⟩)
  go_ret2
  exact ⟨rfl, (hx0.step b1).below⟩
set_option maxRecDepth 100000 in
set_option maxHeartbeats 8000000 in
theorem trun_n {G : World → Prop} (C : KerC G) (p : PD) (vc vs vw : Value) (n : Int) (W : World) (hG : G W) (hP : Pln W vc vs vw p) (hp : plchk p = 0) (hn : n < 0 ∨ 2000 < n) :
    Calls Tryz.prog 10 #[plV vc p.ticks vs vw, .int .i64 n] W fun e w' => e = .returned (.tuple #[.slice none 0 0, wErr 1]) ∧ Below W.heap.size W w' := by
  obtain ⟨ca, cc, rfl⟩ := hP.code.form
  obtain ⟨sa, sc, rfl⟩ := hP.spans.form
  obtain ⟨wa, wc', rfl⟩ := hP.wires.form
  have hx0 := Bx.first W (.slice ca p.code.length cc) p.ticks (.slice sa p.spans.length sc) (.slice wa p.wires.length wc')
  have q1 : Calls Tryz.prog 25 #[.agg #[.slice ca p.code.length cc, .int .i64 p.ticks, .slice sa p.spans.length sc, .slice wa p.wires.length wc']] (W.alloc (.cells #[.slice ca p.code.length cc, .int .i64 p.ticks, .slice sa p.spans.length sc, .slice wa p.wires.length wc'] 26)) fun e w' => ∃ kb, e = .returned (.tuple #[.pointer (some ⟨kb, 0, none⟩), .nilIface]) ∧ Below W.heap.size W w' := by
    refine (C.new p _ _ _ _ (C.all _ _ hG hx0.below) (hP.all hx0.below) hp).mono ?_
    rintro e w' ⟨kb, F, rfl, hK⟩
    exact ⟨kb, rfl, hx0.below.trans ((C.since hK).mono (by simp))⟩
  unfold plV
  have k0 := hx0.c0
  have k1 := hx0.c1
  have k2 := hx0.c2
  have k3 := hx0.c3
  have hwi : wiB n 0 2000 = false := by
    unfold wiB
    rcases hn with h | h
    · rw [decide_eq_false (show ¬ 0 ≤ n by omega)]; rfl
    · rw [decide_eq_false (show ¬ n ≤ 2000 by omega)]; simp
  have qw := fun w => within_of hwi w
  clear hP hG hp hn hwi
  go_enter Tryz.func10, Tryz.ntmps10
  go_wp2_with (first | (go_at_call 25; refine q1.mono ?_; rintro e w1 ⟨kb, rfl, b1⟩) | (go_at_call 36; refine (qw _).mono ?_; rintro e w2 ⟨rfl, hw2⟩; obtain rfl := hw2.symm))
  go_ret2
  exact ⟨rfl, b1⟩
set_option maxRecDepth 100000 in
set_option maxHeartbeats 8000000 in
theorem trun_ok {G : World → Prop} (C : KerC G) (p : PD) (vc vs vw : Value) (n : Nat) (W : World) (hG : G W) (hP : Pln W vc vs vw p) (hp : plchk p = 0) (hn : n ≤ 2000) :
    Calls Tryz.prog 10 #[plV vc p.ticks vs vw, .int .i64 n] W fun e w' => ∃ v, e = .returned (.tuple #[v, .nilIface]) ∧ Wrs w' v (runL p n) ∧ Below W.heap.size W w' := by
  obtain ⟨jj, hj, hy0, hy1, hy2⟩ := info_parts infoEv
  obtain ⟨ca, cc, rfl⟩ := hP.code.form
  obtain ⟨sa, sc, rfl⟩ := hP.spans.form
  obtain ⟨wa, wc', rfl⟩ := hP.wires.form
  have hx0 := Bx.first W (.slice ca p.code.length cc) p.ticks (.slice sa p.spans.length sc) (.slice wa p.wires.length wc')
  have HG : Hid (G (W.alloc (.cells #[.slice ca p.code.length cc, .int .i64 p.ticks, .slice sa p.spans.length sc, .slice wa p.wires.length wc'] 26))) := C.all _ _ hG hx0.below
  have hA := hx0.below
  have HN : Hid (Calls Tryz.prog 25 #[.agg #[.slice ca p.code.length cc, .int .i64 p.ticks, .slice sa p.spans.length sc, .slice wa p.wires.length wc']] (W.alloc (.cells #[.slice ca p.code.length cc, .int .i64 p.ticks, .slice sa p.spans.length sc, .slice wa p.wires.length wc'] 26)) fun e w' => ∃ kb F, e = .returned (.tuple #[.pointer (some ⟨kb, 0, none⟩), .nilIface]) ∧ C.K (W.alloc (.cells #[.slice ca p.code.length cc, .int .i64 p.ticks, .slice sa p.spans.length sc, .slice wa p.wires.length wc'] 26)) w' p (.slice ca p.code.length cc) (.slice sa p.spans.length sc) (.slice wa p.wires.length wc') (newK p) kb F) := C.new p _ _ _ _ HG.out (hP.all hx0.below) hp
  unfold plV
  have k0 := hx0.c0
  have k1 := hx0.c1
  have k2 := hx0.c2
  have k3 := hx0.c3
  have hwi : wiB (n : Int) 0 2000 = true := by
    unfold wiB
    rw [decide_eq_true (show (0 : Int) ≤ n by omega), decide_eq_true (show (n : Int) ≤ 2000 by omega)]; rfl
  have qw := fun w => within_of hwi w
  have HP : Hid (plchk p = 0) := hp
  clear hP hG hwi hp
  go_enter Tryz.func10, Tryz.ntmps10
  go_wp2_with (first | (go_at_call 25; refine HN.out.mono ?_; rintro e w1 ⟨kb, F, rfl, hK⟩) | (go_at_call 36; refine (qw _).mono ?_; rintro e w2 ⟨rfl, hw2⟩; obtain rfl := hw2.symm))
  clear HN qw
  generalize W.alloc (.cells #[.slice ca p.code.length cc, .int .i64 p.ticks, .slice sa p.spans.length sc, .slice wa p.wires.length wc'] 26) = W0 at *
  go_loopw [8, 22] (fun v i wr => ∃ (t : Nat) (F : List Nat), t ≤ n ∧ i = .int .i64 t ∧ TrK C W0 wr p (.slice ca p.code.length cc) (.slice sa p.spans.length sc) (.slice wa p.wires.length wc') kb w1.heap.size t v F) (fun _ i _ => n - (intOf i).toNat)
  case atStart => exact ⟨0, F, Nat.zero_le _, rfl, hK, World.ownsRow_nil _ _ _ _, fun g hg => (by cases hg), (C.since hK).size, Nat.le_refl _⟩
  case round =>
    clear hK
    obtain ⟨t, F', htn, rfl, hst⟩ := hrel
    obtain ⟨vo, vk, hvf⟩ := own4_form hst.own
    subst hvf
    have hbw := C.since hst.K
    by_cases htl : t < n
    · have hti : (t : Int) < (n : Int) := by omega
      have q3 := hst.tick HG.out HP.out (show t < 1000000 by omega)
      have hB1 := hst.B1
      obtain ⟨⟨x0, x1, x2, x3⟩, hev⟩ : ∃ x, evK p (kT p t) = x := ⟨_, rfl⟩
      have HEV : Hid (evK p (kT p t) = (x0, x1, x2, x3)) := hev
      rw [hev] at q3
      clear hev hst hbw
      go_wp2_with (first
        | (go_at_call 26; refine q3.mono ?_; rintro e w3 ⟨rfl, F3, hK3, own3, ap3, sz3⟩; clear q3)
        | (at_builtin; refine wpList_append_at _ rfl _ _ 27 rfl w1.heap.size 32 jj _ 4 32 Tryz.underlying27 hj hy0 hy1 hy2 rfl (by decide) _ _ _ rfl (own3.alloc _) ⟨w3.heap.size, 0, none⟩ 1 1 [.int .i64 x0, .int .i64 x1, .int .i64 x2, .int .i64 x3] rfl rfl ?c1A ?c2A ?c3A ?c4A ?c5A ?_))
      case c1A => exact wr_new rfl _ _ _ _ _
      case c2A => exact four_one _ _ _ _
      case c3A => unfold maxLen; omega
      case c4A => omega
      case c5A => simp; omega
      intro v1 w8 own8 hg8 hnw8
      have hb4 : Below w3.heap.size w3 (w3.alloc (.cells #[.int .i64 x0, .int .i64 x1, .int .i64 x2, .int .i64 x3] 32)) := (Below.refl _ _).alloc (Nat.le_refl _) _
      have HN8 : Hid (TrK C W0 w8 p (.slice ca p.code.length cc) (.slice sa p.spans.length sc) (.slice wa p.wires.length wc') kb w1.heap.size (t + 1) v1 F3) := by
        refine trk_more hK3 own3 ap3 hB1 sz3 hb4 hg8 ?_ (fun k hk => by simpa using hnw8 k hk)
        rw [HEV.out]
        exact own8
      clear own8 hg8 hnw8 own3 hK3 ap3
      go_wp2
      go_roundw
      case rel => exact ⟨t + 1, F3, by omega, by go_num, HN8.out⟩
      case measure => simp [intOf]; omega
    · obtain rfl : t = n := by omega
      have hti : decide ((t : Int) < (t : Int)) = false := decide_eq_false (by omega)
      have HS : Hid (Wrs wr (.slice vo t vk) (runL p t)) := evs_of_own (by rw [runL_len]; exact hst.own)
      have HB' : Hid (Below W.heap.size W wr) := hA.trans (hbw.mono hA.size)
      clear hst
      go_wp2
      go_ret2
      exact ⟨_, rfl, HS.out, HB'.out⟩
/-- Run does what the laws of traces ask of it. -/
theorem trc_run {G : World → Prop} (C : KerC G) : TrcRun G := fun p vc vs vw n W hG hP => by
  by_cases hp : plchk p = 0
  · by_cases hn : n < 0 ∨ 2000 < n
    · have he : trE p n = 1 := by unfold trE; rw [if_pos hp, if_pos hn]
      unfold trV
      rw [he]
      refine (trun_n C p vc vs vw n W hG hP hp hn).mono ?_
      rintro e w' ⟨rfl, hb⟩
      exact ⟨_, rfl, Or.inl ⟨rfl, _, _, rfl⟩, hb⟩
    · obtain ⟨n, rfl⟩ : ∃ m : Nat, n = m := ⟨n.toNat, by omega⟩
      have he : trE p (n : Int) = 0 := by unfold trE; rw [if_pos hp, if_neg hn]
      unfold trV
      rw [he, if_pos rfl, Int.toNat_natCast]
      exact trun_ok C p vc vs vw n W hG hP hp (by omega)
  · have he : trE p n = plchk p := by unfold trE; rw [if_neg hp]
    unfold trV
    rw [he, if_neg hp]
    refine (trun_wrong C p vc vs vw n W hG hP hp).mono ?_
    rintro e w' ⟨rfl, hb⟩
    exact ⟨_, rfl, Or.inl ⟨rfl, _, _, rfl⟩, hb⟩
end Go.Proofs.YtfconbblnmbnpahGreatDoor

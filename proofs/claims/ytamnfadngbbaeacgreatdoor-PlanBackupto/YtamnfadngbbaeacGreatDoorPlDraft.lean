/-
  A draft in the world: the plan that is being read, and the kind of its last line; what a step leaves alone.
-/
import Derived.Test.YtamnfadngbbaeacGreatDoorPlKept
import Derived.Test.YtamnfadngbbaeacGreatDoorDraftA
import Derived.Test.YtamnfadngbbaeacGreatDoorRangeState
namespace Go.Proofs.YtamnfadngbbaeacGreatDoor
open Go.RowKit

structure Dr (w : World) (base pb : Nat) (d : PD) (k : Nat) (vc vs vw : Value) (us : List Value) : Prop where
  rp : RP w base pb d vc vs vw us
  c4 : w.cell? ⟨pb, 4, none⟩ = some (.int .i64 k)
  f1 : w.frozen? ⟨pb, 1, none⟩ = false
  f4 : w.frozen? ⟨pb, 4, none⟩ = false
theorem Dr.below {w w' : World} {base pb : Nat} {d : PD} {k : Nat} {vc vs vw : Value} {us : List Value} (h : Dr w base pb d k vc vs vw us) (hb : Below w.heap.size w w') : Dr w' base pb d k vc vs vw us := by
  have hpb : pb < w.heap.size := Nat.lt_of_lt_of_le h.rp.lt h.rp.le
  exact ⟨h.rp.below hb, (hb.cell (p := ⟨pb, 4, none⟩) hpb).trans h.c4, (hb.frozen (p := ⟨pb, 1, none⟩) hpb).trans h.f1, (hb.frozen (p := ⟨pb, 4, none⟩) hpb).trans h.f4⟩
theorem Dr.drew {w : World} {base pb : Nat} {d : PD} {k : Nat} {vc vs vw : Value} {us : List Value} (h : Dr w base pb d k vc vs vw us) : Dr w.drew base pb d k vc vs vw us := h.below (Below.refl _ _).drew
/-- What a step on a draft leaves alone. -/
structure Tk (base pb : Nat) (W W' : World) : Prop where
  others : KeepsOthers W W'
  blk : ∀ k, k < base → k ≠ pb → W'.heap[k]? = W.heap[k]?
  low : Below pb W W'
theorem Tk.refl (base pb : Nat) (W : World) : Tk base pb W W := ⟨KeepsOthers.refl W, fun _ _ _ => rfl, Below.refl _ _⟩
theorem Tk.trans {base pb : Nat} {A B C : World} (h : Tk base pb A B) (k : Tk base pb B C) : Tk base pb A C := ⟨h.others.trans k.others, fun j h1 h2 => (k.blk j h1 h2).trans (h.blk j h1 h2), h.low.trans k.low⟩
theorem Tk.of_below {base pb : Nat} {W W' : World} (hb : Below W.heap.size W W') (h1 : base ≤ W.heap.size) (h2 : pb < base) : Tk base pb W W' :=
  ⟨⟨hb.size, fun k _ hk _ => (hb.block k (Array.getElem?_eq_some_iff.1 hk).1).trans hk⟩, fun k hk _ => hb.block k (by omega), hb.mono (by omega)⟩
theorem Tk.set (base : Nat) {pb : Nat} (W : World) (i : Nat) (v : Value) : Tk base pb W (W.setCell ⟨pb, i, none⟩ v) :=
  ⟨KeepsOthers.setCell _ _ _, fun _ _ hk => Below.heap_setCell _ _ _ _ hk, (Below.refl _ _).setCell (p := ⟨pb, i, none⟩) (Nat.le_refl _) _⟩
theorem Tk.setRow {base pb : Nat} (W : World) {g : Nat} (hg : base ≤ g) (h : pb < base) (i : Nat) (v : Value) : Tk base pb W (W.setCell ⟨g, i, none⟩ v) :=
  ⟨KeepsOthers.setCell _ _ _, fun k hk _ => Below.heap_setCell _ _ _ _ (show k ≠ g by omega), (Below.refl _ _).setCell (p := ⟨g, i, none⟩) (show pb ≤ g by omega) _⟩
theorem Tk.grown {base pb : Nat} {W W' : World} {e : TypeId} {size n : Nat} {v : Value} {xs : List Value} (hown : W.ownsRow base e size v n xs) (hg : W.grownBy W' v.ownBlock) (h1 : base ≤ W.heap.size) (h2 : pb < base) : Tk base pb W W' := by
  have hrow : ∀ j, v.ownBlock = some j → base ≤ j ∧ ∃ c fz, W.heap[j]? = some (.cells c e fz) := fun j hj => by
    refine ⟨(hown.lt j hj).1, ?_⟩
    rcases hown.2 with ⟨hv, _⟩ | ⟨g, cap, cur, hv, _, hgc, _⟩
    · rw [hv] at hj; cases hj
    · rw [hv] at hj
      simp only [Value.ownBlock, Option.some.injEq] at hj
      exact ⟨_, _, by rw [← hj]; exact hgc⟩
  refine ⟨⟨hg.size, fun k o hk ho => ?_⟩, fun k hk _ => hg.block k (by omega) (fun e' => by have := (hrow k e'.symm).1; omega), (Below.refl pb W).grown hg (by omega) (fun j hj => by have := (hrow j hj).1; omega)⟩
  refine (hg.block k (Array.getElem?_eq_some_iff.1 hk).1 (fun e' => ?_)).trans hk
  obtain ⟨_, c, fz, hc⟩ := hrow k e'.symm
  rw [hc] at hk
  cases hk
  cases ho
/-- The last line's kind is written. -/
theorem Dr.last {w : World} {base pb : Nat} {d : PD} {k : Nat} {vc vs vw : Value} {us : List Value} (h : Dr w base pb d k vc vs vw us) (k' : Nat) : Dr (w.setCell ⟨pb, 4, none⟩ (.int .i64 k')) base pb d k' vc vs vw us := by
  have h0 := h.rp
  refine ⟨⟨by simpa [go_sem] using h0.c0, by simpa [go_sem] using h0.c1, by simpa [go_sem] using h0.c2, by simpa [go_sem] using h0.c3, by simpa using h0.f0, by simpa using h0.f2, by simpa using h0.f3, h0.lt, by simpa using h0.le, ?_, ?_, ?_, fun i u c hu hc => ?_, h0.apart⟩, by simp [go_sem, h.c4], by simpa using h.f1, by simpa using h.f4⟩
  · exact ownsRow_setCell_below h0.spans (a := ⟨pb, 4, none⟩) h0.lt _
  · exact ownsRow_setCell_below h0.wires (a := ⟨pb, 4, none⟩) h0.lt _
  · exact ownsRow_setCell_below h0.code (a := ⟨pb, 4, none⟩) h0.lt _
  · exact ownsRow_setCell_below (h0.rows i u c hu hc) (a := ⟨pb, 4, none⟩) h0.lt _
/-- The ticks are written. -/
theorem Dr.tick {w : World} {base pb : Nat} {d : PD} {k : Nat} {vc vs vw : Value} {us : List Value} (h : Dr w base pb d k vc vs vw us) (n : Int) : Dr (w.setCell ⟨pb, 1, none⟩ (.int .i64 n)) base pb ⟨d.code, n, d.spans, d.wires⟩ k vc vs vw us := by
  have h0 := h.rp
  refine ⟨⟨by simpa [go_sem] using h0.c0, by simp [go_sem, h0.c1], by simpa [go_sem] using h0.c2, by simpa [go_sem] using h0.c3, by simpa using h0.f0, by simpa using h0.f2, by simpa using h0.f3, h0.lt, by simpa using h0.le, ?_, ?_, ?_, fun i u c hu hc => ?_, h0.apart⟩, by simpa [go_sem] using h.c4, by simpa using h.f1, by simpa using h.f4⟩
  · exact ownsRow_setCell_below h0.spans (a := ⟨pb, 1, none⟩) h0.lt _
  · exact ownsRow_setCell_below h0.wires (a := ⟨pb, 1, none⟩) h0.lt _
  · exact ownsRow_setCell_below h0.code (a := ⟨pb, 1, none⟩) h0.lt _
  · exact ownsRow_setCell_below (h0.rows i u c hu hc) (a := ⟨pb, 1, none⟩) h0.lt _
/-- The box in the world where a row has grown. -/
theorem Dr.box {w wa : World} {base pb : Nat} {d : PD} {k : Nat} {vc vs vw : Value} {us : List Value} (h : Dr w base pb d k vc vs vw us) {row : Option Nat} (hg : w.grownBy wa row) (hr : ∀ j, row = some j → base ≤ j) :
    (wa.cell? ⟨pb, 0, none⟩ = some vc ∧ wa.cell? ⟨pb, 2, none⟩ = some vs ∧ wa.cell? ⟨pb, 3, none⟩ = some vw ∧ wa.cell? ⟨pb, 4, none⟩ = some (.int .i64 k)) ∧ wa.frozen? ⟨pb, 0, none⟩ = false ∧ wa.frozen? ⟨pb, 2, none⟩ = false ∧ wa.frozen? ⟨pb, 3, none⟩ = false ∧ wa.frozen? ⟨pb, 1, none⟩ = false ∧ wa.frozen? ⟨pb, 4, none⟩ = false := by
  obtain ⟨hc, hf, _⟩ := h.rp.box hg hr
  exact ⟨⟨(hc 0).trans h.rp.c0, (hc 2).trans h.rp.c2, (hc 3).trans h.rp.c3, (hc 4).trans h.c4⟩, (hf 0).trans h.rp.f0, (hf 2).trans h.rp.f2, (hf 3).trans h.rp.f3, (hf 1).trans h.f1, (hf 4).trans h.f4⟩
theorem Dr.span {w wa : World} {base pb : Nat} {d : PD} {k : Nat} {vc vs vw v' : Value} {us : List Value} {s : S3} (h : Dr w base pb d k vc vs vw us) (hg : w.grownBy wa vs.ownBlock) (own : wa.ownsRow base 45 3 v' (d.spans.length + 1) (spCells d.spans ++ [.int .i64 s.1, .int .i64 s.2.1, .int .i64 s.2.2])) :
    Dr (wa.setCell ⟨pb, 2, none⟩ v') base pb ⟨d.code, d.ticks, d.spans ++ [s], d.wires⟩ k vc v' vw us := by
  obtain ⟨⟨_, _, _, c4⟩, _, _, _, f1, f4⟩ := h.box hg (fun j hj => (h.rp.spans.lt j hj).1)
  exact ⟨h.rp.span hg own, by simpa [go_sem] using c4, by simpa using f1, by simpa using f4⟩
theorem Dr.wire {w wa : World} {base pb : Nat} {d : PD} {k : Nat} {vc vs vw v' : Value} {us : List Value} {s : W4} (h : Dr w base pb d k vc vs vw us) (hg : w.grownBy wa vw.ownBlock) (own : wa.ownsRow base 47 4 v' (d.wires.length + 1) (wrCells d.wires ++ [.int .i64 s.1, .int .i64 s.2.1, .int .i64 s.2.2.1, .int .i64 s.2.2.2])) :
    Dr (wa.setCell ⟨pb, 3, none⟩ v') base pb ⟨d.code, d.ticks, d.spans, d.wires ++ [s]⟩ k vc vs v' us := by
  obtain ⟨⟨_, _, _, c4⟩, _, _, _, f1, f4⟩ := h.box hg (fun j hj => (h.rp.wires.lt j hj).1)
  exact ⟨h.rp.wire hg own, by simpa [go_sem] using c4, by simpa using f1, by simpa using f4⟩
theorem Dr.room {w wa : World} {base pb : Nat} {d : PD} {k : Nat} {vc vs vw v' : Value} {us : List Value} (h : Dr w base pb d k vc vs vw us) (hg : w.grownBy wa vc.ownBlock) (own : wa.ownsRow base 49 1 v' (d.code.length + 1) (us ++ [.slice none 0 0])) :
    Dr (wa.setCell ⟨pb, 0, none⟩ v') base pb ⟨d.code ++ [[]], d.ticks, d.spans, d.wires⟩ k v' vs vw (us ++ [.slice none 0 0]) := by
  obtain ⟨⟨_, _, _, c4⟩, _, _, _, f1, f4⟩ := h.box hg (fun j hj => (h.rp.code.lt j hj).1)
  exact ⟨h.rp.room hg own, by simpa [go_sem] using c4, by simpa using f1, by simpa using f4⟩
theorem Dr.op {w wa : World} {base pb g cap : Nat} {d : PD} {k : Nat} {vs vw u u' : Value} {us : List Value} {c : List O3} {o : O3} {L : Nat} (h : Dr w base pb d k (.slice (some ⟨g, 0, none⟩) d.code.length cap) vs vw us) (hL : L + 1 = d.code.length) (hu : us[L]? = some u) (hcL : d.code[L]? = some c)
    (hg : w.grownBy wa u.ownBlock) (own : wa.ownsRow base 73 3 u' (c.length + 1) (cells3 c ++ [.int .i64 o.1, .int .i64 o.2.1, .int .i64 o.2.2])) (hat : ∀ k, u'.ownBlock = some k → u.ownBlock = some k ∨ w.heap.size ≤ k) :
    Dr (wa.setCell ⟨g, L, none⟩ u') base pb ⟨d.code.set L (c ++ [o]), d.ticks, d.spans, d.wires⟩ k (.slice (some ⟨g, 0, none⟩) d.code.length cap) vs vw (us.set L u') := by
  have hrow := h.rp.rows L u c hu hcL
  obtain ⟨⟨_, _, _, c4⟩, _, _, _, f1, f4⟩ := h.box hg (fun j hj => (hrow.lt j hj).1)
  have hgb : base ≤ g := (h.rp.code.lt g rfl).1
  have hne : pb ≠ g := by have := h.rp.lt; omega
  have hcell : ∀ o', (wa.setCell ⟨g, L, none⟩ u').cell? ⟨pb, o', none⟩ = wa.cell? ⟨pb, o', none⟩ := fun o' => World.cell?_of_block (w := wa) (a := ⟨pb, o', none⟩) (Below.heap_setCell _ _ _ _ hne)
  exact ⟨h.rp.op hL hu hcL hg own hat, (hcell 4).trans c4, by simpa using f1, by simpa using f4⟩
end Go.Proofs.YtamnfadngbbaeacGreatDoor

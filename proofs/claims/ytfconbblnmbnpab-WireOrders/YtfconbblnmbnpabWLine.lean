/-
  A line of package wire in the world: its cells, the numbers that it holds (a row that the call owns), and what a call on it may change.
-/
import Derived.Test.YtfconbblnmbnpabWCheck
import Derived.Test.YtfconbblnmbnpabRowL
namespace Go.Proofs.Ytfconbblnmbnpab
open Go.RowKit

/-- The cells of a line. -/
def LnC (w : World) (b : Nat) (kd dp ls : Int) (v : Value) : Prop := w.cell? ⟨b, 0, none⟩ = some (.int .i64 kd) ∧ w.cell? ⟨b, 1, none⟩ = some (.int .i64 dp) ∧ w.cell? ⟨b, 2, none⟩ = some v ∧ w.cell? ⟨b, 3, none⟩ = some (.int .i64 ls) ∧ w.frozen? ⟨b, 2, none⟩ = false ∧ w.frozen? ⟨b, 3, none⟩ = false
/-- A line that the call owns: its block lies ahead of 'base', its numbers in a row of their own from 'base' on. -/
structure Ln (w : World) (base b : Nat) (kd dp : Int) (xs : List Int) (ls : Int) (v : Value) : Prop where
  c : LnC w b kd dp ls v
  row : w.ownsRow base 3 1 v xs.length (ints xs)
  lt : b < base
  le : base ≤ w.heap.size
/-- What a call on a line changes: its block, the row of its numbers; and it makes memory. -/
structure Touch (w w' : World) (b : Nat) (v v' : Value) : Prop where
  os : w'.os = w.os
  tape : w'.tape = w.tape
  output : w'.output = w.output
  size : w.heap.size ≤ w'.heap.size
  block : ∀ k, k < w.heap.size → k ≠ b → some k ≠ v.ownBlock → w'.heap[k]? = w.heap[k]?
  new : ∀ k, v'.ownBlock = some k → v.ownBlock = some k ∨ w.heap.size ≤ k
theorem Touch.refl (w : World) (b : Nat) (v : Value) : Touch w w b v v := ⟨rfl, rfl, rfl, Nat.le_refl _, fun _ _ _ _ => rfl, fun _ h => Or.inl h⟩
theorem Touch.below {w w' : World} {b B : Nat} {v v' : Value} (h : Touch w w' b v v') (hb : B ≤ b) (hv : ∀ k, v.ownBlock = some k → B ≤ k) (hB : B ≤ w.heap.size) : Below B w w' :=
  ⟨h.os, h.tape, h.output, h.size, fun k hk => h.block k (by omega) (by omega) (fun e => by have := hv k e.symm; omega)⟩
theorem Touch.alloc {w w' : World} {b : Nat} {v v' : Value} (h : Touch w w' b v v') (o : Obj) : Touch w (w'.alloc o) b v v' :=
  ⟨h.os, h.tape, h.output, by have := h.size; simp; omega, fun k hk hb hv => by rw [Below.heap_alloc _ _ _ (Nat.lt_of_lt_of_le hk h.size)]; exact h.block k hk hb hv, h.new⟩
theorem Touch.drew {w w' : World} {b : Nat} {v v' : Value} (h : Touch w w' b v v') : Touch w w'.drew b v v' := ⟨h.os, h.tape, h.output, h.size, h.block, h.new⟩
theorem Touch.set {w w' : World} {b : Nat} {v v' : Value} (h : Touch w w' b v v') (i : Nat) (u : Value) : Touch w (w'.setCell ⟨b, i, none⟩ u) b v v' :=
  ⟨h.os, h.tape, h.output, by have := h.size; simpa using this, fun k hk hb hv => by rw [Below.heap_setCell _ _ _ _ hb]; exact h.block k hk hb hv, h.new⟩
theorem Touch.cut {w w' : World} {b : Nat} {v v' v2 : Value} (h : Touch w w' b v v') (he : v2.ownBlock = v'.ownBlock) : Touch w w' b v v2 := ⟨h.os, h.tape, h.output, h.size, h.block, by rw [he]; exact h.new⟩
theorem Touch.grown {w w' w2 : World} {b : Nat} {v v' v2 : Value} (h : Touch w w' b v v') (hg : w'.grownBy w2 v'.ownBlock) (hn : ∀ k, v2.ownBlock = some k → v'.ownBlock = some k ∨ w'.heap.size ≤ k) : Touch w w2 b v v2 :=
  ⟨hg.os.trans h.os, hg.tape.trans h.tape, hg.output.trans h.output, Nat.le_trans h.size hg.size, fun k hk hb hv => by
    rw [hg.block k (Nat.lt_of_lt_of_le hk h.size) (fun e => by rcases h.new k e.symm with h1 | h1; exact hv h1.symm; omega)]
    exact h.block k hk hb hv,
   fun k hk => by rcases hn k hk with h1 | h1; exact h.new k h1; right; have := h.size; omega⟩
theorem Touch.dN {w w' : World} {b : Nat} {v v' : Value} (h : Touch w w' b v v') : ∀ n, Touch w (w'.drewN n) b v v'
  | 0 => h
  | n + 1 => (Touch.dN h n).drew
theorem LnC.block {w w' : World} {b : Nat} {kd dp ls : Int} {v : Value} (h : LnC w b kd dp ls v) (hb : w'.heap[b]? = w.heap[b]?) : LnC w' b kd dp ls v := by
  have hc := fun o => World.cell?_of_block (w := w) (w' := w') (a := ⟨b, o, none⟩) hb
  have hf := fun o => World.frozen?_of_block (w := w) (w' := w') (a := ⟨b, o, none⟩) hb
  unfold LnC
  simp only [hc, hf]
  exact h
theorem LnC.items {w : World} {b : Nat} {kd dp ls : Int} {v : Value} (h : LnC w b kd dp ls v) (u : Value) : LnC (w.setCell ⟨b, 2, none⟩ u) b kd dp ls u := by
  obtain ⟨c0, c1, c2, c3, f2, f3⟩ := h
  refine ⟨?_, ?_, ?_, ?_, ?_, ?_⟩ <;> simp [go_sem, c0, c1, c2, c3, f2, f3]
theorem LnC.lost {w : World} {b : Nat} {kd dp ls : Int} {v : Value} (h : LnC w b kd dp ls v) (n : Int) : LnC (w.setCell ⟨b, 3, none⟩ (.int .i64 n)) b kd dp n v := by
  obtain ⟨c0, c1, c2, c3, f2, f3⟩ := h
  refine ⟨?_, ?_, ?_, ?_, ?_, ?_⟩ <;> simp [go_sem, c0, c1, c2, c3, f2, f3]
theorem LnC.lt {w : World} {b : Nat} {kd dp ls : Int} {v : Value} (h : LnC w b kd dp ls v) : b < w.heap.size := wlt h.1
theorem LnC.below {w w' : World} {b B : Nat} {kd dp ls : Int} {v : Value} (h : LnC w b kd dp ls v) (hb : Below B w w') (hB : b < B) : LnC w' b kd dp ls v := h.block (hb.block b hB)
theorem Ln.below {w w' : World} {base b : Nat} {kd dp ls : Int} {xs : List Int} {v : Value} (h : Ln w base b kd dp xs ls v) (hb : Below w.heap.size w w') : Ln w' base b kd dp xs ls v :=
  ⟨h.c.below hb (Nat.lt_of_lt_of_le h.lt h.le), own_below h.row hb (Nat.le_refl _), h.lt, Nat.le_trans h.le hb.size⟩
theorem Ln.own {w : World} {base b : Nat} {kd dp ls : Int} {xs : List Int} {v : Value} (h : Ln w base b kd dp xs ls v) {B : Nat} (hB : B ≤ base) : ∀ k, v.ownBlock = some k → B ≤ k := fun k hk => Nat.le_trans hB (h.row.lt k hk).1
end Go.Proofs.Ytfconbblnmbnpab

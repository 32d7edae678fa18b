/-
  What walks over code and texts ask alike, of no package: code in the world, numbers in the world; an error, an op as values.
-/
import Derived.Test.YtamnfadngbbaeadDoorRows
import Derived.Test.YtamnfadngbbaeadDoorTextMath
import Derived.WalkKit
namespace Go.Proofs.YtamnfadngbbaeadDoor
open Go.RowKit

def sv (l : List UInt8) : Value := .string ⟨l.toArray⟩
theorem lt_of_cell {w : World} {b o : Nat} {v : Value} (h : w.cell? ⟨b, o, none⟩ = some v) : b < w.heap.size := by
  rcases Nat.lt_or_ge b w.heap.size with h' | h'
  · exact h'
  · simp [World.cell?, Array.getElem?_eq_none h'] at h
theorem bcell {W w1 : World} (hb : Below W.heap.size W w1) : (∀ b o, b < W.heap.size → w1.cell? ⟨b, o, none⟩ = W.cell? ⟨b, o, none⟩) ∧ (∀ b o, b < W.heap.size → w1.frozen? ⟨b, o, none⟩ = W.frozen? ⟨b, o, none⟩) :=
  ⟨fun b o h => hb.cell (p := ⟨b, o, none⟩) h, fun b o h => hb.frozen (p := ⟨b, o, none⟩) h⟩
theorem ret_bool {a b : Bool} (h : a = b) : Ending.returned (.bool a) = .returned (.bool b) := by rw [h]
theorem ret_int {k : IntKind} {a b : Int} (h : a = b) : Ending.returned (.int k a) = .returned (.int k b) := by rw [h]
/-- An op as a value. -/
def opV (n a b : Int) : Value := .agg #[.int .i64 n, .int .i64 a, .int .i64 b]
theorem grown_of_below {w w' : World} (h : Below w.heap.size w w') : w.grownBy w' none := ⟨h.os, h.tape, h.output, h.size, fun k hk _ => h.block k hk⟩
theorem own_all {w w' : World} {base : Nat} {e : TypeId} {size : Nat} {v : Value} {n : Nat} {xs : List Value} (h : w.ownsRow base e size v n xs) (hb : Below w.heap.size w w') : w'.ownsRow base e size v n xs :=
  h.kept (grown_of_below hb) (by cases v.ownBlock <;> simp)
/-- A slice of numbers that can be read in the world. -/
def Ints (w : World) (v : Value) (zs : List Int) : Prop :=
  (v = .slice none 0 0 ∧ zs = []) ∨ ∃ a cap, v = .slice (some a) zs.length cap ∧ a.block < w.heap.size ∧ ∀ (i : Nat) z, zs[i]? = some z → w.cell? (a.add i) = some (.int .i64 z)
/-- Code that can be read in the world. -/
def Ops (w : World) (v : Value) (l : List O3) : Prop :=
  (l = [] ∧ ∃ ao cap, v = .slice ao 0 cap) ∨
  ∃ b off cap, v = .slice (some ⟨b, off, none⟩) l.length cap ∧ b < w.heap.size ∧
    ∀ (i : Nat) o, l[i]? = some o → w.cell? ⟨b, off + i * 3, none⟩ = some (.int .i64 o.1) ∧ w.cell? ⟨b, off + i * 3 + 1, none⟩ = some (.int .i64 o.2.1) ∧ w.cell? ⟨b, off + i * 3 + 2, none⟩ = some (.int .i64 o.2.2)
theorem Ops.all {w w' : World} {v : Value} {l : List O3} (h : Ops w v l) (hb : Below w.heap.size w w') : Ops w' v l := by
  rcases h with h | ⟨b, off, cap, rfl, hlt, hc⟩
  · exact Or.inl h
  · exact Or.inr ⟨b, off, cap, rfl, Nat.lt_of_lt_of_le hlt hb.size, fun i o ho => by
      obtain ⟨h0, h1, h2⟩ := hc i o ho
      exact ⟨(hb.cell (p := ⟨b, _, none⟩) hlt).trans h0, (hb.cell (p := ⟨b, _, none⟩) hlt).trans h1, (hb.cell (p := ⟨b, _, none⟩) hlt).trans h2⟩⟩
theorem Ops.form {w : World} {v : Value} {l : List O3} (h : Ops w v l) : ∃ ao cap, v = .slice ao l.length cap := by
  rcases h with ⟨rfl, ao, cap, rfl⟩ | ⟨b, off, cap, rfl, _⟩
  · exact ⟨ao, cap, rfl⟩
  · exact ⟨_, cap, rfl⟩
/-- An error as a value. -/
def errV (e : Int) : Value := if e = 0 then .nilIface else .iface 38 (.int .i64 e)
theorem add_block (a : Addr) (k : Nat) : (a.add k).block = a.block := by unfold Addr.add; split <;> rfl
theorem infoIntC : (Tryd.prog.info? 3).map (fun i => (i.zero, i.size, i.bytes)) = some (some (.int .i64 0), 1, 8) := by kernel_rfl
theorem ints_of_own {w : World} {base : Nat} {v : Value} {zs : List Int} (h : w.ownsRow base 3 1 v zs.length (zs.map (Value.int .i64))) : Ints w v zs := by
  have hl := h.lt
  have hcs := @World.ownsRow.cells _ _ _ _ _ _ _ h
  rcases h.2 with ⟨rfl, h0⟩ | ⟨g, cap, cur, rfl, _⟩
  · exact Or.inl ⟨rfl, List.eq_nil_of_length_eq_zero h0⟩
  · refine Or.inr ⟨⟨g, 0, none⟩, cap, rfl, (hl g rfl).2, fun i z hz => ?_⟩
    exact hcs rfl i _ (by simp [hz])
theorem ints_all {w w' : World} {v : Value} {zs : List Int} (h : Ints w v zs) (hb : Below w.heap.size w w') : Ints w' v zs := by
  rcases h with h | ⟨a, cap, rfl, ha, hc⟩
  · exact Or.inl h
  · exact Or.inr ⟨a, cap, rfl, Nat.lt_of_lt_of_le ha hb.size, fun i z hz => (hb.cell (p := a.add i) (by rw [add_block]; exact ha)).trans (hc i z hz)⟩
/-- The box of an op that code.read lays at its head, in a later world. -/
theorem op_box {w w1 : World} {x y z : Value} (b1 : Below (w.heap.size + 1) (w.alloc (.cells #[x, y, z] 25)) w1) :
    w1.cell? ⟨w.heap.size, 0, none⟩ = some x ∧ w1.cell? ⟨w.heap.size, 1, none⟩ = some y ∧ w1.cell? ⟨w.heap.size, 2, none⟩ = some z ∧ w1.frozen? ⟨w.heap.size, 0, none⟩ = false ∧ w1.frozen? ⟨w.heap.size, 1, none⟩ = false ∧ w1.frozen? ⟨w.heap.size, 2, none⟩ = false ∧ Below w.heap.size w w1 :=
  ⟨(b1.cell (p := ⟨w.heap.size, 0, none⟩) (by simp)).trans (by simp), (b1.cell (p := ⟨w.heap.size, 1, none⟩) (by simp)).trans (by simp), (b1.cell (p := ⟨w.heap.size, 2, none⟩) (by simp)).trans (by simp),
   (b1.frozen (p := ⟨w.heap.size, 0, none⟩) (by simp)).trans (by simp), (b1.frozen (p := ⟨w.heap.size, 1, none⟩) (by simp)).trans (by simp), (b1.frozen (p := ⟨w.heap.size, 2, none⟩) (by simp)).trans (by simp),
   ((Below.refl _ w).alloc (Nat.le_refl _) _).trans (b1.mono (by omega))⟩
def opRes : Option O3 → Value
  | some o => .tuple #[.agg #[.int .i64 o.1, .int .i64 o.2.1, .int .i64 o.2.2], .bool true]
  | none => .tuple #[.agg #[.int .i64 0, .int .i64 0, .int .i64 0], .bool false]
def numV (l : List UInt8) : Value := .tuple #[.int .i64 ((numB l).getD 0), .bool (numB l).isSome]
theorem slice_form {w : World} {base t n k : Nat} {v : Value} {cs : List Value} (R : w.ownsRow base t k v n cs) : ∃ g n' cap, v = .slice g n' cap := by
  rcases R.2 with ⟨h, _⟩ | ⟨g, cap, cur, h, _⟩
  · exact ⟨_, _, _, h⟩
  · exact ⟨_, _, _, h⟩

end Go.Proofs.YtamnfadngbbaeadDoor

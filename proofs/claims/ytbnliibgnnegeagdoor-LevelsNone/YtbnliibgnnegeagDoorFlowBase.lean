/-
  Wires that can be read in the world.
-/
import Derived.Test.YtbnliibgnnegeagDoorFlowMath
import Derived.Test.YtbnliibgnnegeagDoorWVal
namespace Go.Proofs.YtbnliibgnnegeagDoor
open Go.RowKit

/-- The cells of wires. -/
def WrC (w : World) (b off : Nat) (l : List W4) : Prop := ∀ (i : Nat) x, l[i]? = some x → w.cell? ⟨b, off + i * 4, none⟩ = some (.int .i64 x.1) ∧ w.cell? ⟨b, off + i * 4 + 1, none⟩ = some (.int .i64 x.2.1) ∧ w.cell? ⟨b, off + i * 4 + 2, none⟩ = some (.int .i64 x.2.2.1) ∧ w.cell? ⟨b, off + i * 4 + 3, none⟩ = some (.int .i64 x.2.2.2)
/-- Wires that can be read. -/
def Wrs (w : World) (v : Value) (l : List W4) : Prop :=
  (l = [] ∧ ∃ ao cap, v = .slice ao 0 cap) ∨ ∃ b off cap, v = .slice (some ⟨b, off, none⟩) l.length cap ∧ l.length ≤ cap ∧ b < w.heap.size ∧ WrC w b off l
theorem WrC.below {w w' : World} {b off B : Nat} {l : List W4} (h : WrC w b off l) (hb : Below B w w') (hlt : b < B) : WrC w' b off l := fun i o ho => by
  obtain ⟨h0, h1, h2, h3⟩ := h i o ho
  exact ⟨(hb.cell (p := ⟨b, _, none⟩) hlt).trans h0, (hb.cell (p := ⟨b, _, none⟩) hlt).trans h1, (hb.cell (p := ⟨b, _, none⟩) hlt).trans h2, (hb.cell (p := ⟨b, _, none⟩) hlt).trans h3⟩
theorem Wrs.all {w w' : World} {v : Value} {l : List W4} (h : Wrs w v l) (hb : Below w.heap.size w w') : Wrs w' v l := by
  rcases h with h | ⟨b, off, cap, rfl, hcap, hlt, hc⟩
  · exact Or.inl h
  · exact Or.inr ⟨b, off, cap, rfl, hcap, Nat.lt_of_lt_of_le hlt hb.size, hc.below hb hlt⟩
theorem Wrs.form {w : World} {v : Value} {l : List W4} (h : Wrs w v l) : ∃ ao cap, v = .slice ao l.length cap := by
  rcases h with ⟨rfl, ao, cap, rfl⟩ | ⟨b, off, cap, rfl, _⟩
  · exact ⟨ao, cap, rfl⟩
  · exact ⟨_, cap, rfl⟩
theorem Wrs.at {w : World} {ao : Option Addr} {cap : Nat} {l : List W4} (h : Wrs w (.slice ao l.length cap) l) {i : Nat} (hi : i < l.length) : ∃ b off f t k d, ao = some ⟨b, off, none⟩ ∧ b < w.heap.size ∧ l[i]? = some (f, t, k, d) ∧ w.cell? ⟨b, off + i * 4, none⟩ = some (.int .i64 f) ∧ w.cell? ⟨b, off + i * 4 + 1, none⟩ = some (.int .i64 t) ∧ w.cell? ⟨b, off + i * 4 + 2, none⟩ = some (.int .i64 k) ∧ w.cell? ⟨b, off + i * 4 + 3, none⟩ = some (.int .i64 d) := by
  rcases h with ⟨rfl, _⟩ | ⟨b, off, cap', e, _, hlt, hc⟩
  · simp at hi
  · injection e with e1
    obtain ⟨⟨f, t, k, d⟩, hx'⟩ : ∃ x : W4, l[i]? = some x := ⟨l[i], List.getElem?_eq_getElem hi⟩
    obtain ⟨h0, h1, h2, h3⟩ := hc i _ hx'
    exact ⟨b, off, f, t, k, d, e1, hlt, hx', h0, h1, h2, h3⟩
end Go.Proofs.YtbnliibgnnegeagDoor

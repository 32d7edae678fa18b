/-
  The document's ways as a value, laid in a box.
-/
import Derived.Test.YtbnliibgnnegeagDoorRefWays
import Derived.Deep.MidRow
namespace Go.Proofs.YtbnliibgnnegeagDoor
open Go.RowKit

theorem ways_any (l : List W4) (v : Value) (w : World) (hl : Wrs w v l) (hlen : l.length ≤ 12) (hok : ∀ x ∈ l, w4chk x = 0) :
    Calls Tryd.prog 13 #[v] w fun e w' => e = .returned (.agg (wayCells l).toArray) ∧ Below w.heap.size w w' :=
  (refways_any l v w hl hlen hok).mono fun _ _ ⟨he, hb⟩ => ⟨he.trans rfl, hb⟩
/-- Five rows of five, new. -/
def z25 : Array Value := #[.bool false, .bool false, .bool false, .bool false, .bool false, .bool false, .bool false, .bool false, .bool false, .bool false, .bool false, .bool false, .bool false, .bool false, .bool false, .bool false, .bool false, .bool false, .bool false, .bool false, .bool false, .bool false, .bool false, .bool false, .bool false]
theorem mx_new (W : World) (t : TypeId) : Mx (W.alloc (.cells z25 t)) W.heap.size (fun _ _ => false) := by
  unfold z25
  intro x y hx hy
  revert y
  revert x
  refine five ?_ ?_ ?_ ?_ ?_ <;> refine five ?_ ?_ ?_ ?_ ?_ <;> simp
theorem there_new (W : World) (t : TypeId) : (W.alloc (.cells z25 t)).there W.heap.size 0 25 := (mx_new W t).there
theorem ways_cell (W : World) (l : List W4) (t : TypeId) {i k : Nat} (hi : i < 5) (hk : k < 5) : ((W.alloc (.cells z25 t)).setCells W.heap.size 0 (wayCells l)).cell? ⟨W.heap.size, i * 5 + k, none⟩ = some (.bool (way l i k)) := by
  have hr := World.rangeAt_setCells_same (W.alloc (.cells z25 t)) W.heap.size 0 (wayCells l) (there_new W t)
  have := hr (i * 5 + k) (.bool (way l i k)) (by
    unfold wayCells
    rw [List.getElem?_map, List.getElem?_range (by omega), Option.map_some, show (i * 5 + k) / 5 = i by omega, show (i * 5 + k) % 5 = k by omega])
  rwa [Nat.zero_add] at this
end Go.Proofs.YtbnliibgnnegeagDoor

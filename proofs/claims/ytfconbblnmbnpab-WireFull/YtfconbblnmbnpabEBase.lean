/-
  What the walks ask alike: a cell lies in the world; draws; an error as a value.
-/
import Derived.Test.YtfconbblnmbnpabRows
import Derived.WalkKit
import Derived.Deep.QuietTactic
namespace Go.Proofs.Ytfconbblnmbnpab
open Go.RowKit

theorem wlt {w : World} {b o : Nat} {v : Value} (h : w.cell? ⟨b, o, none⟩ = some v) : b < w.heap.size := by
  rcases Nat.lt_or_ge b w.heap.size with h' | h'
  · exact h'
  · simp [World.cell?, Array.getElem?_eq_none h'] at h
theorem below_dN {B : Nat} {w w' : World} (h : Below B w w') : ∀ n, Below B w (w'.drewN n)
  | 0 => h
  | n + 1 => (below_dN h n).drew
/-- An error as a value. -/
def wErr (e : Int) : Value := if e = 0 then .nilIface else .iface 53 (.int .i64 e)
theorem wErr_not {e : Int} (h : e ≠ 0) : wErr e = .iface 53 (.int .i64 e) := by simp [wErr, h]
theorem wretB {a b : Bool} (h : a = b) : Ending.returned (.bool a) = .returned (.bool b) := by rw [h]
theorem wretI {k : IntKind} {a b : Int} (h : a = b) : Ending.returned (.int k a) = .returned (.int k b) := by rw [h]
end Go.Proofs.Ytfconbblnmbnpab

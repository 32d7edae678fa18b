/-
  An index into who reaches whom, as a value.
-/
import Derived.Test.YtbnliibgnnegeagDoorFlRoom
import Derived.Test.YtbnliibgnnegeagDoorFlReached
import Derived.Test.YtbnliibgnnegeagDoorRdL
import Derived.Test.YtbnliibgnnegeagDoorWStp
namespace Go.Proofs.YtbnliibgnnegeagDoor
open Go.RowKit

set_option maxRecDepth 100000 in
theorem index_ways (l : List W4) : ∀ (a : Nat), a < 5 → ∀ w : World, (Instr.index 62 (.agg (wayCells l).toArray) (.int .i64 (a : Int))).run Tryd.prog w = .ok (.agg #[.bool (way l a 0), .bool (way l a 1), .bool (way l a 2), .bool (way l a 3), .bool (way l a 4)]) w := by
  refine five ?_ ?_ ?_ ?_ ?_ <;> exact fun _ => by kernel_rfl
end Go.Proofs.YtbnliibgnnegeagDoor

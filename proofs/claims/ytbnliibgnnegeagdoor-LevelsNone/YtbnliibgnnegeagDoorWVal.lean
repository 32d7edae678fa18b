/-
  A wire as a value.
-/
import Derived.Test.YtbnliibgnnegeagDoorWMath
import Derived.Test.YtbnliibgnnegeagDoorEBase
namespace Go.Proofs.YtbnliibgnnegeagDoor
open Go.RowKit

/-- A wire as a value. -/
def wV (f t k d : Int) : Value := .agg #[.int .i64 f, .int .i64 t, .int .i64 k, .int .i64 d]
end Go.Proofs.YtbnliibgnnegeagDoor

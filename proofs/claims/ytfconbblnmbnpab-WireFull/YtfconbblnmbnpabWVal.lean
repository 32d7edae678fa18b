/-
  A wire as a value.
-/
import Derived.Test.YtfconbblnmbnpabWMath
import Derived.Test.YtfconbblnmbnpabEBase
namespace Go.Proofs.Ytfconbblnmbnpab
open Go.RowKit

/-- A wire as a value. -/
def wV (f t k d : Int) : Value := .agg #[.int .i64 f, .int .i64 t, .int .i64 k, .int .i64 d]
end Go.Proofs.Ytfconbblnmbnpab

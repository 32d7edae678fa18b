/-
  What the laws ask of supply.Least: a contract.
-/
import Derived.Test.YtheenonakbokpahDoorSupM
import Derived.Test.YtheenonakbokpahDoorFBase
import Derived.Test.YtheenonakbokpahDoorEBase
namespace Go.Proofs.YtheenonakbokpahDoor
open Go.RowKit

def SupLeast (G : World → Prop) : Prop := ∀ (n : Int) (l : List S3) (v : Value) (r m : Int) (W : World), G W → Sps W v l → Calls Tryd.prog 5 #[.int .i64 n, v, .int .i64 r, .int .i64 m] W fun e w' => e = .returned (.tuple #[.int .i64 (leastV n l r m), wErr (leastE n l r m)]) ∧ Below W.heap.size W w'
end Go.Proofs.YtheenonakbokpahDoor

/-
  What the laws ask of supply.Turns: a contract.
-/
import Derived.Test.YtheenonakbokpagDoorSupM
import Derived.Test.YtheenonakbokpagDoorFBase
import Derived.Test.YtheenonakbokpagDoorEBase
namespace Go.Proofs.YtheenonakbokpagDoor
open Go.RowKit

def SupTurns (G : World → Prop) : Prop := ∀ (n : Int) (l : List S3) (v : Value) (r f m : Int) (W : World), G W → Sps W v l → Calls Tryd.prog 18 #[.int .i64 n, v, .int .i64 r, .int .i64 f, .int .i64 m] W fun e w' => e = .returned (.tuple #[.int .i64 (turnsV n l r f m), wErr (turnsE n l r f m)]) ∧ Below W.heap.size W w'
end Go.Proofs.YtheenonakbokpagDoor

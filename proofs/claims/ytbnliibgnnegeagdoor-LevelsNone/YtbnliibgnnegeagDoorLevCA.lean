/-
  What the laws ask of levels.Apart: a contract.
-/
import Derived.Test.YtbnliibgnnegeagDoorLevE
namespace Go.Proofs.YtbnliibgnnegeagDoor
open Go.RowKit

def LevApart (G : World → Prop) : Prop := ∀ (l : List W4) (v : Value) (a b : Int) (W : World), G W → Wrs W v l → Calls Tryd.prog 14 #[v, .int .i64 a, .int .i64 b] W fun e w' => e = .returned (.tuple #[.bool (apB l a b), wErr (apE l a b)]) ∧ Below W.heap.size W w'
end Go.Proofs.YtbnliibgnnegeagDoor

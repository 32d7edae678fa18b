/-
  What the laws ask of levels.Rings: a contract.
-/
import Derived.Test.YtbnliibgnnegeagDoorLevE
namespace Go.Proofs.YtbnliibgnnegeagDoor
open Go.RowKit

def LevRings (G : World → Prop) : Prop := ∀ (l : List W4) (v : Value) (W : World), G W → Wrs W v l → Calls Tryd.prog 8 #[v] W fun e w' => ∃ u, e = .returned (.tuple #[u, wErr (wschk l).2]) ∧ Sts w' u (ringsE l) ∧ Below W.heap.size W w'
end Go.Proofs.YtbnliibgnnegeagDoor

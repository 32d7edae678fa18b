/-
  What the laws ask of levels.Least: a contract.
-/
import Derived.Test.YtbnliibgnnegeagDoorLevE
namespace Go.Proofs.YtbnliibgnnegeagDoor
open Go.RowKit

def LevLeast (G : World → Prop) : Prop := ∀ (l : List W4) (v : Value) (W : World), G W → Wrs W v l → Calls Tryd.prog 11 #[v] W fun e w' => ∃ u, e = .returned (.tuple #[u, wErr (wschk l).2]) ∧ Stp w' u (levsE l) ∧ Below W.heap.size W w'
end Go.Proofs.YtbnliibgnnegeagDoor

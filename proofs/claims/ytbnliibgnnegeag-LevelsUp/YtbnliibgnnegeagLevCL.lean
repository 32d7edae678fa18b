/-
  What the laws ask of levels.Least: a contract.
-/
import Derived.Test.YtbnliibgnnegeagLevE
namespace Go.Proofs.Ytbnliibgnnegeag
open Go.RowKit

def LevLeast (G : World → Prop) : Prop := ∀ (l : List W4) (v : Value) (W : World), G W → Wrs W v l → Calls Try.prog 4 #[v] W fun e w' => ∃ u, e = .returned (.tuple #[u, wErr (wschk l).2]) ∧ Stp w' u (levsE l) ∧ Below W.heap.size W w'
end Go.Proofs.Ytbnliibgnnegeag

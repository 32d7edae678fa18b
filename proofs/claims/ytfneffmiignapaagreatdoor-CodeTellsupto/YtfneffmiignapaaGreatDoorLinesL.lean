/-
  strings.Lines: the iterator that it gives.
-/
import Derived.Test.YtfneffmiignapaaGreatDoorSeqs
namespace Go.Proofs.YtfneffmiignapaaGreatDoor
open Go.RowKit Go.Shelf

theorem lines_any (s : ByteArray) (w : World) :
    Calls Tryz.prog 27 #[.string s] w fun e w' => e = .returned (.func (.func 37) #[] #[.pointer (some ⟨w.heap.size, 0, none⟩)]) ∧ w' = w.alloc (.cells #[.string s] 9) := by
  go_enter Tryz.func27, Tryz.ntmps27
  go_wp2
  go_ret
  exact ⟨rfl, rfl⟩
end Go.Proofs.YtfneffmiignapaaGreatDoor

/-
  One span, laid by a law.
-/
import Derived.Test.YtheenonakbokpahDoorSupM
import Derived.Test.YtheenonakbokpahDoorFBase
import Derived.Test.YtheenonakbokpahDoorEBase
namespace Go.Proofs.YtheenonakbokpahDoor
open Go.RowKit

/-- One span in a row of its own. -/
theorem sps_one (W : World) (n : Nat) (hn : n = W.heap.size) (a b c : Int) : Sps (W.alloc (.cells #[.int .i64 a, .int .i64 b, .int .i64 c] 23)) (.slice (some ⟨n, 0, none⟩) 1 1) [(a, b, c)] := by
  subst hn
  refine Or.inr ⟨_, 0, 1, rfl, Nat.le_refl _, by simp, fun i x hi => ?_⟩
  match i, hi with
  | 0, hi => simp at hi; subst hi; simp [go_sem]
  | i + 1, hi => simp at hi
end Go.Proofs.YtheenonakbokpahDoor

/-
  One span, laid by a law.
-/
import Derived.Test.YtheenonakbokpagSupM
import Derived.Test.YtheenonakbokpagFBase
import Derived.Test.YtheenonakbokpagEBase
namespace Go.Proofs.Ytheenonakbokpag
open Go.RowKit

/-- One span in a row of its own. -/
theorem sps_one (W : World) (n : Nat) (hn : n = W.heap.size) (a b c : Int) : Sps (W.alloc (.cells #[.int .i64 a, .int .i64 b, .int .i64 c] 38)) (.slice (some ⟨n, 0, none⟩) 1 1) [(a, b, c)] := by
  subst hn
  refine Or.inr ⟨_, 0, 1, rfl, Nat.le_refl _, by simp, fun i x hi => ?_⟩
  match i, hi with
  | 0, hi => simp at hi; subst hi; simp [go_sem]
  | i + 1, hi => simp at hi
end Go.Proofs.Ytheenonakbokpag

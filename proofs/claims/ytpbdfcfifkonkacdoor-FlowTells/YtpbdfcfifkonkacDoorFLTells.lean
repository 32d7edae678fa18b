/-
  The law FlowTells: of whatever input.
-/
import Derived.Test.YtpbdfcfifkonkacDoorFLT1
import Derived.Test.YtpbdfcfifkonkacDoorFLT2
import Derived.Test.YtpbdfcfifkonkacDoorFLT3
namespace Go.Proofs.YtpbdfcfifkonkacDoor
open Go.RowKit

theorem fltells_any (l : List W4) (v u : Value) (lv : List Int) (a b : Int) (w : World) (hg : ErrT w) (hl : Wrs w v l) (hu : Stp w u lv) :
    Calls Tryd.prog 4 #[v, .int .i64 a, .int .i64 b, u] w fun e w' => e = .returned (.bool true) ∧ Below w.heap.size w w' := by
  by_cases h : (wschk l).2 = 0
  · by_cases hb : 0 ≤ b ∧ b < 5
    · obtain ⟨b, rfl⟩ : ∃ n : Nat, b = n := ⟨b.toNat, by omega⟩
      by_cases ha : 0 ≤ a ∧ a < 5
      · obtain ⟨a, rfl⟩ : ∃ n : Nat, a = n := ⟨a.toNat, by omega⟩
        exact tells_in l v u lv a b w hg hl hu h (by omega) (by omega)
      · exact tells_left l v u lv a b w hg hl hu h ha (by omega)
    · exact tells_out l v u lv a b w hg hl hu h hb
  · exact tells_bad l v u lv a b w hg hl hu h
end Go.Proofs.YtpbdfcfifkonkacDoor

/-
  The law FrameTells: of any frame.
-/
import Derived.Test.YtmlkfmiaaaienabDoorFTNO
import Derived.Test.YtmlkfmiaaaienabDoorFTNZ
import Derived.Test.YtmlkfmiaaaienabDoorFTNS
import Derived.Test.YtmlkfmiaaaienabDoorFTPO
import Derived.Test.YtmlkfmiaaaienabDoorFTPZ
import Derived.Test.YtmlkfmiaaaienabDoorFTPS
namespace Go.Proofs.YtmlkfmiaaaienabDoor
open Go.RowKit

theorem ftells_any (n : Int) (l : List S3) (v : Value) (t r : Int) (w : World) (hg : ErrT w) (hl : Sps w v l) :
    Calls Tryd.prog 4 #[.int .i64 n, v, .int .i64 t, .int .i64 r] w fun ev w' => ev = .returned (.bool true) ∧ Below w.heap.size w w' := by
  by_cases hf : (fchk n l).2 = 0
  · obtain ⟨h1, h2, _, h4, _⟩ := fchk_zero hf
    obtain ⟨m, rfl⟩ : ∃ m : Nat, n = m := ⟨n.toNat, by omega⟩
    have K := TellsK.mk' m l v w hg hl hf
    have hro : ∀ t, -1 ≤ hold l t ∧ hold l t < 5 := fun t => hold_range h4
    obtain ⟨ao, cap, rfl⟩ := hl.form
    by_cases ht : t < 0
    · by_cases hr : r < 0 ∨ 4 < r
      · exact ftells_NO m l ao _ cap t r w (by omega) (by omega) hro ht hr K
      · obtain ⟨q, rfl⟩ : ∃ q : Nat, r = q := ⟨r.toNat, by omega⟩
        by_cases hz : shr l m q = 0
        · exact ftells_NZ m l ao _ cap t q w (by omega) (by omega) hro ht (by omega) hz K
        · exact ftells_NS m l ao _ cap t q w (by omega) (by omega) hro ht (by omega) hz K
    · obtain ⟨s, rfl⟩ : ∃ s : Nat, t = s := ⟨t.toNat, by omega⟩
      by_cases hr : r < 0 ∨ 4 < r
      · exact ftells_PO m l ao _ cap s r w (by omega) (by omega) hro hr K
      · obtain ⟨q, rfl⟩ : ∃ q : Nat, r = q := ⟨r.toNat, by omega⟩
        by_cases hz : shr l m q = 0
        · exact ftells_PZ m l ao _ cap s q w (by omega) (by omega) hro (by omega) hz K
        · exact ftells_PS m l ao _ cap s q w (by omega) (by omega) hro (by omega) hz K
  · have K := WrongK.mk' n l v t r w hg hl hf
    obtain ⟨ao, cap, rfl⟩ := hl.form
    exact ftells_wrong n _ _ ao _ cap t r w hf K
end Go.Proofs.YtmlkfmiaaaienabDoor

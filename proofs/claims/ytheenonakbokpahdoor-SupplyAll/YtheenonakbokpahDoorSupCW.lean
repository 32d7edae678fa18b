/-
  What the laws ask of supply.Wait: a contract.
-/
import Derived.Test.YtheenonakbokpahDoorSupM
import Derived.Test.YtheenonakbokpahDoorFBase
import Derived.Test.YtheenonakbokpahDoorEBase
namespace Go.Proofs.YtheenonakbokpahDoor
open Go.RowKit

def SupWait (G : World → Prop) : Prop := ∀ (n : Int) (l : List S3) (v : Value) (r t : Int) (W : World), G W → Sps W v l → Calls Tryd.prog 6 #[.int .i64 n, v, .int .i64 r, .int .i64 t] W fun e w' => ∃ m : Nat, e = .returned (.tuple #[.int .i64 (m : Int), wErr (waitE n l r t)]) ∧ (waitE n l r t = 0 → WaitIs (hasT n l r) n.toNat t.toNat m) ∧ (waitE n l r t ≠ 0 → m = 0) ∧ Below W.heap.size W w'
/-- It does not wait longer than for as many frames. -/
theorem wait_bound {n : Nat} (hn : 0 < n) {l : List S3} {r : Int} {t m : Nat} (hf : t ≠ 0 → 0 < cnR (hasT n l r) 0 n) (h : WaitIs (hasT n l r) n t m) : m ≤ t * n := by
  by_cases ht : t = 0
  · subst ht
    have := wait_one h (wait_zero _ _)
    omega
  · by_cases hm : m ≤ t * n
    · exact hm
    · have h1 := h.2 (t * n) (by omega)
      obtain ⟨j, _, e⟩ := least_has (hasT n l r) hn (t * n)
      have h2 := cn_frames (p := hasT n l r) (n := n) (fun x => hasT_per l r x) j t 0
      rw [Nat.add_zero] at h2
      have h3 : t ≤ t * cnR (hasT n l r) 0 n := Nat.le_mul_of_pos_right t (hf ht)
      have h4 : cnR (hasT n l r) j 0 = 0 := rfl
      omega
end Go.Proofs.YtheenonakbokpahDoor

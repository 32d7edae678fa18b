/-
  A wire, plain: what is wrong with one; what is there behind a number that was sent, or taken; numbers in a row.
-/
import Derived.Test.YtfconbblnmbnpabRows
namespace Go.Proofs.Ytfconbblnmbnpab

/-- How deep a wire of a kind may be. -/
def dpst (k : Int) : Int := if k = 1 then 1 else if k = 2 then 6 else 0
/-- What is wrong with a wire. -/
def wchk (f t k d : Int) : Int :=
  if 0 ≤ f ∧ f < 5 ∧ 0 ≤ t ∧ t < 5 ∧ 1 ≤ d ∧ d ≤ dpst k then (if f = t then 3 else 0) else 1
theorem wchk_kind {f t k d : Int} (h : wchk f t k d = 0) : (k = 1 ∧ d = 1) ∨ (k = 2 ∧ 1 ≤ d ∧ d ≤ 6) := by
  unfold wchk dpst at h
  by_cases h1 : k = 1
  · subst h1
    simp at h
    omega
  · by_cases h2 : k = 2
    · subst h2
      simp at h
      omega
    · simp [h1, h2] at h
      omega
/-- Numbers from one on, so many. -/
def rng (a : Int) (n : Nat) : List Int := (List.range n).map fun (i : Nat) => a + (i : Int)
theorem rng_len (a : Int) (n : Nat) : (rng a n).length = n := by simp [rng]
theorem rng_snoc (a : Int) (n : Nat) : rng a (n + 1) = rng a n ++ [a + n] := by simp [rng, List.range_succ]
theorem rng_zero (a : Int) : rng a 0 = [] := rfl
theorem rng_cons (a : Int) (n : Nat) : rng a (n + 1) = a :: rng (a + 1) n := by
  unfold rng
  rw [List.range_succ_eq_map]
  simp only [List.map_cons, List.map_map]
  refine congr (congrArg _ (by simp)) (List.map_congr_left fun i _ => ?_)
  simp
  omega
end Go.Proofs.Ytfconbblnmbnpab

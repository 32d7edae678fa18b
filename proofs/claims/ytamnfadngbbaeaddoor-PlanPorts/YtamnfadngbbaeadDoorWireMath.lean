/-
  On which wires code sends, and takes: plain mathematics.
-/
import Derived.Test.YtamnfadngbbaeadDoorMath
namespace Go.Proofs.YtamnfadngbbaeadDoor

/-- A number put into a list that rises, once; 'done': it is there. -/
def putGo (n : Int) : Bool → List Int → List Int
  | done, [] => if done then [] else [n]
  | done, x :: xs => if done then x :: putGo n true xs else if x = n then x :: putGo n true xs else if n < x then n :: x :: putGo n true xs else x :: putGo n false xs
theorem putGo_true (n : Int) : ∀ l, putGo n true l = l
  | [] => rfl
  | x :: xs => by simp [putGo, putGo_true n xs]
theorem putGo_nil (n : Int) : putGo n false [] = [n] := rfl
theorem putGo_eq {n x : Int} (h : x = n) (xs : List Int) : putGo n false (x :: xs) = x :: xs := by simp [putGo, h, putGo_true]
theorem putGo_lt {n x : Int} (h : n < x) (xs : List Int) : putGo n false (x :: xs) = n :: x :: xs := by
  have : x ≠ n := by omega
  simp [putGo, this, h, putGo_true]
theorem putGo_gt {n x : Int} (h : x < n) (xs : List Int) : putGo n false (x :: xs) = x :: putGo n false xs := by
  have h1 : x ≠ n := by omega
  have h2 : ¬ n < x := by omega
  simp [putGo, h1, h2]
theorem putGo_len (n : Int) : ∀ d l, (putGo n d l).length ≤ l.length + 1
  | d, [] => by unfold putGo; split <;> simp
  | d, x :: xs => by
    have h1 := putGo_len n true xs
    have h2 := putGo_len n false xs
    have h3 := congrArg List.length (putGo_true n xs)
    unfold putGo
    repeat' split
    all_goals simp only [List.length_cons]; omega
/-- The numbers from s on, k many, of which p says yes. -/
def pickN (p : Nat → Bool) (s k : Nat) : List Int := ((List.range' s k).filter p).map Int.ofNat
theorem pickN_zero (p : Nat → Bool) (s : Nat) : pickN p s 0 = [] := rfl
theorem pickN_succ (p : Nat → Bool) (s k : Nat) : pickN p s (k + 1) = if p s then (s : Int) :: pickN p (s + 1) k else pickN p (s + 1) k := by
  unfold pickN
  rw [List.range'_succ, List.filter_cons]
  split <;> simp
theorem pickN_congr {p q : Nat → Bool} {s k : Nat} (h : ∀ i, s ≤ i → i < s + k → p i = q i) : pickN p s k = pickN q s k := by
  unfold pickN
  congr 1
  apply List.filter_congr
  intro x hx
  rw [List.mem_range'_1] at hx
  exact h x hx.1 (by omega)
theorem pickN_gt (p : Nat → Bool) : ∀ (k s : Nat) (n : Int), n < s → putGo n false (pickN p s k) = n :: pickN p s k
  | 0, s, n, _ => rfl
  | k + 1, s, n, h => by
    rw [pickN_succ]
    split
    · exact putGo_lt h _
    · exact pickN_gt p k (s + 1) n (by omega)
theorem pickN_put (p : Nat → Bool) (m : Nat) : ∀ (k s : Nat), s ≤ m → m < s + k → putGo m false (pickN p s k) = pickN (fun i => p i || i == m) s k
  | 0, s, h1, h2 => by omega
  | k + 1, s, h1, h2 => by
    rw [pickN_succ, pickN_succ]
    by_cases hs : s = m
    · subst hs
      have hc : pickN (fun i => p i || i == s) (s + 1) k = pickN p (s + 1) k := pickN_congr fun i hi _ => by
        have : (i == s) = false := by simp; omega
        simp [this]
      simp only [beq_self_eq_true, Bool.or_true, if_true]
      rw [hc]
      split
      · exact putGo_eq rfl _
      · exact pickN_gt p k (s + 1) s (by omega)
    · have hsm : (s == m) = false := by simpa using hs
      simp only [hsm, Bool.or_false]
      have ih := pickN_put p m k (s + 1) (by omega) (by omega)
      split
      · rw [putGo_gt (by omega), ih]
      · exact ih
/-- An op of that What on that wire. -/
def onW (what : Int) (i : Nat) (o : O3) : Bool := decide (o.1 = what) && decide (o.2.2 = (i : Int))
def wiresB (what : Int) (l : List O3) : List Int := pickN (fun i => l.any (onW what i)) 0 12
def portStep (what : Int) (acc : List Int) (o : O3) : List Int := if o.1 = what then putGo o.2.2 false acc else acc
theorem wires_nil (what : Int) : wiresB what [] = [] := rfl
theorem wires_snoc (what : Int) (l : List O3) (o : O3) (h : o.1 = what → 0 ≤ o.2.2 ∧ o.2.2 < 12) : wiresB what (l ++ [o]) = portStep what (wiresB what l) o := by
  unfold portStep
  by_cases hw : o.1 = what
  · obtain ⟨h1, h2⟩ := h hw
    rw [if_pos hw]
    obtain ⟨m, hm⟩ : ∃ m : Nat, o.2.2 = m := ⟨o.2.2.toNat, by omega⟩
    rw [hm]
    unfold wiresB
    rw [pickN_put _ m 12 0 (by omega) (by omega)]
    apply pickN_congr
    intro i _ _
    have e : onW what i o = (i == m) := by
      rw [Bool.eq_iff_iff]
      simp [onW, hw, hm]
      omega
    rw [List.any_append]
    simp [e]
  · rw [if_neg hw]
    unfold wiresB
    apply pickN_congr
    intro i _ _
    have e : onW what i o = false := by simp [onW, hw]
    rw [List.any_append]
    simp [e]
theorem wires_len (what : Int) (l : List O3) : (wiresB what l).length ≤ 12 := by
  unfold wiresB pickN
  rw [List.length_map]
  have := List.length_filter_le (fun i => l.any (onW what i)) (List.range' 0 12)
  simpa using this
/-- The first i wires of them. -/
theorem pick_snoc (p : Nat → Bool) (k : Nat) : pickN p 0 (k + 1) = if p k then pickN p 0 k ++ [(k : Int)] else pickN p 0 k := by
  unfold pickN
  rw [List.range'_1_concat, List.filter_append, List.map_append]
  simp only [Nat.zero_add, List.filter_cons, List.filter_nil]
  split <;> simp
theorem pick_len (p : Nat → Bool) (k : Nat) : (pickN p 0 k).length ≤ k := by
  unfold pickN
  rw [List.length_map]
  have := List.length_filter_le p (List.range' 0 k)
  simpa using this
end Go.Proofs.YtamnfadngbbaeadDoor

/-
  Plain mathematics of lines: a word and numbers; a word as a number; an op's line; the text of code.
-/
import Derived.Test.YtamnfadngbbaeadDoorMath
import Derived.Lib.ItoaLen
import Derived.Lib.AtoiTie
namespace Go.Proofs.YtamnfadngbbaeadDoor
def tail (zs : List Int) : List UInt8 := zs.flatMap fun z => 32 :: Lib.itoa z
def lineB (word : List UInt8) (zs : List Int) : List UInt8 := word ++ tail zs ++ [10]
theorem ba_size (l : List UInt8) : (ByteArray.mk l.toArray).size = l.length := by simp [ByteArray.size]
theorem tail_snoc (zs : List Int) (z : Int) : tail (zs ++ [z]) = tail zs ++ ([32] ++ Lib.itoa z) := by simp [tail]
theorem tail_le (zs : List Int) (h : ∀ z ∈ zs, -9223372036854775808 ≤ z ∧ z ≤ 9223372036854775807) : (tail zs).length ≤ 22 * zs.length := by
  induction zs with
  | nil => simp [tail]
  | cons z zs ih =>
    have h1 := ih (fun y hy => h y (by simp [hy]))
    have h2 := Lib.itoa_length_le z (h z (by simp)).1 (h z (by simp)).2
    simp only [tail, List.flatMap_cons, List.length_append, List.length_cons] at h1 ⊢
    omega
/-- The number that a word is. -/
def numB (l : List UInt8) : Option Int :=
  if l.length ≤ 4 then match Lib.atoi l with
    | some n => if 0 ≤ n ∧ Lib.itoa n = l then some n else none
    | none => none
  else none
theorem numB_long {l : List UInt8} (h : 4 < l.length) : numB l = none := by unfold numB; rw [if_neg (by omega)]
theorem numB_bad {l : List UInt8} (h : Lib.atoi l = none) : numB l = none := by unfold numB; rw [h]; split <;> rfl
theorem numB_neg {l : List UInt8} {n : Int} (h : Lib.atoi l = some n) (h0 : n < 0) : numB l = none := by
  unfold numB; rw [h]; split
  · simp only; rw [if_neg (by omega)]
  · rfl
theorem numB_other {l : List UInt8} {n : Int} (h : Lib.atoi l = some n) (h0 : Lib.itoa n ≠ l) : numB l = none := by
  unfold numB; rw [h]; split
  · simp only; rw [if_neg (fun hh => h0 hh.2)]
  · rfl
theorem numB_yes {l : List UInt8} {n : Int} (hl : l.length ≤ 4) (h : Lib.atoi l = some n) (h0 : 0 ≤ n) (h1 : Lib.itoa n = l) : numB l = some n := by
  unfold numB; rw [if_pos hl, h]; simp only; rw [if_pos ⟨h0, h1⟩]
theorem numB_some {l : List UInt8} {n : Int} (h : numB l = some n) : l.length ≤ 4 ∧ 0 ≤ n ∧ Lib.itoa n = l := by
  by_cases h1 : l.length ≤ 4
  · cases h2 : Lib.atoi l with
    | none => rw [numB_bad h2] at h; cases h
    | some m =>
      by_cases h3 : 0 ≤ m
      · by_cases h4 : Lib.itoa m = l
        · rw [numB_yes h1 h2 h3 h4] at h
          obtain rfl := Option.some.inj h
          exact ⟨h1, h3, h4⟩
        · rw [numB_other h2 h4] at h; cases h
      · rw [numB_neg h2 (by omega)] at h; cases h
  · rw [numB_long (by omega)] at h; cases h
/-- The line of an op. -/
def opB (o : O3) : List UInt8 := lineB (nameB o.1) (numsB o)
/-- The text of code. -/
def textB (l : List O3) : List UInt8 := l.flatMap opB
theorem textB_snoc (l : List O3) (o : O3) : textB (l ++ [o]) = textB l ++ opB o := by simp [textB]
theorem op_le {o : O3} (ha : 0 ≤ o.2.1 ∧ o.2.1 ≤ 5) (hb : 0 ≤ o.2.2 ∧ o.2.2 ≤ 999) : (opB o).length ≤ 50 := by
  have h1 := name_le o.1
  have h2 : (numsB o).length ≤ 2 := by
    unfold numsB
    repeat' split
    all_goals simp
  have h3 : ∀ z ∈ numsB o, -9223372036854775808 ≤ z ∧ z ≤ 9223372036854775807 := by
    intro z hz
    unfold numsB at hz
    split at hz
    · simp at hz; omega
    · split at hz
      · simp at hz
      · simp at hz; omega
  have h4 := tail_le (numsB o) h3
  simp only [opB, lineB, List.length_append, List.length_cons, List.length_nil]
  omega
theorem text_le {l : List O3} (h : ∀ o ∈ l, ok3 20 o = true ∨ (0 ≤ o.2.1 ∧ o.2.1 ≤ 5 ∧ 0 ≤ o.2.2 ∧ o.2.2 ≤ 999)) : (textB l).length ≤ 50 * l.length := by
  induction l with
  | nil => simp [textB]
  | cons o l ih =>
    have h1 := ih (fun y hy => h y (by simp [hy]))
    have h2 : (opB o).length ≤ 50 := by
      rcases h o (by simp) with h | h
      · have := ok3_small (by omega) h
        exact op_le ⟨by omega, by omega⟩ ⟨by omega, by omega⟩
      · exact op_le ⟨h.1, h.2.1⟩ h.2.2
    simp only [textB, List.flatMap_cons, List.length_append, List.length_cons] at h1 ⊢
    omega
/-- The bounds of an op's numbers as the table has them. -/
def pA (n : Int) : Int := bA n
def pB (n : Int) : Int := bB n 0
end Go.Proofs.YtamnfadngbbaeadDoor

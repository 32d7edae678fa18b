/-
  Lines of a text, and where a byte is: plain mathematics.
-/
import Derived.Lib.Bytealg
import Derived.Test.YtamnfadngbbaeadDoorCutMath
namespace Go.Proofs.YtamnfadngbbaeadDoor

theorem idx_cases (c : UInt8) : ∀ l : List UInt8, (c ∉ l ∧ Lib.indexByte l c = -1) ∨ ∃ u v, l = u ++ c :: v ∧ c ∉ u ∧ Lib.indexByte l c = (u.length : Int)
  | [] => Or.inl ⟨by simp, rfl⟩
  | b :: l => by
    by_cases h : b = c
    · exact Or.inr ⟨[], l, by simp [h], by simp, by simp [Lib.indexByte, h]⟩
    · have hb : (b == c) = false := by simpa using h
      rcases idx_cases c l with ⟨h1, h2⟩ | ⟨u, v, h1, h2, h3⟩
      · exact Or.inl ⟨by simp [h1, Ne.symm h], by simp [Lib.indexByte, hb, h2]⟩
      · refine Or.inr ⟨b :: u, v, by simp [h1], by simp [h2, Ne.symm h], ?_⟩
        have h4 : (Lib.indexByte l c == -1) = false := by rw [h3]; simp
        rw [Lib.indexByte, hb, h4, h3]
        simp

/-- The lines that are left, 'cur' the one begun. -/
def linesGo : List UInt8 → List UInt8 → List (List UInt8)
  | cur, [] => if cur = [] then [] else [cur]
  | cur, x :: xs => if x = 10 then (cur ++ [10]) :: linesGo [] xs else linesGo (cur ++ [x]) xs
def linesB (l : List UInt8) : List (List UInt8) := linesGo [] l
theorem linesGo_app : ∀ (u cur m : List UInt8), (10 : UInt8) ∉ u → linesGo cur (u ++ m) = linesGo (cur ++ u) m
  | [], cur, m, _ => by simp
  | x :: xs, cur, m, h => by
    have hx : x ≠ 10 := fun e => h (by simp [e])
    have hxs : (10 : UInt8) ∉ xs := fun e => h (by simp [e])
    rw [List.cons_append, linesGo, if_neg hx, linesGo_app xs _ m hxs]; simp
theorem lines_at {u : List UInt8} (v : List UInt8) (h : (10 : UInt8) ∉ u) : linesB (u ++ 10 :: v) = (u ++ [10]) :: linesB v := by
  unfold linesB
  rw [linesGo_app u [] _ h, linesGo, if_pos rfl]; rfl
theorem lines_end {u : List UInt8} (h : (10 : UInt8) ∉ u) (hne : u ≠ []) : linesB u = [u] := by
  have := linesGo_app u [] [] h
  unfold linesB
  rw [List.append_nil] at this
  rw [this, List.nil_append, linesGo, if_neg hne]
theorem lines_nil : linesB [] = [] := rfl
theorem linesGo_len : ∀ (l cur : List UInt8), (linesGo cur l).length ≤ l.length + 1 ∧ (cur = [] → (linesGo cur l).length ≤ l.length)
  | [], cur => by
    constructor
    · unfold linesGo; split <;> simp
    · intro h; simp [linesGo, h]
  | x :: xs, cur => by
    unfold linesGo
    split
    · have := (linesGo_len xs []).2 rfl; simp; omega
    · have := (linesGo_len xs (cur ++ [x])).1; simp; omega
theorem lines_len (l : List UInt8) : (linesB l).length ≤ l.length := (linesGo_len l []).2 rfl
end Go.Proofs.YtamnfadngbbaeadDoor

/-
  Cutting a list of bytes at each byte c: plain mathematics.
-/
namespace Go.Proofs.YtamnfadngbbaeadDoor

/-- What is left to cut, 'cur' the piece begun. -/
def cutGo (c : UInt8) : List UInt8 → List UInt8 → List (List UInt8)
  | cur, [] => [cur]
  | cur, x :: xs => if x = c then cur :: cutGo c [] xs else cutGo c (cur ++ [x]) xs
def cutB (c : UInt8) (l : List UInt8) : List (List UInt8) := cutGo c [] l
theorem cutGo_hit {c x : UInt8} (h : x = c) (cur xs : List UInt8) : cutGo c cur (x :: xs) = cur :: cutGo c [] xs := by simp [cutGo, h]
theorem cutGo_miss {c x : UInt8} (h : x ≠ c) (cur xs : List UInt8) : cutGo c cur (x :: xs) = cutGo c (cur ++ [x]) xs := by simp [cutGo, h]
theorem cutGo_len (c : UInt8) : ∀ (l cur : List UInt8), 1 ≤ (cutGo c cur l).length ∧ (cutGo c cur l).length ≤ l.length + 1
  | [], cur => by simp [cutGo]
  | x :: xs, cur => by
    by_cases h : x = c
    · rw [cutGo_hit h]; have := cutGo_len c xs []; simp; omega
    · rw [cutGo_miss h]; have := cutGo_len c xs (cur ++ [x]); simp; omega
theorem cutGo_app (c : UInt8) : ∀ (l cur m : List UInt8), c ∉ l → cutGo c cur (l ++ m) = cutGo c (cur ++ l) m
  | [], cur, m, _ => by simp
  | x :: xs, cur, m, h => by
    have hx : x ≠ c := fun e => h (by simp [e])
    have hxs : c ∉ xs := fun e => h (by simp [e])
    rw [List.cons_append, cutGo_miss hx, cutGo_app c xs _ m hxs]; simp
/-- What is cut joins to what was. -/
theorem cutGo_none (c : UInt8) (l cur : List UInt8) (h : c ∉ l) : cutGo c cur l = [cur ++ l] := by
  have := cutGo_app c l cur [] h
  simpa [cutGo] using this
theorem cutGo_at (c : UInt8) (l cur m : List UInt8) (h : c ∉ l) : cutGo c cur (l ++ c :: m) = (cur ++ l) :: cutB c m := by
  rw [cutGo_app c l cur _ h, cutGo_hit rfl]; rfl

theorem drop_step {l : List UInt8} {k : Nat} (h : k < l.length) : l.drop k = l[k] :: l.drop (k + 1) := List.drop_eq_getElem_cons h
theorem piece_step {l : List UInt8} {k f : Nat} (h : k < l.length) (hf : f ≤ k) : (l.take (k + 1)).drop f = (l.take k).drop f ++ [l[k]] := by
  rw [List.take_succ_eq_append_getElem h, List.drop_append_of_le_length (by simp; omega)]
end Go.Proofs.YtamnfadngbbaeadDoor

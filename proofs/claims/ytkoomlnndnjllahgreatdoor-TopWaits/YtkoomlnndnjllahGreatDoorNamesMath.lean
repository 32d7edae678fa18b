/-
  The line of an op, cut at blanks: plain mathematics.
-/
import Derived.Test.YtkoomlnndnjllahGreatDoorJa1
namespace Go.Proofs.YtkoomlnndnjllahGreatDoor

theorem dec_mem (u : Nat) : ∀ x ∈ Lib.decDigits u, 48 ≤ x.toNat ∧ x.toNat ≤ 57 := by
  induction u using Nat.strongRecOn with
  | _ u ih =>
    intro x hx
    rw [Lib.decDigits] at hx
    split at hx
    · simp at hx; subst hx; simp; omega
    · rename_i h
      simp only [List.mem_append, List.mem_singleton] at hx
      rcases hx with hx | hx
      · exact ih (u / 10) (by omega) x hx
      · subst hx; simp; omega
theorem itoa_pos {z : Int} (h : 0 ≤ z) : Lib.itoa z = Lib.decDigits z.toNat := by unfold Lib.itoa; rw [if_neg (by omega)]
theorem itoa_mem {z : Int} (h : 0 ≤ z) : ∀ x ∈ Lib.itoa z, 48 ≤ x.toNat ∧ x.toNat ≤ 57 := by rw [itoa_pos h]; exact dec_mem _
theorem name_mem (n : Int) : ∀ x ∈ nameB n, 97 ≤ x.toNat ∧ x.toNat ≤ 122 := by
  unfold nameB
  repeat' split
  all_goals simp
theorem count_cut (c : UInt8) : ∀ (l cur : List UInt8), (cutGo c cur l).length = l.count c + 1
  | [], cur => by simp [cutGo]
  | x :: xs, cur => by
    by_cases h : x = c
    · rw [cutGo_hit h, List.length_cons, count_cut c xs, h, List.count_cons_self]
    · rw [cutGo_miss h, count_cut c xs, List.count_cons_of_ne h]
theorem count_none {c : UInt8} {l : List UInt8} (h : c ∉ l) : l.count c = 0 := List.count_eq_zero.2 h
theorem not_itoa {c : UInt8} {z : Int} (h : 0 ≤ z) (hc : c.toNat < 48) : c ∉ Lib.itoa z := fun hm => by have := itoa_mem h c hm; omega
theorem not_name {c : UInt8} {n : Int} (hc : c.toNat < 48) : c ∉ nameB n := fun hm => by have := name_mem n c hm; omega
theorem count_tail : ∀ (zs : List Int), (∀ z ∈ zs, 0 ≤ z) → (tail zs).count 32 = zs.length
  | [], _ => rfl
  | z :: zs, h => by
    have h1 := count_tail zs (fun y hy => h y (by simp [hy]))
    have h2 := count_none (not_itoa (c := 32) (h z (by simp)) (by decide))
    unfold tail at h1 ⊢
    rw [List.flatMap_cons, List.count_append, List.count_cons_self, h1, h2, List.length_cons]
    omega
theorem not_tail {c : UInt8} (hc : c.toNat < 48) (h32 : c ≠ 32) : ∀ (zs : List Int), (∀ z ∈ zs, 0 ≤ z) → c ∉ tail zs
  | [], _ => by simp [tail]
  | z :: zs, h => by
    have h1 := not_tail hc h32 zs (fun y hy => h y (by simp [hy]))
    have h2 := not_itoa (c := c) (h z (by simp)) hc
    unfold tail at h1 ⊢
    rw [List.flatMap_cons]
    simp only [List.mem_append, List.mem_cons, not_or]
    exact ⟨⟨h32, h2⟩, h1⟩
theorem cut_line {w : List UInt8} {zs : List Int} (hw : (10 : UInt8) ∉ w) (hz : ∀ z ∈ zs, 0 ≤ z) : cutB 10 (lineB w zs) = [w ++ tail zs, []] := by
  unfold lineB cutB
  have : (10 : UInt8) ∉ w ++ tail zs := by
    rw [List.mem_append, not_or]
    exact ⟨hw, not_tail (by decide) (by decide) zs hz⟩
  rw [cutGo_at 10 _ [] [] this]
  rfl
theorem cut_words {w : List UInt8} {zs : List Int} (hw : (32 : UInt8) ∉ w) (hz : ∀ z ∈ zs, 0 ≤ z) : (cutB 32 (w ++ tail zs)).length = zs.length + 1 := by
  unfold cutB
  rw [count_cut, List.count_append, count_none hw, count_tail zs hz]
  omega
theorem nums_pos {o : O3} (ha : 0 ≤ o.2.1) (hb : 0 ≤ o.2.2) : ∀ z ∈ numsB o, 0 ≤ z := by
  intro z hz
  unfold numsB at hz
  split at hz
  · simp at hz; omega
  · split at hz
    · simp at hz
    · simp at hz; omega
theorem nums_len (o : O3) : (numsB o).length = if o.1 = 7 then 1 else if o.1 = 10 ∨ o.1 = 11 then 0 else 2 := by
  unfold numsB
  repeat' split
  all_goals rfl
end Go.Proofs.YtkoomlnndnjllahGreatDoor

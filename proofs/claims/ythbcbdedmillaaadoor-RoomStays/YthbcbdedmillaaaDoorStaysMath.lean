/-
  Plain mathematics: a step stays within; it changes one cell at most.
-/
import Derived.Test.YthbcbdedmillaaaDoorRoomMath
namespace Go.Proofs.YthbcbdedmillaaaDoor

theorem upd_ok {c : Nat → Int} {a : Nat} {v : Int} (hc : ∀ i, i < 6 → 0 ≤ c i ∧ c i ≤ 999) (hv : 0 ≤ v ∧ v ≤ 999) : ∀ i, i < 6 → 0 ≤ upd c a v i ∧ upd c a v i ≤ 999 := by
  intro i hi
  unfold upd
  split
  · exact hv
  · exact hc i hi
theorem mod_ok (x : Int) : 0 ≤ x % 1000 ∧ x % 1000 ≤ 999 := by omega
theorem cellsF_ok {o : O3} {c : Nat → Int} {got : Int} {is : Bool} (hc : ∀ i, i < 6 → 0 ≤ c i ∧ c i ≤ 999) (h1 : o.1 = 1 → 0 ≤ o.2.2 ∧ o.2.2 ≤ 999) (h2 : o.1 = 2 → o.2.2.toNat < 6) (hg : is = true → 0 ≤ got ∧ got ≤ 999) : ∀ i, i < 6 → 0 ≤ cellsF o c got is i ∧ cellsF o c got is i ≤ 999 := by
  unfold cellsF
  split
  · rename_i h; exact upd_ok hc (h1 h)
  split
  · rename_i h; exact upd_ok hc (hc _ (h2 h))
  split
  · exact upd_ok hc (mod_ok _)
  split
  · exact upd_ok hc (mod_ok _)
  split
  · exact upd_ok hc (mod_ok _)
  split
  · split
    · rename_i h; exact upd_ok hc (hg h)
    · exact hc
  · exact hc
theorem cellsF_other {o : O3} {c : Nat → Int} {got : Int} {is : Bool} (i : Nat) (hi : i ≠ o.2.1.toNat) : cellsF o c got is i = c i := by
  unfold cellsF
  repeat' split
  all_goals first | rfl | exact upd_other _ _ hi
theorem cellsF_send {o : O3} {c : Nat → Int} {got : Int} {is : Bool} (h : o.1 = 8) : cellsF o c got is = c := by
  unfold cellsF
  rw [if_neg (by omega), if_neg (by omega), if_neg (by omega), if_neg (by omega), if_neg (by omega), if_neg (by omega)]
theorem cellsF_got {o : O3} {c : Nat → Int} {got got' : Int} {is is' : Bool} (h : o.1 ≠ 9) : cellsF o c got is = cellsF o c got' is' := by
  unfold cellsF
  simp only [if_neg h]
theorem nextF_got {o : O3} {s : St} {n : Nat} {is is' : Bool} (h : o.1 ≠ 9) : nextF o s n is = nextF o s n is' := by
  unfold nextF
  simp only [h, false_and]
theorem nextF_ok {o : O3} {s : St} {n : Nat} {is : Bool} (h0 : 0 ≤ s.p) (h1 : s.p < n) (hb : o.1 = 6 ∨ o.1 = 7 → 0 ≤ o.2.2 ∧ o.2.2 < n) : 0 ≤ nextF o s n is ∧ nextF o s n is < n := by
  unfold nextF
  split
  · rename_i h
    exact hb (by rcases h with h | h; exact Or.inr h; exact Or.inl h.1)
  split
  · exact ⟨h0, h1⟩
  split
  · omega
  · omega
theorem sentF_ok {o : O3} {c : Nat → Int} (hc : ∀ i, i < 6 → 0 ≤ c i ∧ c i ≤ 999) (ha : o.2.1.toNat < 6) : -1 ≤ sentF o c ∧ sentF o c ≤ 999 := by
  unfold sentF
  split
  · have := hc _ ha; omega
  · omega
theorem sentF_send {o : O3} {c : Nat → Int} (h : 0 ≤ sentF o c) : o.1 = 8 := by
  unfold sentF at h
  split at h
  · assumption
  · omega
end Go.Proofs.YthbcbdedmillaaaDoor

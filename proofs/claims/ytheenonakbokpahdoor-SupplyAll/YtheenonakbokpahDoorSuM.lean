/-
  A row of a frame, plain: a room has a tick if one of its spans has it.
-/
import Derived.Test.YtheenonakbokpahDoorSupM
namespace Go.Proofs.YtheenonakbokpahDoor

/-- A span of a room has a tick. -/
def mine (r t : Int) (s : S3) : Bool := decide (s.2.2 = r ∧ s.1 ≤ t ∧ t < s.2.1)
theorem hold_first {l : List S3} {t : Int} : ∀ {k : Nat} {s : S3}, l[k]? = some s → hits t s = true → (∀ (j : Nat) x, j < k → l[j]? = some x → hits t x = false) → hold l t = s.2.2 := by
  induction l with
  | nil => intro k s h; simp at h
  | cons x l ih =>
    intro k s h hs ha
    cases k with
    | zero =>
      simp at h
      subst h
      unfold hold
      rw [if_pos hs]
    | succ k =>
      unfold hold
      rw [if_neg (by rw [ha 0 x (by omega) rfl]; simp)]
      exact ih (by simpa using h) hs fun j y hj hy => ha (j + 1) y (by omega) (by simpa using hy)
/-- Of a right frame two spans that have one tick are one. -/
theorem any_mine {n : Int} {l : List S3} (h : (fchk n l).2 = 0) {r t : Int} (hr : 0 ≤ r) : l.any (mine r t) = decide (hold l t = r) := by
  have hz := fchk_zero h
  rw [fchk_mid (by omega) (by omega)] at h
  have hall := scan_all h
  have hcl : ∀ (i j : Nat) (s o : S3), j < i → l[i]? = some s → l[j]? = some o → hits t s = true → hits t o = false := fun i j s o hji hi hj hs => by
    have h0 := hall i (Nat.zero_le _) (by have := (List.getElem?_eq_some_iff.1 hi).1; omega)
    rw [badAt_some hi] at h0
    unfold badOf at h0
    split at h0
    · split at h0
      · simp at h0
      · rename_i hc
        rw [Bool.not_eq_true, List.any_eq_false] at hc
        have hm : o ∈ l.take i := List.mem_of_getElem? (i := j) (by rw [List.getElem?_take, if_pos hji]; exact hj)
        have hcc := hc o hm
        cases ho : hits t o with
        | false => rfl
        | true =>
          simp only [hits, decide_eq_true_eq] at hs ho
          simp only [clashB, decide_eq_true_eq] at hcc
          omega
    · simp at h0
  cases ha : l.any (mine r t) with
  | true =>
    obtain ⟨s, hs, hm⟩ := List.any_eq_true.1 ha
    obtain ⟨i, hi⟩ := List.mem_iff_getElem?.1 hs
    simp only [mine, decide_eq_true_eq] at hm
    have hh : hits t s = true := by simp [hits]; omega
    rw [hold_first hi hh fun j x hj hx => hcl i j s x hj hi hx hh, hm.1]
    simp
  | false =>
    rw [List.any_eq_false] at ha
    symm
    rw [decide_eq_false_iff_not]
    intro he
    cases hf : l.findIdx? (hits t) with
    | none => rw [hold_none hf] at he; omega
    | some k =>
      obtain ⟨hk, hk2, _⟩ := List.findIdx?_eq_some_iff_getElem.1 hf
      rw [hold_some hf (List.getElem?_eq_getElem hk)] at he
      have := ha l[k] (List.getElem_mem _)
      simp only [hits, decide_eq_true_eq] at hk2
      simp only [mine, decide_eq_true_eq] at this
      omega
theorem per_mod {P : Nat → Bool} {n : Nat} (hp : ∀ t, P (t + n) = P t) (t : Nat) : P (t % n) = P t := by
  have go : ∀ q r, P (r + q * n) = P r := by
    intro q
    induction q with
    | zero => intro r; simp
    | succ q ih => intro r; rw [show r + (q + 1) * n = (r + q * n) + n by rw [Nat.add_mul]; omega, hp, ih]
  have h := go (t / n) (t % n)
  rw [Nat.mod_add_div'] at h
  exact h.symm
theorem hasT_row {n : Nat} {l : List S3} {r : Int} (h : (fchk n l).2 = 0) (hr : 0 ≤ r) {t : Nat} (ht : t < n) : l.any (mine r t) = hasT n l r t := by
  rw [any_mine h hr]
  unfold hasT
  rw [show (t : Int) % (n : Int) = (t : Int) by rw [← Int.natCast_emod, Nat.mod_eq_of_lt ht]]
/-- Some tick of a frame. -/
theorem cn_zero {P : Nat → Bool} (f : Nat) : ∀ m, cnR P f m = 0 ↔ ∀ j, j < m → P (f + j) = false
  | 0 => by simp [cnR]
  | m + 1 => by
    have ih := cn_zero (P := P) f m
    unfold cnR
    constructor
    · intro h j hj
      cases hp : P (f + m) with
      | true => rw [hp, if_pos rfl] at h; omega
      | false =>
        rw [hp, if_neg (by simp), Nat.add_zero] at h
        by_cases e : j = m
        · subst e; exact hp
        · exact ih.1 h j (by omega)
    · intro h
      rw [ih.2 fun j hj => h j (by omega), h m (by omega)]
      simp
/-- The least so far. -/
def lsM (P : Nat → Bool) (m : Nat) : Nat → Nat
  | 0 => m
  | k + 1 => min (lsM P m k) (cnR P k m)
theorem lsM_ls (P : Nat → Bool) (m : Nat) : ∀ k, lsM P m (k + 1) = lsT P m k
  | 0 => by
    show min m (cnR P 0 m) = cnR P 0 m
    exact Nat.min_eq_right (cn_le P 0 m)
  | k + 1 => by
    have ih := lsM_ls P m k
    show min (lsM P m (k + 1)) (cnR P (k + 1) m) = min (lsT P m k) (cnR P (k + 1) m)
    rw [ih]
theorem lsM_least (P : Nat → Bool) {n : Nat} (m : Nat) (hn : 0 < n) : lsM P m n = leastT P n m := by
  obtain ⟨k, rfl⟩ : ∃ k, n = k + 1 := ⟨n - 1, by omega⟩
  exact lsM_ls P m k
theorem lsM_le (P : Nat → Bool) (m : Nat) : ∀ k, lsM P m k ≤ m
  | 0 => Nat.le_refl _
  | k + 1 => Nat.le_trans (Nat.min_le_left _ _) (lsM_le P m k)
end Go.Proofs.YtheenonakbokpahDoor

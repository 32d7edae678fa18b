/-
  How many turns a room has, how many at least, and how long it waits, plain.
-/
import Derived.Test.YtheenonakbokpahDoorFrameMath
namespace Go.Proofs.YtheenonakbokpahDoor

/-- Has a room a tick? -/
def hasT (n : Int) (l : List S3) (r : Int) (t : Nat) : Bool := decide (hold l ((t : Int) % n) = r)
/-- How many of so many ticks from one on. -/
def cnR (p : Nat → Bool) (f : Nat) : Nat → Nat
  | 0 => 0
  | m + 1 => cnR p f m + if p (f + m) = true then 1 else 0
/-- The least of that, from a tick up to k on. -/
def lsT (p : Nat → Bool) (m : Nat) : Nat → Nat
  | 0 => cnR p 0 m
  | k + 1 => min (lsT p m k) (cnR p (k + 1) m)
/-- .. wherever they begin. -/
def leastT (p : Nat → Bool) (n m : Nat) : Nat := lsT p m (n - 1)
theorem hasT_per {n : Nat} (l : List S3) (r : Int) (t : Nat) : hasT n l r (t + n) = hasT n l r t := by
  unfold hasT
  rw [show ((t + n : Nat) : Int) % (n : Int) = (t : Int) % (n : Int) by rw [Int.natCast_add, Int.add_emod_right]]
theorem cn_le (p : Nat → Bool) (f : Nat) : ∀ m, cnR p f m ≤ m
  | 0 => Nat.le_refl _
  | m + 1 => by have := cn_le p f m; unfold cnR; split <;> omega
theorem cn_step (p : Nat → Bool) (f m : Nat) : cnR p f m ≤ cnR p f (m + 1) ∧ cnR p f (m + 1) ≤ cnR p f m + 1 := by
  show _ ≤ cnR p f m + (if _ then 1 else 0) ∧ cnR p f m + (if _ then 1 else 0) ≤ _
  split <;> omega
theorem cn_mono (p : Nat → Bool) (f : Nat) {a b : Nat} (h : a ≤ b) : cnR p f a ≤ cnR p f b := by
  induction b with
  | zero => have : a = 0 := by omega
            subst this; exact Nat.le_refl _
  | succ b ih =>
    by_cases e : a = b + 1
    · subst e; exact Nat.le_refl _
    · exact Nat.le_trans (ih (by omega)) (cn_step p f b).1
theorem cn_add (p : Nat → Bool) (f a : Nat) : ∀ b, cnR p f (a + b) = cnR p f a + cnR p (f + a) b
  | 0 => rfl
  | b + 1 => by
    have ih := cn_add p f a b
    show cnR p f (a + b) + _ = cnR p f a + (cnR p (f + a) b + _)
    rw [ih, show a.add b = a + b from rfl, show f + (a + b) = f + a + b by omega]
    omega
theorem cn_all {p : Nat → Bool} (f : Nat) : ∀ m, (∀ t, p t = true) → cnR p f m = m
  | 0, _ => rfl
  | m + 1, h => by
    have := cn_all f m h
    show cnR p f m + _ = _
    rw [this, if_pos (h _)]
theorem cn_none {p : Nat → Bool} (f : Nat) : ∀ m, (∀ t, p t = false) → cnR p f m = 0
  | 0, _ => rfl
  | m + 1, h => by
    have := cn_none f m h
    show cnR p f m + _ = _
    rw [this, if_neg (by rw [h]; simp)]
theorem cn_per {p : Nat → Bool} {n : Nat} (hp : ∀ t, p (t + n) = p t) (f : Nat) : ∀ m, cnR p (f + n) m = cnR p f m
  | 0 => rfl
  | m + 1 => by
    have ih := cn_per hp f m
    show cnR p (f + n) m + _ = cnR p f m + _
    rw [ih, show f + n + m = f + m + n by omega, hp]
theorem cn_mod {p : Nat → Bool} {n : Nat} (hp : ∀ t, p (t + n) = p t) (f m : Nat) : cnR p f m = cnR p (f % n) m := by
  have go : ∀ q r, cnR p (r + q * n) m = cnR p r m := by
    intro q
    induction q with
    | zero => intro r; simp
    | succ q ih =>
      intro r
      rw [show r + (q + 1) * n = (r + q * n) + n by rw [Nat.add_mul]; omega, cn_per hp, ih]
  have h := go (f / n) (f % n)
  rw [Nat.mod_add_div'] at h
  exact h
/-- Any frame gives what the first one gives. -/
theorem cn_full {p : Nat → Bool} {n : Nat} (hp : ∀ t, p (t + n) = p t) : ∀ f, cnR p f n = cnR p 0 n
  | 0 => rfl
  | f + 1 => by
    have ih := cn_full hp f
    have h1 : cnR p f (n + 1) = cnR p f n + (if p (f + n) = true then 1 else 0) := rfl
    have h2 := cn_add p f 1 n
    rw [Nat.add_comm 1 n, h1] at h2
    have h3 : cnR p f 1 = if p f = true then 1 else 0 := by
      show 0 + (if p (f + 0) = true then 1 else 0) = _
      rw [Nat.zero_add, Nat.add_zero]
    rw [h3, hp] at h2
    omega
theorem cn_frames {p : Nat → Bool} {n : Nat} (hp : ∀ t, p (t + n) = p t) (f : Nat) : ∀ q m, cnR p f (q * n + m) = q * cnR p 0 n + cnR p f m
  | 0, m => by simp
  | q + 1, m => by
    rw [show (q + 1) * n + m = n + (q * n + m) by rw [Nat.add_mul]; omega, cn_add, cn_full hp, cn_per hp, cn_frames hp f q m, Nat.add_mul]
    omega
theorem ls_le (p : Nat → Bool) (m : Nat) : ∀ k j, j ≤ k → lsT p m k ≤ cnR p j m
  | 0, j, h => by have : j = 0 := by omega
                  subst this; exact Nat.le_refl _
  | k + 1, j, h => by
    unfold lsT
    by_cases e : j = k + 1
    · subst e; exact Nat.min_le_right _ _
    · exact Nat.le_trans (Nat.min_le_left _ _) (ls_le p m k j (by omega))
theorem ls_has (p : Nat → Bool) (m : Nat) : ∀ k, ∃ j, j ≤ k ∧ lsT p m k = cnR p j m
  | 0 => ⟨0, Nat.le_refl _, rfl⟩
  | k + 1 => by
    obtain ⟨j, h1, h2⟩ := ls_has p m k
    unfold lsT
    by_cases e : lsT p m k ≤ cnR p (k + 1) m
    · exact ⟨j, by omega, by rw [Nat.min_eq_left e, h2]⟩
    · exact ⟨k + 1, Nat.le_refl _, Nat.min_eq_right (by omega)⟩
theorem least_le {p : Nat → Bool} {n : Nat} (hn : 0 < n) (hp : ∀ t, p (t + n) = p t) (f m : Nat) : leastT p n m ≤ cnR p f m := by
  rw [cn_mod hp]
  exact ls_le p m (n - 1) (f % n) (by have := Nat.mod_lt f hn; omega)
theorem least_has (p : Nat → Bool) {n : Nat} (hn : 0 < n) (m : Nat) : ∃ j, j < n ∧ leastT p n m = cnR p j m := by
  obtain ⟨j, h1, h2⟩ := ls_has p m (n - 1)
  exact ⟨j, by omega, h2⟩
theorem least_step {p : Nat → Bool} {n : Nat} (hn : 0 < n) (hp : ∀ t, p (t + n) = p t) (m : Nat) : leastT p n m ≤ leastT p n (m + 1) ∧ leastT p n (m + 1) ≤ leastT p n m + 1 := by
  obtain ⟨j, _, h1⟩ := least_has p hn (m + 1)
  obtain ⟨i, _, h2⟩ := least_has p hn m
  have a1 := least_le hn hp j m
  have a2 := least_le hn hp i (m + 1)
  have a3 := cn_step p j m
  have a4 := cn_step p i m
  omega
theorem least_bound {p : Nat → Bool} {n : Nat} (hn : 0 < n) (hp : ∀ t, p (t + n) = p t) (m : Nat) : leastT p n m ≤ m := Nat.le_trans (least_le hn hp 0 m) (cn_le p 0 m)
/-- Whole frames apart. -/
theorem least_frames {p : Nat → Bool} {n : Nat} (hn : 0 < n) (hp : ∀ t, p (t + n) = p t) (m : Nat) : leastT p n m = leastT p n (m % n) + m / n * cnR p 0 n := by
  have hf : ∀ f, cnR p f m = cnR p f (m % n) + m / n * cnR p 0 n := fun f => by
    have h := cn_frames hp f (m / n) (m % n)
    rw [Nat.div_add_mod'] at h
    omega
  obtain ⟨j, _, h1⟩ := least_has p hn m
  obtain ⟨i, _, h2⟩ := least_has p hn (m % n)
  have a1 := least_le hn hp j (m % n)
  have a2 := least_le hn hp i m
  have b1 := hf j
  have b2 := hf i
  omega
theorem least_all {p : Nat → Bool} {n : Nat} (hn : 0 < n) (h : ∀ t, p t = true) (m : Nat) : leastT p n m = m := by
  obtain ⟨j, _, e⟩ := least_has p hn m
  rw [e, cn_all j m h]
/-- So long it waits for turns. -/
def WaitIs (p : Nat → Bool) (n turns m : Nat) : Prop := turns ≤ leastT p n m ∧ ∀ s, s < m → leastT p n s < turns
theorem wait_one {p : Nat → Bool} {n t a b : Nat} (ha : WaitIs p n t a) (hb : WaitIs p n t b) : a = b := by
  by_cases h1 : a < b
  · have := hb.2 a h1; have := ha.1; omega
  · by_cases h2 : b < a
    · have := ha.2 b h2; have := hb.1; omega
    · omega
theorem wait_zero (p : Nat → Bool) (n : Nat) : WaitIs p n 0 0 := ⟨Nat.zero_le _, fun _ h => absurd h (Nat.not_lt_zero _)⟩
/-- From a tick on. -/
def OneW (p : Nat → Bool) (f turns s : Nat) : Prop := turns ≤ cnR p f s ∧ ∀ x, x < s → cnR p f x < turns
theorem oneW_le {p : Nat → Bool} {n : Nat} (hp : ∀ t, p (t + n) = p t) (hf : 0 < cnR p 0 n) {f t s : Nat} (h : OneW p f t s) : s ≤ t * n := by
  by_cases hs : s ≤ t * n
  · exact hs
  · have h1 := h.2 (t * n) (by omega)
    have h2 := cn_frames hp f t 0
    rw [Nat.add_zero] at h2
    have h3 : t ≤ t * cnR p 0 n := Nat.le_mul_of_pos_right t hf
    have h4 : cnR p f 0 = 0 := rfl
    omega
/-- The longest of all that begin within a frame. -/
theorem wait_most {p : Nat → Bool} {n t M : Nat} (hn : 0 < n) (hall : ∀ f, f < n → ∃ s, OneW p f t s ∧ s ≤ M) (hone : ∃ f, f < n ∧ OneW p f t M) (hp : ∀ x, p (x + n) = p x) : WaitIs p n t M := by
  constructor
  · obtain ⟨j, hj, e⟩ := least_has p hn M
    obtain ⟨s, h1, h2⟩ := hall j hj
    rw [e]
    exact Nat.le_trans h1.1 (cn_mono p j h2)
  · intro s hs
    obtain ⟨f, _, h⟩ := hone
    exact Nat.lt_of_le_of_lt (least_le hn hp f s) (h.2 s hs)
/-- What is wrong with a frame and a room. -/
def supE (n : Int) (l : List S3) (r : Int) : Int := if (fchk n l).2 = 0 then (if r < 0 ∨ 4 < r then 1 else 0) else (fchk n l).2
def turnsE (n : Int) (l : List S3) (r f m : Int) : Int := if supE n l r = 0 then (if f < 0 ∨ 2000 < f ∨ m < 0 ∨ 2000 < m then 1 else 0) else supE n l r
def leastE (n : Int) (l : List S3) (r m : Int) : Int := if supE n l r = 0 then (if m < 0 ∨ 2000 < m then 1 else 0) else supE n l r
def waitE (n : Int) (l : List S3) (r t : Int) : Int := if supE n l r = 0 then (if t < 0 ∨ 100 < t then 1 else if t ≠ 0 ∧ cnR (hasT n l r) 0 n.toNat = 0 then 5 else 0) else supE n l r
def turnsV (n : Int) (l : List S3) (r f m : Int) : Int := if turnsE n l r f m = 0 then (cnR (hasT n l r) f.toNat m.toNat : Int) else 0
def leastV (n : Int) (l : List S3) (r m : Int) : Int := if leastE n l r m = 0 then (leastT (hasT n l r) n.toNat m.toNat : Int) else 0
theorem supE_zero {n : Int} {l : List S3} {r : Int} (h : supE n l r = 0) : (fchk n l).2 = 0 ∧ 0 ≤ r ∧ r ≤ 4 := by
  unfold supE at h
  split at h
  · rename_i h0
    split at h
    · cases h
    · exact ⟨h0, by omega, by omega⟩
  · rename_i h0
    exact absurd h h0
theorem turnsE_zero {n : Int} {l : List S3} {r f m : Int} (h : turnsE n l r f m = 0) : supE n l r = 0 ∧ 0 ≤ f ∧ f ≤ 2000 ∧ 0 ≤ m ∧ m ≤ 2000 := by
  unfold turnsE at h
  split at h
  · rename_i h0
    split at h
    · cases h
    · exact ⟨h0, by omega, by omega, by omega, by omega⟩
  · rename_i h0
    exact absurd h h0
theorem leastE_zero {n : Int} {l : List S3} {r m : Int} (h : leastE n l r m = 0) : supE n l r = 0 ∧ 0 ≤ m ∧ m ≤ 2000 := by
  unfold leastE at h
  split at h
  · rename_i h0
    split at h
    · cases h
    · exact ⟨h0, by omega, by omega⟩
  · rename_i h0
    exact absurd h h0
theorem waitE_zero {n : Int} {l : List S3} {r t : Int} (h : waitE n l r t = 0) : supE n l r = 0 ∧ 0 ≤ t ∧ t ≤ 100 ∧ (t ≠ 0 → 0 < cnR (hasT n l r) 0 n.toNat) := by
  unfold waitE at h
  split at h
  · rename_i h0
    split at h
    · cases h
    · split at h
      · cases h
      · rename_i h1 h2
        exact ⟨h0, by omega, by omega, fun ht => by
          by_cases hc : cnR (hasT n l r) 0 n.toNat = 0
          · exact absurd ⟨ht, hc⟩ h2
          · omega⟩
  · rename_i h0
    exact absurd h h0
end Go.Proofs.YtheenonakbokpahDoor

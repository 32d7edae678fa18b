/-
  Plain mathematics for package code, of no program: which op fits in code of so many ops; its name; the bytes of its line.
-/
namespace Go.Proofs.YteejpehfmnjgfafDoor

/-- What A is below, of an op n. -/
def bA (n : Int) : Int := if n = 7 ∨ n = 10 ∨ n = 11 then 1 else 6
/-- What B is below, of an op n in code of 'ops' ops. -/
def bB (n ops : Int) : Int := if n = 1 then 1000 else if n ≤ 5 then 6 else if n ≤ 7 then ops else if n ≤ 9 then 12 else 1
/-- Whether an op fits in code of so many ops. -/
def fitsB (n a b ops : Int) : Bool := decide (1 ≤ n ∧ n ≤ 11 ∧ 0 ≤ a ∧ a < bA n ∧ 0 ≤ b ∧ b < bB n ops)

theorem fitsB_lo {n a b ops : Int} (h : n < 1) : fitsB n a b ops = false := by simp [fitsB]; omega
theorem fitsB_hi {n a b ops : Int} (h : 11 < n) : fitsB n a b ops = false := by simp [fitsB]; omega
theorem fitsB_mk {n a b ops p q : Int} (h1 : 1 ≤ n) (h2 : n ≤ 11) (hp : bA n = p) (hq : bB n ops = q) : fitsB n a b ops = decide (0 ≤ a ∧ a < p ∧ 0 ≤ b ∧ b < q) := by
  simp [fitsB, h1, h2, hp, hq]

/-- An op: What, A, B. -/
abbrev O3 := Int × Int × Int
def ok3 (ops : Int) (o : O3) : Bool := fitsB o.1 o.2.1 o.2.2 ops
/-- Check: which op is wrong, and how. -/
def chk (l : List O3) : Int × Int :=
  if l.length = 0 then (0, 5) else if 20 < l.length then (0, 4) else
    match l.findIdx? (fun o => !ok3 l.length o) with
    | some i => (i, 1)
    | none => (0, 0)
theorem chk_nil : chk [] = (0, 5) := rfl
theorem chk_long {l : List O3} (h : 20 < l.length) : chk l = (0, 4) := by
  unfold chk
  rw [if_neg (by omega), if_pos h]
theorem chk_bad {l : List O3} {i : Nat} (h0 : l.length ≠ 0) (h1 : ¬ 20 < l.length) (h : l.findIdx? (fun o => !ok3 l.length o) = some i) : chk l = ((i : Int), 1) := by
  unfold chk
  rw [if_neg h0, if_neg h1, h]
theorem chk_good {l : List O3} (h0 : l.length ≠ 0) (h1 : ¬ 20 < l.length) (h : l.findIdx? (fun o => !ok3 l.length o) = none) : chk l = (0, 0) := by
  unfold chk
  rw [if_neg h0, if_neg h1, h]
theorem chk_zero {l : List O3} (h : (chk l).2 = 0) : l.length ≠ 0 ∧ l.length ≤ 20 ∧ ∀ o ∈ l, ok3 l.length o = true := by
  unfold chk at h
  split at h
  · simp at h
  · split at h
    · simp at h
    · rename_i h0 h1
      cases hf : l.findIdx? (fun o => !ok3 l.length o) with
      | some i => rw [hf] at h; simp at h
      | none =>
        rw [List.findIdx?_eq_none_iff] at hf
        exact ⟨h0, by omega, fun o ho => by simpa using hf o ho⟩
theorem chk_fst {l : List O3} (h : (chk l).2 = 0) : chk l = (0, 0) := by
  obtain ⟨h0, h1, h2⟩ := chk_zero h
  exact chk_good h0 (by omega) (by rw [List.findIdx?_eq_none_iff]; intro o ho; simp [h2 o ho])
theorem chk_zero_iff {l : List O3} : (chk l).2 = 0 ↔ (l.length ≠ 0 ∧ l.length ≤ 20 ∧ ∀ o ∈ l, ok3 l.length o = true) := by
  refine ⟨chk_zero, fun ⟨h0, h1, h2⟩ => ?_⟩
  rw [chk_good h0 (by omega) (by rw [List.findIdx?_eq_none_iff]; intro o ho; simp [h2 o ho])]
theorem findIdx_hit {α : Type} {p : α → Bool} : ∀ {l : List α} {k : Nat} {o : α}, (∀ i x, i < k → l[i]? = some x → p x = false) → l[k]? = some o → p o = true → l.findIdx? p = some k
  | [], k, o, _, h, _ => by simp at h
  | x :: l, 0, o, _, h, hp => by simp at h; subst h; simp [List.findIdx?_cons, hp]
  | x :: l, k + 1, o, h0, h, hp => by
    have hx : p x = false := h0 0 x (by omega) rfl
    have := findIdx_hit (l := l) (k := k) (o := o) (fun i y hi hy => h0 (i + 1) y (by omega) (by simpa using hy)) (by simpa using h) hp
    simp [List.findIdx?_cons, hx, this]
theorem findIdx_miss {α : Type} {p : α → Bool} {l : List α} (h : ∀ (i : Nat) x, i < l.length → l[i]? = some x → p x = false) : l.findIdx? p = none := by
  rw [List.findIdx?_eq_none_iff]
  intro x hx
  obtain ⟨i, hi, rfl⟩ := List.getElem_of_mem hx
  exact h i _ hi (by simp [hi])

/-- The name of an op. -/
def nameB (n : Int) : List UInt8 :=
  if n = 1 then [115, 101, 116] else if n = 2 then [99, 111, 112, 121] else if n = 3 then [97, 100, 100] else if n = 4 then [115, 117, 98] else if n = 5 then [109, 117, 108] else
  if n = 6 then [122, 101, 114, 111] else if n = 7 then [106, 117, 109, 112] else if n = 8 then [115, 101, 110, 100] else if n = 9 then [116, 97, 107, 101] else if n = 10 then [114, 101, 115, 116] else if n = 11 then [102, 97, 105, 108] else []
/-- The numbers that an op's line says. -/
def numsB (o : O3) : List Int := if o.1 = 7 then [o.2.2] else if o.1 = 10 ∨ o.1 = 11 then [] else [o.2.1, o.2.2]
theorem ok3_range {ops : Int} {o : O3} (h : ok3 ops o = true) : 1 ≤ o.1 ∧ o.1 ≤ 11 ∧ 0 ≤ o.2.1 ∧ o.2.1 < bA o.1 ∧ 0 ≤ o.2.2 ∧ o.2.2 < bB o.1 ops := by
  simpa [ok3, fitsB] using h
theorem bA_le (n : Int) : 1 ≤ bA n ∧ bA n ≤ 6 := by unfold bA; split <;> omega
theorem bB_le (n ops : Int) : bB n ops ≤ max 1000 ops := by unfold bB; split <;> (try split) <;> (try split) <;> (try split) <;> omega
theorem ok3_small {ops : Int} {o : O3} (hops : ops ≤ 1000) (h : ok3 ops o = true) : 1 ≤ o.1 ∧ o.1 ≤ 11 ∧ 0 ≤ o.2.1 ∧ o.2.1 ≤ 5 ∧ 0 ≤ o.2.2 ∧ o.2.2 ≤ 999 := by
  have h1 := ok3_range h
  have h2 := bA_le o.1
  have h3 := bB_le o.1 ops
  omega
theorem name_le (n : Int) : (nameB n).length ≤ 4 := by
  unfold nameB
  repeat' split
  all_goals simp

/-- Which What has a name; 0, if none has. -/
def namedB (l : List UInt8) : Int :=
  if l = nameB 1 then 1 else if l = nameB 2 then 2 else if l = nameB 3 then 3 else if l = nameB 4 then 4 else if l = nameB 5 then 5 else
  if l = nameB 6 then 6 else if l = nameB 7 then 7 else if l = nameB 8 then 8 else if l = nameB 9 then 9 else if l = nameB 10 then 10 else if l = nameB 11 then 11 else 0
theorem named_hit (k : Nat) (h1 : 1 ≤ k) (h2 : k ≤ 11) : namedB (nameB k) = k := by
  have h : k = 1 ∨ k = 2 ∨ k = 3 ∨ k = 4 ∨ k = 5 ∨ k = 6 ∨ k = 7 ∨ k = 8 ∨ k = 9 ∨ k = 10 ∨ k = 11 := by omega
  rcases h with rfl | rfl | rfl | rfl | rfl | rfl | rfl | rfl | rfl | rfl | rfl <;> decide
theorem named_miss {l : List UInt8} (h : ∀ k : Nat, 1 ≤ k → k ≤ 11 → l ≠ nameB k) : namedB l = 0 := by
  unfold namedB
  rw [if_neg (show l ≠ nameB 1 from h 1 (by omega) (by omega)), if_neg (show l ≠ nameB 2 from h 2 (by omega) (by omega)), if_neg (show l ≠ nameB 3 from h 3 (by omega) (by omega)), if_neg (show l ≠ nameB 4 from h 4 (by omega) (by omega)), if_neg (show l ≠ nameB 5 from h 5 (by omega) (by omega)), if_neg (show l ≠ nameB 6 from h 6 (by omega) (by omega)), if_neg (show l ≠ nameB 7 from h 7 (by omega) (by omega)), if_neg (show l ≠ nameB 8 from h 8 (by omega) (by omega)), if_neg (show l ≠ nameB 9 from h 9 (by omega) (by omega)), if_neg (show l ≠ nameB 10 from h 10 (by omega) (by omega)), if_neg (show l ≠ nameB 11 from h 11 (by omega) (by omega))]
theorem named_cases (l : List UInt8) : namedB l = 0 ∨ ∃ k : Nat, 1 ≤ k ∧ k ≤ 11 ∧ namedB l = k ∧ l = nameB k := by
  by_cases h : ∃ k : Nat, 1 ≤ k ∧ k ≤ 11 ∧ l = nameB k
  · obtain ⟨k, h1, h2, rfl⟩ := h
    exact Or.inr ⟨k, h1, h2, named_hit k h1 h2, rfl⟩
  · exact Or.inl (named_miss fun k h1 h2 e => h ⟨k, h1, h2, e⟩)

end Go.Proofs.YteejpehfmnjgfafDoor

/-
  Plain mathematics of a frame, of no program: which span is wrong, and how; who has a tick; shares; gaps.
-/
namespace Go.Proofs.YtheenonakbokpahDoor

/-- A span: From, To, Room. -/
abbrev S3 := Int × Int × Int
def spOk (n : Int) (s : S3) : Bool := decide (0 ≤ s.1 ∧ s.1 < s.2.1 ∧ s.2.1 ≤ n ∧ 0 ≤ s.2.2 ∧ s.2.2 < 5)
/-- Two share a tick. -/
def clashB (s o : S3) : Bool := decide (o.1 < s.2.1 ∧ s.1 < o.2.1)
/-- What is wrong with the span at a place. -/
def badOf (n : Int) (l : List S3) (s : S3) : Int := if spOk n s = true then (if l.any (clashB s) = true then 7 else 0) else 1
def badAt (n : Int) (l : List S3) (i : Nat) : Int := match l[i]? with
  | none => 0
  | some s => badOf n (l.take i) s
def scan (p : Nat → Int) : Nat → Nat → Int × Int
  | 0, _ => (0, 0)
  | m + 1, i => if p i = 0 then scan p m (i + 1) else ((i : Int), p i)
/-- Which span is wrong, and how. -/
def fchk (n : Int) (l : List S3) : Int × Int := if n < 1 ∨ 40 < n then (0, 1) else if 12 < l.length then (0, 4) else scan (badAt n l) l.length 0

theorem badAt_some {n : Int} {l : List S3} {i : Nat} {s : S3} (h : l[i]? = some s) : badAt n l i = badOf n (l.take i) s := by unfold badAt; rw [h]
theorem scan_zero {p : Nat → Int} : ∀ {m i : Nat}, (∀ j, i ≤ j → j < i + m → p j = 0) → scan p m i = (0, 0)
  | 0, _, _ => rfl
  | m + 1, i, h => by
    unfold scan
    rw [if_pos (h i (Nat.le_refl _) (by omega))]
    exact scan_zero fun j h1 h2 => h j (by omega) (by omega)
theorem scan_all {p : Nat → Int} : ∀ {m i : Nat}, (scan p m i).2 = 0 → ∀ j, i ≤ j → j < i + m → p j = 0
  | 0, _, _, j, h1, h2 => by omega
  | m + 1, i, h, j, h1, h2 => by
    unfold scan at h
    split at h
    · rename_i h0
      by_cases hj : j = i
      · subst hj; exact h0
      · exact scan_all h j (by omega) (by omega)
    · rename_i h0
      exact absurd h h0
theorem scan_step {p : Nat → Int} {m i : Nat} {x : Int × Int} (hi : i < m) (h : scan p m 0 = scan p (m - i) i) (h0 : p i = 0) (e : scan p m 0 = x) : scan p (m - (i + 1)) (i + 1) = x := by
  rw [← e, h, show m - i = (m - (i + 1)) + 1 by omega]
  conv => rhs; unfold scan
  rw [if_pos h0]
theorem scan_next {p : Nat → Int} {m i : Nat} (hi : i < m) (h : scan p m 0 = scan p (m - i) i) (h0 : p i = 0) : scan p m 0 = scan p (m - (i + 1)) (i + 1) :=
  (scan_step hi h h0 rfl).symm
theorem scan_hit {p : Nat → Int} {m i : Nat} (hi : i < m) (h : scan p m 0 = scan p (m - i) i) (h0 : p i ≠ 0) : scan p m 0 = ((i : Int), p i) := by
  rw [h, show m - i = (m - (i + 1)) + 1 by omega]
  unfold scan
  rw [if_neg h0]
theorem scan_end {p : Nat → Int} {m : Nat} (h : scan p m 0 = scan p (m - m) m) : scan p m 0 = (0, 0) := by
  rw [h, Nat.sub_self]
  rfl
theorem scan_fst {p : Nat → Int} : ∀ {m i : Nat}, (scan p m i).2 = 0 → scan p m i = (0, 0) := fun h => scan_zero (scan_all h)

theorem fchk_lo {n : Int} {l : List S3} (h : n < 1 ∨ 40 < n) : fchk n l = (0, 1) := by unfold fchk; rw [if_pos h]
theorem fchk_long {n : Int} {l : List S3} (h : ¬ (n < 1 ∨ 40 < n)) (hl : 12 < l.length) : fchk n l = (0, 4) := by unfold fchk; rw [if_neg h, if_pos hl]
theorem fchk_mid {n : Int} {l : List S3} (h : ¬ (n < 1 ∨ 40 < n)) (hl : ¬ 12 < l.length) : fchk n l = scan (badAt n l) l.length 0 := by unfold fchk; rw [if_neg h, if_neg hl]
theorem fchk_zero {n : Int} {l : List S3} (h : (fchk n l).2 = 0) : 1 ≤ n ∧ n ≤ 40 ∧ l.length ≤ 12 ∧ (∀ s ∈ l, spOk n s = true) ∧ fchk n l = (0, 0) := by
  by_cases h1 : n < 1 ∨ 40 < n
  · rw [fchk_lo h1] at h; simp at h
  by_cases h2 : 12 < l.length
  · rw [fchk_long h1 h2] at h; simp at h
  rw [fchk_mid h1 h2] at h ⊢
  refine ⟨by omega, by omega, by omega, fun s hs => ?_, scan_fst h⟩
  obtain ⟨i, hi, rfl⟩ := List.getElem_of_mem hs
  have := scan_all h i (Nat.zero_le _) (by omega)
  rw [badAt_some (List.getElem?_eq_getElem hi)] at this
  unfold badOf at this
  split at this
  · assumption
  · simp at this

/-- A span has a tick. -/
def hits (t : Int) (s : S3) : Bool := decide (s.1 ≤ t ∧ t < s.2.1)
/-- Who has a tick of one frame; -1: none. -/
def hold : List S3 → Int → Int
  | [], _ => -1
  | s :: l, t => if hits t s = true then s.2.2 else hold l t
/-- At which place a span lies that has the tick; -1: none. -/
def hidx (l : List S3) (t : Int) : Int := match l.findIdx? (hits t) with | some i => i | none => -1
theorem hold_some : ∀ {l : List S3} {t : Int} {i : Nat} {s : S3}, l.findIdx? (hits t) = some i → l[i]? = some s → hold l t = s.2.2
  | [], _, _, _, h, _ => by simp at h
  | x :: l, t, i, s, h, hs => by
    rw [List.findIdx?_cons] at h
    unfold hold
    split at h
    · rename_i hx
      simp at h
      subst h
      simp at hs
      subst hs
      rw [if_pos hx]
    · rename_i hx
      rw [if_neg (by simpa using hx)]
      simp only [Option.map_eq_some_iff] at h
      obtain ⟨k, hk, rfl⟩ := h
      exact hold_some hk (by simpa using hs)
theorem hold_none : ∀ {l : List S3} {t : Int}, l.findIdx? (hits t) = none → hold l t = -1
  | [], _, _ => rfl
  | x :: l, t, h => by
    rw [List.findIdx?_eq_none_iff] at h
    unfold hold
    rw [if_neg (by simp [h x (by simp)])]
    exact hold_none (by rw [List.findIdx?_eq_none_iff]; intro y hy; exact h y (by simp [hy]))
theorem hold_range {n : Int} : ∀ {l : List S3} {t : Int}, (∀ s ∈ l, spOk n s = true) → -1 ≤ hold l t ∧ hold l t < 5
  | [], _, _ => by simp [hold]
  | x :: l, t, h => by
    unfold hold
    split
    · have := h x (by simp)
      simp only [spOk, decide_eq_true_eq] at this
      omega
    · exact hold_range (fun s hs => h s (by simp [hs]))
theorem hold_drop {l : List S3} {t : Int} {k : Nat} {s : S3} (hk : l[k]? = some s) : hold (l.drop k) t = if hits t s = true then s.2.2 else hold (l.drop (k + 1)) t := by
  obtain ⟨h, rfl⟩ := List.getElem?_eq_some_iff.1 hk
  rw [List.drop_eq_getElem_cons h]
  rfl

/-- How many of the first ticks a room has. -/
def cnt (h : Nat → Int) (r : Int) : Nat → Nat
  | 0 => 0
  | t + 1 => cnt h r t + if h t = r then 1 else 0
theorem cnt_le (h : Nat → Int) (r : Int) : ∀ t, cnt h r t ≤ t
  | 0 => Nat.le_refl _
  | t + 1 => by have := cnt_le h r t; unfold cnt; split <;> omega
theorem cnt_zero (h : Nat → Int) (r : Int) : ∀ t, cnt h r t = 0 ↔ ∀ j, j < t → h j ≠ r
  | 0 => by simp [cnt]
  | t + 1 => by
    unfold cnt
    constructor
    · intro h0 j hj
      by_cases he : h t = r
      · rw [if_pos he] at h0; omega
      · rw [if_neg he] at h0
        by_cases hjt : j = t
        · subst hjt; exact he
        · exact (cnt_zero h r t).1 (by omega) j (by omega)
    · intro h0
      rw [if_neg (h0 t (by omega)), (cnt_zero h r t).2 (fun j hj => h0 j (by omega))]
theorem cnt_sum (h : Nat → Int) : ∀ t, cnt h 0 t + cnt h 1 t + cnt h 2 t + cnt h 3 t + cnt h 4 t ≤ t
  | 0 => by simp [cnt]
  | t + 1 => by
    have := cnt_sum h t
    unfold cnt
    by_cases h0 : h t = 0
    · simp [h0]; omega
    by_cases h1 : h t = 1
    · simp [h1]; omega
    by_cases h2 : h t = 2
    · simp [h2]; omega
    by_cases h3 : h t = 3
    · simp [h3]; omega
    by_cases h4 : h t = 4
    · simp [h4]; omega
    · simp [h0, h1, h2, h3, h4]; omega
theorem cnt_up {h : Nat → Int} {r : Int} {t : Nat} (e : h t = r) : cnt h r (t + 1) = cnt h r t + 1 := by simp [cnt, e]
theorem cnt_same {h : Nat → Int} {r : Int} {t : Nat} (e : h t ≠ r) : cnt h r (t + 1) = cnt h r t := by simp [cnt, e]

/-- The widest way so far, and the last tick that was had. -/
def gf (p : Nat → Bool) : Nat → Int × Int
  | 0 => (0, -1)
  | t + 1 => if p t = true then (if 0 ≤ (gf p t).2 then max (gf p t).1 ((t : Int) - (gf p t).2) else (gf p t).1, (t : Int)) else gf p t
theorem gf_hit {p : Nat → Bool} {t : Nat} (h : p t = true) : gf p (t + 1) = (if 0 ≤ (gf p t).2 then max (gf p t).1 ((t : Int) - (gf p t).2) else (gf p t).1, (t : Int)) := by
  conv => lhs; unfold gf
  rw [if_pos h]
theorem gf_miss {p : Nat → Bool} {t : Nat} (h : p t = false) : gf p (t + 1) = gf p t := by
  conv => lhs; unfold gf
  rw [if_neg (by simp [h])]
/-- A tick that is had, and the next one. -/
def Pair (p : Nat → Bool) (i k : Nat) : Prop := p i = true ∧ p k = true ∧ i < k ∧ ∀ j, i < j → j < k → p j = false
theorem gf_last (p : Nat → Bool) : ∀ t, ((gf p t).2 = -1 ∧ ∀ j, j < t → p j = false) ∨ ∃ a : Nat, (gf p t).2 = a ∧ a < t ∧ p a = true ∧ ∀ j, a < j → j < t → p j = false
  | 0 => Or.inl ⟨rfl, fun j hj => by omega⟩
  | t + 1 => by
    cases hp : p t with
    | true =>
      rw [gf_hit hp]
      exact Or.inr ⟨t, rfl, by omega, hp, fun j h1 h2 => by omega⟩
    | false =>
      rw [gf_miss hp]
      rcases gf_last p t with ⟨h0, h1⟩ | ⟨a, h0, h1, h2, h3⟩
      · refine Or.inl ⟨h0, fun j hj => ?_⟩
        by_cases hjt : j = t
        · subst hjt; exact hp
        · exact h1 j (by omega)
      · refine Or.inr ⟨a, h0, by omega, h2, fun j h4 h5 => ?_⟩
        by_cases hjt : j = t
        · subst hjt; exact hp
        · exact h3 j h4 (by omega)
theorem gf_bound (p : Nat → Bool) (t : Nat) : 0 ≤ (gf p t).1 ∧ (gf p t).1 ≤ t ∧ -1 ≤ (gf p t).2 ∧ (gf p t).2 < t := by
  induction t with
  | zero => simp [gf]
  | succ t ih =>
    cases hp : p t with
    | true =>
      rw [gf_hit hp]
      simp only
      split <;> omega
    | false => rw [gf_miss hp]; omega
theorem gf_most (p : Nat → Bool) : ∀ t, (∀ i k, Pair p i k → k < t → (k : Int) - i ≤ (gf p t).1) ∧ ((gf p t).1 = 0 ∨ ∃ i k, Pair p i k ∧ k < t ∧ (gf p t).1 = (k : Int) - i)
  | 0 => ⟨fun i k _ h => by omega, Or.inl rfl⟩
  | t + 1 => by
    obtain ⟨h1, h2⟩ := gf_most p t
    cases hp : p t with
    | false =>
      rw [gf_miss hp]
      refine ⟨fun i k hk hlt => ?_, ?_⟩
      · by_cases hkt : k = t
        · subst hkt; rw [hk.2.1] at hp; cases hp
        · exact h1 i k hk (by omega)
      · rcases h2 with h2 | ⟨i, k, hk, hlt, he⟩
        · exact Or.inl h2
        · exact Or.inr ⟨i, k, hk, by omega, he⟩
    | true =>
      rw [gf_hit hp]
      simp only
      rcases gf_last p t with ⟨l0, l1⟩ | ⟨a, l0, l1, l2, l3⟩
      · rw [if_neg (by rw [l0]; decide)]
        refine ⟨fun i k hk hlt => ?_, ?_⟩
        · have := l1 i (by have := hk.2.2.1; omega)
          rw [hk.1] at this; cases this
        · rcases h2 with h2 | ⟨i, k, hk, hlt, he⟩
          · exact Or.inl h2
          · exact Or.inr ⟨i, k, hk, by omega, he⟩
      · rw [l0, if_pos (by omega)]
        have hpair : Pair p a t := ⟨l2, hp, l1, l3⟩
        refine ⟨fun i k hk hlt => ?_, ?_⟩
        · by_cases hkt : k = t
          · subst hkt
            have hia : i = a := by
              rcases Nat.lt_trichotomy i a with h | h | h
              · have := hk.2.2.2 a h l1; rw [l2] at this; cases this
              · exact h
              · have := l3 i h hk.2.2.1; rw [hk.1] at this; cases this
            subst hia
            omega
          · have := h1 i k hk (by omega)
            omega
        · rcases Int.le_total (gf p t).1 ((t : Int) - a) with h | h
          · rw [Int.max_eq_right h]
            exact Or.inr ⟨a, t, hpair, by omega, rfl⟩
          · rw [Int.max_eq_left h]
            rcases h2 with h2 | ⟨i, k, hk, hlt, he⟩
            · exact Or.inl h2
            · exact Or.inr ⟨i, k, hk, by omega, he⟩

theorem first_from {p : Nat → Bool} : ∀ (d a : Nat), p (a + d) = true → ∃ k, a ≤ k ∧ k ≤ a + d ∧ p k = true ∧ ∀ j, a ≤ j → j < k → p j = false
  | 0, a, h => ⟨a, by omega, by omega, h, fun j h1 h2 => by omega⟩
  | d + 1, a, h => by
    cases ha : p a with
    | true => exact ⟨a, by omega, by omega, ha, fun j h1 h2 => by omega⟩
    | false =>
      obtain ⟨k, h1, h2, h3, h4⟩ := first_from d (a + 1) (by rw [show a + 1 + d = a + (d + 1) by omega]; exact h)
      refine ⟨k, by omega, by omega, h3, fun j h5 h6 => ?_⟩
      by_cases hja : j = a
      · subst hja; exact ha
      · exact h4 j (by omega) h6
theorem last_to {p : Nat → Bool} : ∀ (d a : Nat), p a = true → ∃ k, a ≤ k ∧ k ≤ a + d ∧ p k = true ∧ ∀ j, k < j → j ≤ a + d → p j = false
  | 0, a, h => ⟨a, by omega, by omega, h, fun j h1 h2 => by omega⟩
  | d + 1, a, h => by
    cases hb : p (a + (d + 1)) with
    | true => exact ⟨a + (d + 1), by omega, by omega, hb, fun j h1 h2 => by omega⟩
    | false =>
      obtain ⟨k, h1, h2, h3, h4⟩ := last_to d a h
      refine ⟨k, by omega, by omega, h3, fun j h5 h6 => ?_⟩
      by_cases hja : j = a + (d + 1)
      · subst hja; exact hb
      · exact h4 j h5 (by omega)

/-- Again and again. -/
def Per (p : Nat → Bool) (n : Nat) : Prop := ∀ t, p (t + n) = p t
theorem Per.mul {p : Nat → Bool} {n : Nat} (h : Per p n) (t : Nat) : ∀ q, p (t + n * q) = p t
  | 0 => by simp
  | q + 1 => by rw [Nat.mul_succ, ← Nat.add_assoc, h, h.mul t q]
theorem Per.mod {p : Nat → Bool} {n : Nat} (h : Per p n) (t : Nat) : p (t % n) = p t := by
  conv => rhs; rw [← Nat.mod_add_div t n]
  rw [h.mul]
theorem Pair.le {p : Nat → Bool} {n i k : Nat} (hn : 0 < n) (h : Per p n) (hp : Pair p i k) : k ≤ i + n := by
  rcases Nat.lt_or_ge (i + n) k with h1 | h1
  · have := hp.2.2.2 (i + n) (by omega) h1
    rw [h, hp.1] at this; cases this
  · exact h1
theorem Pair.shift {p : Nat → Bool} {n i k : Nat} (h : Per p n) (hp : Pair p i k) : Pair p (i + n) (k + n) :=
  ⟨by rw [h]; exact hp.1, by rw [h]; exact hp.2.1, by have := hp.2.2.1; omega, fun j h1 h2 => by
    rw [show j = (j - n) + n by omega, h]
    exact hp.2.2.2 (j - n) (by omega) (by omega)⟩
theorem Pair.back {p : Nat → Bool} {n i k : Nat} (h : Per p n) (hp : Pair p (i + n) (k + n)) : Pair p i k :=
  ⟨by rw [← h]; exact hp.1, by rw [← h]; exact hp.2.1, by have := hp.2.2.1; omega, fun j h1 h2 => by
    rw [← h]
    exact hp.2.2.2 (j + n) (by omega) (by omega)⟩
theorem Pair.low {p : Nat → Bool} {n : Nat} (hn : 0 < n) (h : Per p n) : ∀ (i k : Nat), Pair p i k → ∃ i' k', Pair p i' k' ∧ i' < n ∧ (k' : Int) - i' = (k : Int) - i := fun i => by
  induction i using Nat.strongRecOn with
  | ind i ih =>
    intro k hp
    by_cases hi : i < n
    · exact ⟨i, k, hp, hi, rfl⟩
    · have hk := hp.2.2.1
      have hp' : Pair p (i - n) (k - n) := by
        apply Pair.back h
        rw [show i - n + n = i by omega, show k - n + n = k by omega]
        exact hp
      obtain ⟨i', k', h1, h2, h3⟩ := ih (i - n) (by omega) (k - n) hp'
      exact ⟨i', k', h1, h2, by omega⟩
/-- The gap. -/
def gap (p : Nat → Bool) (n : Nat) : Int := (gf p (2 * n)).1
/-- What the loop over one frame holds. -/
def Wide (p : Nat → Bool) (t : Nat) (m : Int) : Prop := (∀ i k, Pair p i k → i < t → (k : Int) - i ≤ m) ∧ (m = 0 ∨ ∃ i k, Pair p i k ∧ i < t ∧ m = (k : Int) - i)
theorem Wide.zero (p : Nat → Bool) : Wide p 0 0 := ⟨fun i k _ h => by omega, Or.inl rfl⟩
theorem gap_most {p : Nat → Bool} {n : Nat} (hn : 0 < n) (h : Per p n) : ∀ i k, Pair p i k → (k : Int) - i ≤ gap p n := fun i k hp => by
  obtain ⟨i', k', h1, h2, h3⟩ := Pair.low hn h i k hp
  rw [← h3]
  exact (gf_most p (2 * n)).1 i' k' h1 (by have := h1.le hn h; omega)
theorem gap_wide {p : Nat → Bool} {n : Nat} {m : Int} (hn : 0 < n) (h : Per p n) (hw : Wide p n m) (hm : 0 ≤ m) : m = gap p n := by
  have hb := gf_bound p (2 * n)
  apply Int.le_antisymm
  · rcases hw.2 with h0 | ⟨i, k, hp, hi, he⟩
    · rw [h0]; exact hb.1
    · rw [he]; exact gap_most hn h i k hp
  · rcases (gf_most p (2 * n)).2 with h0 | ⟨i, k, hp, hi, he⟩
    · unfold gap; rw [h0]; exact hm
    · unfold gap
      rw [he]
      obtain ⟨i', k', h1, h2, h3⟩ := Pair.low hn h i k hp
      rw [← h3]
      exact hw.1 i' k' h1 h2
theorem Wide.miss {p : Nat → Bool} {t : Nat} {m : Int} (h : Wide p t m) (hp : p t = false) : Wide p (t + 1) m := by
  refine ⟨fun i k hk hi => ?_, ?_⟩
  · by_cases hit : i = t
    · subst hit; rw [hk.1] at hp; cases hp
    · exact h.1 i k hk (by omega)
  · rcases h.2 with h0 | ⟨i, k, hk, hi, he⟩
    · exact Or.inl h0
    · exact Or.inr ⟨i, k, hk, by omega, he⟩
theorem Pair.same {p : Nat → Bool} {i k k' : Nat} (h : Pair p i k) (h' : Pair p i k') : k = k' := by
  rcases Nat.lt_trichotomy k k' with h1 | h1 | h1
  · have := h'.2.2.2 k h.2.2.1 h1; rw [h.2.1] at this; cases this
  · exact h1
  · have := h.2.2.2 k' h'.2.2.1 h1; rw [h'.2.1] at this; cases this
theorem Wide.more {p : Nat → Bool} {t k : Nat} {m : Int} (h : Wide p t m) (hp : Pair p t k) (hg : m < (k : Int) - t) : Wide p (t + 1) ((k : Int) - t) := by
  refine ⟨fun i k' hk hi => ?_, Or.inr ⟨t, k, hp, by omega, rfl⟩⟩
  by_cases hit : i = t
  · subst hit
    rw [hp.same hk]
    exact Int.le_refl _
  · have := h.1 i k' hk (by omega)
    omega
theorem Wide.less {p : Nat → Bool} {t k : Nat} {m : Int} (h : Wide p t m) (hp : Pair p t k) (hg : ¬ m < (k : Int) - t) : Wide p (t + 1) m := by
  refine ⟨fun i k' hk hi => ?_, ?_⟩
  · by_cases hit : i = t
    · subst hit
      rw [← hp.same hk]
      omega
    · exact h.1 i k' hk (by omega)
  · rcases h.2 with h0 | ⟨i, k, hk, hi, he⟩
    · exact Or.inl h0
    · exact Or.inr ⟨i, k, hk, by omega, he⟩
theorem pair_ex {p : Nat → Bool} {n i : Nat} (hn : 0 < n) (h : Per p n) (hp : p i = true) : ∃ k, Pair p i k := by
  obtain ⟨k, h1, h2, h3, h4⟩ := first_from (p := p) (n - 1) (i + 1) (by rw [show i + 1 + (n - 1) = i + n by omega, h]; exact hp)
  exact ⟨k, hp, h3, by omega, fun j h5 h6 => h4 j (by omega) h6⟩
theorem gap_le {p : Nat → Bool} {n : Nat} (hn : 0 < n) (h : Per p n) : gap p n ≤ n := by
  rcases (gf_most p (2 * n)).2 with h0 | ⟨i, k, hp, hi, he⟩
  · unfold gap; rw [h0]; omega
  · unfold gap
    rw [he]
    have := hp.le hn h
    omega
theorem gap_pos {p : Nat → Bool} {n i : Nat} (hn : 0 < n) (h : Per p n) (hp : p i = true) : 1 ≤ gap p n := by
  obtain ⟨k, hk⟩ := pair_ex hn h hp
  have h1 := gap_most hn h i k hk
  have h2 := hk.2.2.1
  omega
theorem gap_none {p : Nat → Bool} {n : Nat} (hn : 0 < n) (h : Per p n) (hp : ∀ j, j < n → p j = false) : gap p n = 0 := by
  rcases (gf_most p (2 * n)).2 with h0 | ⟨i, k, hk, hi, he⟩
  · exact h0
  · have := hp (i % n) (Nat.mod_lt _ hn)
    rw [h.mod, hk.1] at this; cases this
theorem gap_in {p : Nat → Bool} {n i : Nat} (hn : 0 < n) (h : Per p n) (hp : p i = true) (t : Nat) : ∃ k : Nat, (k : Int) < gap p n ∧ p (t + k) = true := by
  -- a tick that is had, behind t - n, not behind t
  have hin : p (i % n) = true := by rw [h.mod]; exact hp
  have hlt := Nat.mod_lt i hn
  obtain ⟨a, a1, a2, a3, a4⟩ := last_to (p := p) (t + n - 1 - i % n) (i % n) hin
  have hend : i % n + (t + n - 1 - i % n) = t + n - 1 := by omega
  rw [hend] at a2 a4
  obtain ⟨k, hk⟩ := pair_ex hn h a3
  have hg := gap_most hn h a k hk
  have hk1 := hk.2.2.1
  have hk2 : t + n ≤ k := by
    rcases Nat.lt_or_ge k (t + n) with h1 | h1
    · have := a4 k hk1 (by omega)
      rw [hk.2.1] at this; cases this
    · exact h1
  refine ⟨k - (t + n), by omega, ?_⟩
  rw [← h]
  rw [show t + (k - (t + n)) + n = k by omega]
  exact hk.2.1

/-- Whether a room has a tick, of any frame. -/
def had (l : List S3) (n : Nat) (r : Int) (t : Nat) : Bool := decide (hold l ((t % n : Nat) : Int) = r)
theorem had_per (l : List S3) (n : Nat) (r : Int) : Per (had l n r) n := fun t => by unfold had; rw [Nat.add_mod_right]
theorem had_cnt {l : List S3} {n : Nat} {r : Int} : cnt (fun t => hold l (t : Int)) r n = 0 ↔ ∀ j, j < n → had l n r j = false := by
  rw [cnt_zero]
  constructor
  · intro h j hj
    unfold had
    rw [Nat.mod_eq_of_lt hj]
    exact decide_eq_false (h j hj)
  · intro h j hj
    have := h j hj
    unfold had at this
    rw [Nat.mod_eq_of_lt hj] at this
    simpa using this
theorem badOf_range {n : Int} {l : List S3} {s : S3} (h : spOk n s = false) : badOf n l s = 1 := by unfold badOf; rw [if_neg (by simp [h])]
theorem badOf_clash {n : Int} {l : List S3} {s : S3} (h : spOk n s = true) (hc : l.any (clashB s) = true) : badOf n l s = 7 := by unfold badOf; rw [if_pos h, if_pos hc]
theorem badOf_none {n : Int} {l : List S3} {s : S3} (h : spOk n s = true) (hc : l.any (clashB s) = false) : badOf n l s = 0 := by unfold badOf; rw [if_pos h, if_neg (by simp [hc])]
end Go.Proofs.YtheenonakbokpahDoor
